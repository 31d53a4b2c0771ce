/- What the faces of a layout say of one that was built of raw numbers. -/
import Derived.Test.YtcffikfjbpeggabLyFor
import Derived.Test.YtcffikfjbpeggabLyPlace
namespace Go.Proofs.Ytcffikfjbpeggab
open Go.ChangeShapes Go.WideShapes Go.ChangeAt Go.RowKit

/-- a layout that lies somewhere -/
def LayAt (V : World) (a : Option Addr) (c : Nat) (cs : List (List Int)) : Prop := ForL cs ∧ Lies (kRow kInt) (fun b => b < V.heap.size) V a c cs

theorem LayAt.later {V V' : World} {a : Option Addr} {c : Nat} {cs : List (List Int)} (h : LayAt V a c cs) (hb : Below V.heap.size V V') : LayAt V' a c cs :=
  ⟨h.1, h.2.move (Kept.of_below hb) (fun _ hb2 _ => Nat.lt_of_lt_of_le hb2 hb.size)⟩

theorem LayAt.len {V : World} {a : Option Addr} {c : Nat} {cs : List (List Int)} (h : LayAt V a c cs) : 1 ≤ cs.length ∧ cs.length ≤ 5 := ⟨h.1.2.2.2.1, h.1.len⟩

/-- the parts of a position -/
theorem parts_of {n : Nat} {p : Int} (h1 : 1 ≤ n) (h2 : 0 ≤ p) (h3 : p < 64 * n) : 0 ≤ p % n ∧ p % n < n ∧ 0 ≤ p / n ∧ p / n < 64 ∧ p / n * n + p % n = p :=
  ⟨Int.emod_nonneg _ (by omega), Int.emod_lt_of_pos _ (by omega), Int.ediv_nonneg h2 (by omega), Int.ediv_lt_of_lt_mul (by omega) h3, Int.ediv_mul_add_emod _ _⟩

/-- a position has one pair of parts -/
theorem parts_one {n : Nat} {a b c d : Int} (h1 : 0 ≤ c ∧ c < n) (h2 : 0 ≤ d ∧ d < n) (h : a * n + c = b * n + d) : a = b ∧ c = d := by
  have hn : (0 : Int) < n := by omega
  have e1 : (a * n + c) % n = c := by rw [Int.add_comm, Int.add_mul_emod_self_right, Int.emod_eq_of_lt h1.1 h1.2]
  have e2 : (b * n + d) % n = d := by rw [Int.add_comm, Int.add_mul_emod_self_right, Int.emod_eq_of_lt h2.1 h2.2]
  have e : c = d := by rw [← e1, ← e2, h]
  subst e
  have h3 : a * n = b * n := by omega
  exact ⟨Int.eq_of_mul_eq_mul_right (by omega) h3, rfl⟩

/-- the next position -/
theorem parts_next {n : Nat} {a b c d : Int} (h1 : 0 ≤ c ∧ c < n) (h2 : 0 ≤ d ∧ d < n) (h : b * n + d = a * n + c + 1) : (c + 1 < n ∧ b = a ∧ d = c + 1) ∨ (c + 1 = n ∧ b = a + 1 ∧ d = 0) := by
  by_cases e : c + 1 < n
  · have := parts_one (n := n) (a := b) (b := a) (c := d) (d := c + 1) h2 ⟨by omega, e⟩ (by omega)
    exact .inl ⟨e, this.1, this.2⟩
  · have e2 : (a + 1) * n = a * n + n := by rw [Int.add_mul, Int.one_mul]
    have := parts_one (n := n) (a := b) (b := a + 1) (c := d) (d := 0) h2 ⟨by omega, by omega⟩ (by omega)
    exact .inr ⟨by omega, this.1, this.2⟩

theorem place_at {V : World} {a : Option Addr} {c : Nat} {cs : List (List Int)} (h : LayAt V a c cs) (ep : Int) (e0 : 0 ≤ ep) (e1 : ep ≤ 1000000) (n : Nat) (hn : n = cs.length) (p : Int) (h0 : 0 ≤ p) (h1 : p < 64 * n) :
    Calls Try.prog 8 #[.agg #[.int .i64 ep, .slice a n c], .int .i64 p] V fun e w' => ∃ c0 a0 : Int, e = .returned (.tuple #[.int .i64 c0, .int .i64 a0, .int .i64 0]) ∧ (0 ≤ c0 ∧ c0 < n ∧ 0 ≤ a0 ∧ a0 < 64 ∧ a0 * n + c0 = p) ∧ Below V.heap.size V w' := by
  subst hn
  have hl := h.len
  refine (Place_any ep p a c cs h.1.few (by omega) (by omega) V h.2).mono ?_
  rintro e w' ⟨rfl, hb⟩
  rw [h.1.may e0 e1]
  have e2 : plc true cs.length p = (p % cs.length, p / cs.length, 0) := by
    unfold plc
    rw [if_neg (by simp), if_pos ⟨h0, h1⟩]
  rw [e2]
  exact ⟨_, _, rfl, parts_of hl.1 h0 h1, hb⟩

theorem place_over {V : World} {a : Option Addr} {c : Nat} {cs : List (List Int)} (h : LayAt V a c cs) (ep : Int) (e0 : 0 ≤ ep) (e1 : ep ≤ 1000000) (n : Nat) (hn : n = cs.length) (p : Int) (h1 : p = n * 64) :
    Calls Try.prog 8 #[.agg #[.int .i64 ep, .slice a n c], .int .i64 p] V fun e w' => e = .returned (.tuple #[.int .i64 0, .int .i64 0, .int .i64 2]) ∧ Below V.heap.size V w' := by
  subst hn
  have hl := h.len
  refine (Place_any ep p a c cs h.1.few (by omega) (by omega) V h.2).mono ?_
  rintro e w' ⟨rfl, hb⟩
  rw [h.1.may e0 e1]
  have e2 : plc true cs.length p = (0, 0, 2) := by
    unfold plc
    rw [if_neg (by simp), if_neg (by omega)]
  rw [e2]
  exact ⟨rfl, hb⟩

theorem may_at {V : World} {a : Option Addr} {c : Nat} {cs : List (List Int)} (h : LayAt V a c cs) (ep : Int) (e0 : 0 ≤ ep) (e1 : ep ≤ 1000000) (n : Nat) (hn : n = cs.length) :
    Calls Try.prog 10 #[.agg #[.int .i64 ep, .slice a n c]] V fun e w' => e = .returned (.bool true) ∧ Below V.heap.size V w' := by
  subst hn
  refine (May_any ep a c cs h.1.few V h.2).mono ?_
  rintro e w' ⟨rfl, hb⟩
  rw [h.1.may e0 e1]
  exact ⟨rfl, hb⟩

theorem for_at {ok : Nat → Prop} (la : Option Addr) (m lc : Nat) (ls : List Int) (epoch turn : Int) (hml : m = ls.length) (hm8 : m * 8 ≤ 140737488351232) (w : World) (hL : Lies kInt ok w la lc ls) :
    Calls Try.prog 6 #[.slice la m lc, .int .i64 epoch, .int .i64 turn] w fun e w' => ∃ (cs : List (List Int)) (a : Option Addr) (n c : Nat), e = .returned (.agg #[.int .i64 (epoch % 1000000), .slice a n c]) ∧ (n = cs.length ∧ LayAt w' a c cs) ∧ Below w.heap.size w w' := by
  refine (LayoutFor_any la m lc ls epoch turn hml hm8 w hL).mono ?_
  rintro e w' ⟨cs, a, c, rfl, h1, h2, h3⟩
  exact ⟨cs, a, _, c, rfl, ⟨rfl, h1, h2⟩, h3⟩

end Go.Proofs.Ytcffikfjbpeggab
