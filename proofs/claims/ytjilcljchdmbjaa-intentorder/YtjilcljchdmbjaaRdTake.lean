/- The next bytes of a reader. -/
import Derived.Test.YtjilcljchdmbjaaRdMem
namespace Go.Proofs.Ytjilcljchdmbjaa
open Go.ChangeShapes Go.WideShapes Go.ChangeAt Go.RowKit

/-- the bytes behind the first ones -/
theorem Octs.drop {w : World} {b off cap : Nat} {xs : List Int} (h : Octs w (some ⟨b, off, none⟩) cap xs) {k : Nat} (hk : k ≤ xs.length) : Octs w (some ⟨b, off + k, none⟩) (cap - k) (xs.drop k) := by
  have h1 := h.1
  have h2 := h.2.1
  refine ⟨by rw [List.length_drop]; omega, by rw [List.length_drop]; omega, (fun h => by cases h), fun y hy => h.2.2.2.1 y (List.mem_of_mem_drop hy), ?_⟩
  rcases h.2.2.2.2 with h' | ⟨b', off', e, hc⟩
  · left; subst h'; simp
  · cases e
    right
    refine ⟨b, off + k, rfl, fun i hi => ?_⟩
    rw [List.length_drop] at hi
    rw [Nat.add_assoc, hc (k + i) (by omega)]
    simp [List.getD]

theorem Octs.cut {w : World} {ao : Option Addr} {cap cap' : Nat} {xs : List Int} (h : Octs w ao cap xs) (h1 : xs.length ≤ cap') (h2 : ao = none → cap' = 0) : Octs w ao cap' xs :=
  ⟨h1, h.2.1, h2, h.2.2.2⟩

set_option maxHeartbeats 1000000 in
theorem take_torn (R : Nat) (a : Option Addr) (m cap : Nat) (t : Bool) (n : Int) (w : World) (h : Two w R (.slice a m cap) (.bool t)) (hn : t = true ∨ (m : Int) < n) :
    Calls Try.prog 50 #[.pointer (some ⟨R, 0, none⟩), .int .i64 n] w fun e w' => e = .returned (.slice none 0 0) ∧ w' = w.setCell ⟨R, 1, none⟩ (.bool true) := by
  obtain ⟨k0, k1, f0, f1⟩ := h
  cases t with
  | true =>
    clear hn
    go_enter Try.func50, Try.ntmps50
    go_wp2
    go_ret
    exact ⟨rfl, rfl⟩
  | false =>
    have hn : (m : Int) < n := by rcases hn with e | e; cases e; exact e
    go_enter Try.func50, Try.ntmps50
    go_wp2
    go_ret
    exact ⟨rfl, rfl⟩

/-- what is taken, and what is left -/
def TakePost (R n : Nat) (xs : List Int) (w : World) (e : Ending) (w' : World) : Prop := ∃ (a1 : Option Addr) (c1 : Nat) (a2 : Option Addr) (m2 c2 : Nat), e = .returned (.slice a1 n c1) ∧ w.grownBy w' (some R) ∧ Octs w' a1 c1 (xs.take n) ∧ (∀ ad, a1 = some ad → ad.block < R) ∧ Rdr w' R a2 m2 c2 false (xs.drop n)

theorem rdr_rest {w : World} {R : Nat} {a : Option Addr} {m cap n : Nat} {xs : List Int} (h : Rdr w R a m cap false xs) {a2 : Option Addr} {m2 c2 : Nat} (hm2 : m2 = (xs.drop n).length) (ho : Octs w a2 c2 (xs.drop n)) (hp : Ples a2 c2) (hne : ∀ ad, a2 = some ad → ad.block < R) : Rdr (w.setCell ⟨R, 0, none⟩ (.slice a2 m2 c2)) R a2 m2 c2 false (xs.drop n) :=
  ⟨h.two.set0 _, hm2, ho.set hne _, hp, hne, by rw [List.length_drop]; have := h.few; omega⟩

set_option maxHeartbeats 1000000 in
theorem take_ok (R : Nat) (a : Option Addr) (m cap : Nat) (xs : List Int) (n : Nat) (w : World) (h : Rdr w R a m cap false xs) (hn : n ≤ xs.length) :
    Calls Try.prog 50 #[.pointer (some ⟨R, 0, none⟩), .int .i64 n] w fun e w' => TakePost R n xs w e w' := by
  have HR := put_by h
  obtain ⟨k0, k1, f0, f1⟩ := h.two
  have hm := h.len
  have hcap := h.octs.1
  have h40 := h.few
  rcases h.ples with ⟨rfl, rfl⟩ | ⟨b, off, rfl⟩
  · have hm0 : m = 0 := by omega
    have hn0 : n = 0 := by omega
    subst hm0 hn0
    clear hm hcap hn h h40
    go_enter Try.func50, Try.ntmps50
    go_wp2
    go_ret
    have hx : xs = [] := List.length_eq_zero_iff.1 HR.out.len.symm
    subst hx
    exact ⟨none, 0, none, 0, 0, rfl, grown_set _, Octs.nil _ _ _ (fun _ => rfl), (fun _ h => by cases h), rdr_rest (n := 0) HR.out rfl (Octs.nil _ _ _ (fun _ => rfl)) Ples.none (fun _ h => by cases h)⟩
  · rw [← hm] at hn hcap h40
    clear hm h
    by_cases hc : cap = n
    · subst hc
      go_enter Try.func50, Try.ntmps50
      go_wp2
      go_ret
      have hl : xs.length = cap := by have := HR.out.len; omega
      have hd : xs.drop cap = [] := List.drop_eq_nil_of_le (by omega)
      refine ⟨_, cap, _, 0, 0, rfl, grown_set _, ((HR.out.octs.take cap).cut (by rw [List.length_take]; omega) (fun e => by cases e)).set HR.out.ne _, HR.out.ne, rdr_rest (n := cap) HR.out (by rw [hd]; rfl) (by rw [hd]; exact Octs.nil _ _ _ (fun e => by cases e)) (Ples.some _ _ _) HR.out.ne⟩
    · go_enter Try.func50, Try.ntmps50
      go_wp2
      go_ret
      have hl := HR.out.len
      refine ⟨_, n, _, m - n, cap - n, rfl, grown_set _, ((HR.out.octs.take n).cut (by rw [List.length_take]; omega) (fun e => by cases e)).set HR.out.ne _, HR.out.ne, rdr_rest (n := n) HR.out (by rw [List.length_drop]; omega) (HR.out.octs.drop (by omega)) (Ples.some _ _ _) (fun ad h => ?_)⟩
      have h1 := HR.out.ne _ rfl
      cases h
      exact h1

end Go.Proofs.Ytjilcljchdmbjaa
