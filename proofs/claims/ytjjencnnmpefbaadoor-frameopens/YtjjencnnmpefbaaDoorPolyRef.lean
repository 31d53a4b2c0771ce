/- The divisor of the document, as the reference lays it. -/
import Derived.Test.YtjjencnnmpefbaaDoorRefPlain
import Derived.Test.YtjjencnnmpefbaaDoorOwnOcts
import Derived.Test.YtjjencnnmpefbaaDoorOctAppend
import Derived.Test.YtjjencnnmpefbaaDoorLitOcts
import Derived.LoopTactic
import Derived.Handy
namespace Go.Proofs.YtjjencnnmpefbaaDoor
open Go.ChangeShapes Go.WideShapes Go.ChangeAt Go.RowKit

/-- a bit as a number -/
def b2i (b : Bool) : Int := if b then 1 else 0

theorem b2i_byte (b : Bool) : 0 ≤ b2i b ∧ b2i b ≤ 255 := by cases b <;> decide

theorem b2i_xor (a b : Bool) : bits .xor .u8 (b2i a) (b2i b) = b2i (a ^^ b) := by cases a <;> cases b <;> decide

/-- another row is left as it was -/
theorem OwnOcts.other {w : World} {base g n cap : Nat} {f : Nat → Int} (h : OwnOcts w base g n cap f) {g' : Nat} (hne : g ≠ g') (j : Nat) (u : Value) : OwnOcts (w.setCell ⟨g', j, none⟩ u) base g n cap f := by
  refine ⟨h.1, ?_⟩
  rcases h.2 with ⟨h', _⟩ | ⟨g2, cap2, cur, h', h1, h2, h3⟩
  · simp at h'
  · simp only [Value.slice.injEq, Option.some.injEq, Addr.mk.injEq, and_true, true_and] at h'
    obtain ⟨rfl, rfl⟩ := h'
    exact .inr ⟨g, cap, cur, rfl, h1, (Below.heap_setCell w ⟨g', j, none⟩ u g hne).trans h2, h3⟩

theorem cell_other {w : World} {p q : Addr} (u : Value) (h : p.block ≠ q.block) : (w.setCell q u).cell? p = w.cell? p :=
  World.cell?_of_block (w := w) (Below.heap_setCell w q u p.block h)

theorem cell_alloc (w : World) (C : Array Value) (t : TypeId) (fr : Nat × Nat) (j : Nat) : (w.alloc (.cells C t fr)).cell? ⟨w.heap.size, j, none⟩ = C[j]? := by
  have : (w.alloc (.cells C t fr)).heap[w.heap.size]? = some (.cells C t fr) := by
    show (w.heap.push _)[w.heap.size]? = _
    simp
  unfold World.cell?
  rw [this]
  simp

/-- the powers of the divisor -/
def powers : List Nat := [32, 26, 23, 22, 16, 12, 11, 10, 8, 7, 5, 4, 2, 1, 0]

def marks (k i : Nat) : Int := if i ∈ (powers.take k).map (fun p => 32 - p) then 1 else 0

theorem marks_ok : ∀ i, i < 33 → marks 15 i = b2i (divisor i) := by decide

theorem marks_succ : ∀ k, k < 15 → ∀ i, i < 33 → marks (k + 1) i = if i = 32 - powers.getD k 0 then 1 else marks k i := by decide

theorem powers_le : ∀ k, k < 15 → powers.getD k 0 ≤ 32 := by decide

theorem powers_cell : ∀ k, k < 15 → (#[Value.int .i64 32, .int .i64 26, .int .i64 23, .int .i64 22, .int .i64 16, .int .i64 12, .int .i64 11, .int .i64 10, .int .i64 8, .int .i64 7, .int .i64 5, .int .i64 4, .int .i64 2, .int .i64 1, .int .i64 0] : Array Value)[k]? = some (.int .i64 ((powers.getD k 0 : Nat) : Int)) := by
  intro k hk
  match k, hk with
  | 0, _ | 1, _ | 2, _ | 3, _ | 4, _ | 5, _ | 6, _ | 7, _ | 8, _ | 9, _ | 10, _ | 11, _ | 12, _ | 13, _ | 14, _ => rfl

theorem poly_any (w : World) :
    Calls Tryd.prog 32 #[] w fun e w' => ∃ g, e = .returned (.slice (some ⟨g, 0, none⟩) 33 33) ∧ OwnOcts w' w.heap.size g 33 33 (fun i => b2i (divisor i)) ∧ Below w.heap.size w w' := by
  obtain ⟨i0, hi, hz0, hz1, hz2⟩ := info_parts Tryd.infoApp
  go_enter Tryd.func32, Tryd.ntmps32
  go_wp2_with (at_make; refine wpList_make_full _ rfl _ _ 22 rfl w.heap.size 5 i0 (.int .u8 0) 1 Tryd.underlying22 hi hz0 hz1 .i64 .i64 _ _ 33 rfl rfl rfl rfl (by rw [hz2]; omega) (by unfold maxLen; omega) (Nat.le_refl _) ?_; intro w4 hown hg4; have b4 : Below w.heap.size w w4 := (Below.refl _ w).grown hg4 (Nat.le_refl _) (by intro k hk; cases hk))
  go_loopw [7] (fun i wr => ∃ k : Nat, k ≤ 15 ∧ i = .int .i64 k ∧ Hid (OwnOcts wr w.heap.size w.heap.size 33 33 (marks k) ∧ Below w.heap.size w wr ∧ w.heap.size < w4.heap.size ∧ ∀ j, j < 15 → wr.cell? ⟨w4.heap.size, j, none⟩ = some (.int .i64 ((powers.getD j 0 : Nat) : Int)))) (fun i _ => 15 - (intOf i).toNat)
  case atStart =>
    have hO := made_ownOcts hown
    exact ⟨0, Nat.zero_le _, rfl, (hO.later ((Below.refl _ _).alloc (Nat.le_refl _) _)).congr (fun i _ => by simp [marks]), b4.alloc b4.size _, hO.lt.2, fun j hj => (cell_alloc _ _ _ _ j).trans (powers_cell j hj)⟩
  case round =>
    obtain ⟨k, hk, rfl, HR⟩ := hrel
    by_cases hlt : k < 15
    · obtain ⟨p, hp⟩ : ∃ p, p = powers.getD k 0 := ⟨_, rfl⟩
      have hp32 := powers_le k hlt
      have hc := HR.out.2.2.2 k hlt
      rw [← hp] at hc hp32
      obtain ⟨m, hm⟩ : ∃ m, m = 32 - p := ⟨_, rfl⟩
      have hm2 : (32 : Int) - (p : Int) = (m : Int) := by omega
      have hm3 : m < 33 := by omega
      have hd := HR.out.1.cell hm3
      have hf := HR.out.1.frozen m
      have HM : Hid (m = 32 - powers.getD k 0) := by rw [← hp]; exact hm
      clear hp hm
      generalize marks k m = old at hd
      go_wp2
      go_roundw
      case rel =>
        refine ⟨k + 1, by omega, by go_num, (HR.out.1.stored m 1).congr ?_, HR.out.2.1.setCell (Nat.le_refl _) _, HR.out.2.2.1, ?_⟩
        · intro i hi
          rw [marks_succ k hlt i hi, ← HM.out]
        · intro j hj
          rw [cell_other _ (by have := HR.out.2.2.1; simp only; omega)]
          exact HR.out.2.2.2 j hj
      case measure => simp [intOf]; omega
    · have hkn : k = 15 := by omega
      subst hkn
      go_wp2
      go_ret
      exact ⟨_, rfl, HR.out.1.congr marks_ok, HR.out.2.1⟩

end Go.Proofs.YtjjencnnmpefbaaDoor
