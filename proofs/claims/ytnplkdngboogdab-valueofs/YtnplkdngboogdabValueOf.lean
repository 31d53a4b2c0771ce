/- What Of comes to at every whole number: the fields of the value (Kind, Int, Text) and the error. -/
import Derived.Test.YtnplkdngboogdabChecked
import Derived.WalkKit
import Derived.ProofKit
import Derived.OpenShut
import Derived.Deep.RegionWith
import Derived.Handy
namespace Go.Proofs.Ytnplkdngboogdab
open Go.ChangeShapes Go.WideShapes Go.ChangeAt Go.RowKit

theorem Grown_trans {a b c : World} (h : Grown a b) (k : Grown b c) : Grown a c :=
  ⟨World.keptBut_trans (h.frame _) (k.frame _), fun x => (k.2.1 x).trans (h.2.1 x), Nat.le_trans h.2.2 k.2.2⟩

/-- a struct of three cells that was laid ahead of a call stands behind it -/
theorem kept3 {w1 w2 : World} {c0 c1 c2 : Value} {T : TypeId} (b : Below (w1.alloc (.cells #[c0, c1, c2] T)).heap.size (w1.alloc (.cells #[c0, c1, c2] T)) w2) :
    w1.heap.size < w2.heap.size ∧ w2.cell? ⟨w1.heap.size, 0, none⟩ = some c0 ∧ w2.cell? ⟨w1.heap.size, 1, none⟩ = some c1 ∧ w2.cell? ⟨w1.heap.size, 2, none⟩ = some c2 := by
  have hs := b.size
  simp at hs
  refine ⟨by omega, ?_, ?_, ?_⟩
  · exact (b.cell (p := ⟨w1.heap.size, 0, none⟩) (by simp)).trans (by simp)
  · exact (b.cell (p := ⟨w1.heap.size, 1, none⟩) (by simp)).trans (by simp)
  · exact (b.cell (p := ⟨w1.heap.size, 2, none⟩) (by simp)).trans (by simp)

/-- the Kind of the value of a truth value -/
def ofKind (t : Int) : Int := if t = 0 then 1 else if t = 2 then 1 else 0

/-- the Int of the value of a truth value -/
def ofInt (t : Int) : Int := if t = 2 then 1 else 0

/-- 0 (OK) of a truth value, else 2 (ErrRange) -/
def ofErr (t : Int) : Int := if 0 ≤ t ∧ t ≤ 2 then 0 else 2

theorem Of_any (t : Int) (w : World) :
    Calls Try.prog 5 #[.int .i64 t] w fun e w' => e = .returned (.tuple #[.agg #[.int .i64 (ofKind t), .int .i64 (ofInt t), .string ⟨#[]⟩], .int .i64 (ofErr t)]) ∧ Grown w w' ∧ Below w.heap.size w w' := by
  by_cases h0 : t = 0
  · subst h0
    go_enter Try.func5, Try.ntmps5
    go_wp2
    refine bodyPost_ret (v := .tuple #[.agg #[.int .i64 1, .int .i64 0, .string ⟨#[]⟩], .int .i64 0]) (by simp [results, Try.results5, go_sem]) rfl ⟨rfl, ?_, ?_⟩ <;> go_grown
  · by_cases h1 : t = 1
    · subst h1
      go_enter Try.func5, Try.ntmps5
      go_wp2
      refine bodyPost_ret (v := .tuple #[.agg #[.int .i64 0, .int .i64 0, .string ⟨#[]⟩], .int .i64 0]) (by simp [results, Try.results5, go_sem]) rfl ⟨rfl, ?_, ?_⟩ <;> go_grown
    · by_cases h2 : t = 2
      · subst h2
        go_enter Try.func5, Try.ntmps5
        go_wp2
        refine bodyPost_ret (v := .tuple #[.agg #[.int .i64 1, .int .i64 1, .string ⟨#[]⟩], .int .i64 0]) (by simp [results, Try.results5, go_sem]) rfl ⟨rfl, ?_, ?_⟩ <;> go_grown
      · have h : ¬ (0 ≤ t ∧ t ≤ 2) := by omega
        have ek : ofKind t = 0 := by simp [ofKind, h0, h2]
        have ev : ofInt t = 0 := by simp [ofInt, h2]
        have ee : ofErr t = 2 := by simp [ofErr, h]
        have g0 : (t == 0) = false := by simp [h0]
        have g1 : (t == 1) = false := by simp [h1]
        have g2 : (t == 2) = false := by simp [h2]
        rw [ek, ev, ee]
        go_enter Try.func5, Try.ntmps5
        go_wp2
        refine bodyPost_ret (v := .tuple #[.agg #[.int .i64 0, .int .i64 0, .string ⟨#[]⟩], .int .i64 2]) (by simp [results, Try.results5, go_sem]) rfl ⟨rfl, ?_, ?_⟩ <;> go_grown

end Go.Proofs.Ytnplkdngboogdab
