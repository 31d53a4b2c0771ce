/- The table of the program, out of what the row lists. -/
import Derived.Test.YtjjencnnmpefbabDoorRows
import Derived.Test.YtjjencnnmpefbabDoorSumOwn
import Derived.Lib.LaidTab
import Derived.MakeChecks
namespace Go.Proofs.YtjjencnnmpefbabDoor
open Go.ChangeShapes Go.WideShapes Go.ChangeAt Go.RowKit

theorem Tryd.foursAt : Tryd.prog.globalNamed "commonhold/sum.fours" = some 0 := by kernel_rfl

theorem fours_of_laid {W : World} (h : laidMetH Tryd.prog [("commonhold/sum.fours", Rows.laid_commonhold_sum_fours)] W) : Fours W := by
  rw [MakeChecks.laidMetH_plain _ _ _ (by kernel_rfl)] at h
  have e : (Rows.laid_commonhold_sum_fours : DataW Unit) = Lib.tabData .u32 (fours.map fun n : Nat => (n : Int)) := rfl
  rw [e] at h
  have hT := Lib.tabIs_of_head Tryd.foursAt (by kernel_rfl) Tryd.underlying45 Tryd.underlying41 (by kernel_rfl) (by kernel_rfl) h
  intro i hi
  have hc := hT.cell Tryd.foursAt i hi
  rw [hc]
  have : ∀ i, i < 16 → (fours.map fun n : Nat => (n : Int)).getD i 0 = ((fours.getD i 0 : Nat) : Int) := by decide
  rw [this i hi]

theorem Fours.later {w w' : World} (h : Fours w) (hb : Below w.heap.size w w') : Fours w' := fun i hi =>
  (hb.cell (p := ⟨0, i, none⟩) (World.block_lt_of_cell? _ _ (h i hi))).trans (h i hi)

end Go.Proofs.YtjjencnnmpefbabDoor
