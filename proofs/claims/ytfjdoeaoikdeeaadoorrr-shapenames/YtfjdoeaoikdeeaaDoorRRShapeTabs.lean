/- The tables of ShapeNames' row. -/
import Derived.Test.YtfjdoeaoikdeeaaDoorRRLexTabs
namespace Go.Proofs.YtfjdoeaoikdeeaaDoorRR
open Go.ChangeShapes Go.WideShapes Go.ChangeAt Go.RowKit

theorem shapeNames_tabs {W : World} (h : laidMetH Tryd.prog Rows.shapeNamesRow.laid W) : MayTabs W := by
  rw [MakeChecks.laidMetH_plain _ _ _ (by kernel_rfl)] at h
  exact mayTabs_of h (.tail _ (.head _)) (.tail _ (.tail _ (.head _))) (.head _)

end Go.Proofs.YtfjdoeaoikdeeaaDoorRR
