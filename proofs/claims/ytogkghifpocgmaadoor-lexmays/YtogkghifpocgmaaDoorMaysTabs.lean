/- The tables of LexMays' row. -/
import Derived.Test.YtogkghifpocgmaaDoorLexTabs
namespace Go.Proofs.YtogkghifpocgmaaDoor
open Go.ChangeShapes Go.WideShapes Go.ChangeAt Go.RowKit

theorem mays_tabs {W : World} (h : laidMetH Tryd.prog Rows.lexMaysRow.laid W) : MayTabs W := by
  rw [MakeChecks.laidMetH_plain _ _ _ (by kernel_rfl)] at h
  exact mayTabs_of h (.tail _ (.head _)) (.tail _ (.tail _ (.head _))) (.head _)

end Go.Proofs.YtogkghifpocgmaaDoor
