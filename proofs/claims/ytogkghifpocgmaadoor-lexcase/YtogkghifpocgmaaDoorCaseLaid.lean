/- The tables of LexCase's row. -/
import Derived.Test.YtogkghifpocgmaaDoorHandedAnd
namespace Go.Proofs.YtogkghifpocgmaaDoor
open Go.ChangeShapes Go.WideShapes Go.ChangeAt Go.RowKit

theorem lexCase_tabs {W : World} (h : laidMetH Tryd.prog Rows.lexCaseRow.laid W) (hs : W.ShapedOpen Tryd.prog) : AllTabs W := by
  rw [MakeChecks.laidMetH_plain _ _ _ (by kernel_rfl)] at h
  exact allTabs_of h hs (.tail _ (.tail _ (.tail _ (.tail _ (.tail _ (.tail _ (.head _))))))) (.tail _ (.tail _ (.tail _ (.tail _ (.tail _ (.tail _ (.tail _ (.head _)))))))) (.tail _ (.tail _ (.tail _ (.head _)))) (.tail _ (.tail _ (.tail _ (.tail _ (.head _))))) (.tail _ (.tail _ (.head _)))

end Go.Proofs.YtogkghifpocgmaaDoor
