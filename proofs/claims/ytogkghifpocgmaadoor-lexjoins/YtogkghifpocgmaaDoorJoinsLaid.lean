/- The tables of LexJoins's row. -/
import Derived.Test.YtogkghifpocgmaaDoorHandedAnd
import Derived.Test.YtogkghifpocgmaaDoorLexTabs
namespace Go.Proofs.YtogkghifpocgmaaDoor
open Go.ChangeShapes Go.WideShapes Go.ChangeAt Go.RowKit

theorem lexJoins_tabs {W : World} (h : laidMetH Tryd.prog Rows.lexJoinsRow.laid W) (hs : W.ShapedOpen Tryd.prog) : JoinTabs W := by
  rw [MakeChecks.laidMetH_plain _ _ _ (by kernel_rfl)] at h
  have hm := mayTabs_of h (.tail _ (.tail _ (.tail _ (.tail _ (.head _))))) (.tail _ (.tail _ (.tail _ (.tail _ (.tail _ (.head _)))))) (.tail _ (.tail _ (.tail _ (.head _))))
  exact ⟨hm.1, hm.2, pow_of_reads (Lib.laidMet.reads h (.tail _ (.tail _ (.head _)))), maxLen_some hs⟩

end Go.Proofs.YtogkghifpocgmaaDoor
