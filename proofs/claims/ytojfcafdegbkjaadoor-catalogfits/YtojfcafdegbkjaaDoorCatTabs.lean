/- The tables of CatalogFits' row. -/
import Derived.Test.YtojfcafdegbkjaaDoorLexTabs
namespace Go.Proofs.YtojfcafdegbkjaaDoor
open Go.ChangeShapes Go.WideShapes Go.ChangeAt Go.RowKit

theorem catalogFits_tabs {W : World} (h : laidMetH Tryd.prog Rows.catalogFitsRow.laid W) : MayTabs W := by
  rw [MakeChecks.laidMetH_plain _ _ _ (by kernel_rfl)] at h
  exact mayTabs_of h (.tail _ (.head _)) (.tail _ (.tail _ (.head _))) (.head _)

end Go.Proofs.YtojfcafdegbkjaaDoor
