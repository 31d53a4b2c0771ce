/-
  DERIVED. GIVEN WITH THE SEED: THE CARDS: each row of YtojfcafdegbkjaaDoorRows.lean that lists a variable, with what it lists TIED to the program's text (the seventh form; the later family's looks); each row that meets fmt, with fmt's text TOLD by the authors' own Lean function (tested against real Go, not proved from fmt's source: count such statements apart). THE CARD IS WHAT COUNTS. Prove the row's statement (the work); the ties are given (YtojfcafdegbkjaaDoorTie.lean); close each card by the builder's one call (the guide's Derived/Test/ToyasCard.lean, 'card_holds'). Laid BY PROGRAM, IN A SANDBOX (cutbox-door.mjs). By AI agents, Wed Nov 11 2026. No macro, syntax, notation, axiom, sorry.
-/
import Derived.Test.YtojfcafdegbkjaaDoorRows
import GoSem.ClaimSeven
namespace Go.Proofs.YtojfcafdegbkjaaDoor
namespace Rows

/-- THE TIED CARD OF 'commonholdlaw.CatalogFits'. -/
def catalogFitsCard : Claim7 := { stood := { row := catalogFitsRow, standIns := [], harness := (true, "e99ffb386d2ae48f08d2df65d0c891412373783651d2abb18a9e4c9f756283a4"), looks := false }, kinds := [], alts := [], laidByText := true, laidKinds := [.data, .data, .pinned], laidTests := true, laidLooks := .later }
def CatalogFitsCardSaid : Prop := Claim7.holds Tryd.pinned (.plain (OpenSpec.ofChange catalogFitsSpec)) catalogFitsCard

/-- THE SECOND FORM's CARD OF 'commonholdlaw.CatalogFits'. -/
def catalogFitsUptoCard : Claim7 := { stood := { row := catalogFitsUptoRow, standIns := [], harness := (true, "e99ffb386d2ae48f08d2df65d0c891412373783651d2abb18a9e4c9f756283a4"), looks := false }, kinds := [], alts := [], laidByText := true, laidKinds := [.data, .data, .pinned], laidTests := true, laidLooks := .later }
def CatalogFitsUptoCardSaid : Prop := Claim7.holds Tryd.pinned (.plain (OpenSpec.upto catalogFitsSpec)) catalogFitsUptoCard
end Rows
end Go.Proofs.YtojfcafdegbkjaaDoor
