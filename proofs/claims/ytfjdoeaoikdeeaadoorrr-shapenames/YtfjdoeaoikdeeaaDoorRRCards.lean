/-
  DERIVED. GIVEN WITH THE SEED: THE CARDS: each row of YtfjdoeaoikdeeaaDoorRRRows.lean that lists a variable, with what it lists TIED to the program's text (the seventh form; the later family's looks); each row that meets fmt, with fmt's text TOLD by the authors' own Lean function (tested against real Go, not proved from fmt's source: count such statements apart). THE CARD IS WHAT COUNTS. Prove the row's statement (the work); the ties are given (YtfjdoeaoikdeeaaDoorRRTie.lean); close each card by the builder's one call (the guide's Derived/Test/ToyasCard.lean, 'card_holds'). Laid BY PROGRAM, IN A SANDBOX (cutbox-door.mjs). By AI agents, Wed Nov 11 2026. No macro, syntax, notation, axiom, sorry.
-/
import Derived.Test.YtfjdoeaoikdeeaaDoorRRRows
import GoSem.ClaimSeven
namespace Go.Proofs.YtfjdoeaoikdeeaaDoorRR
namespace Rows

/-- THE TIED CARD OF 'commonholdlaw.ShapeNames'. -/
def shapeNamesCard : Claim7 := { stood := { row := shapeNamesRow, standIns := [], harness := (true, "2c0ae1cc48e26018352f7f26443e8d3b59251f901aed3942cd83c680cfaa5068"), looks := false }, kinds := [], alts := [], laidByText := true, laidKinds := [.data, .data, .pinned], laidTests := true, laidLooks := .later }
def ShapeNamesCardSaid : Prop := Claim7.holds Tryd.pinned (.plain (OpenSpec.ofChange shapeNamesSpec)) shapeNamesCard

/-- THE SECOND FORM's CARD OF 'commonholdlaw.ShapeNames'. -/
def shapeNamesUptoCard : Claim7 := { stood := { row := shapeNamesUptoRow, standIns := [], harness := (true, "2c0ae1cc48e26018352f7f26443e8d3b59251f901aed3942cd83c680cfaa5068"), looks := false }, kinds := [], alts := [], laidByText := true, laidKinds := [.data, .data, .pinned], laidTests := true, laidLooks := .later }
def ShapeNamesUptoCardSaid : Prop := Claim7.holds Tryd.pinned (.plain (OpenSpec.upto shapeNamesSpec)) shapeNamesUptoCard
end Rows
end Go.Proofs.YtfjdoeaoikdeeaaDoorRR
