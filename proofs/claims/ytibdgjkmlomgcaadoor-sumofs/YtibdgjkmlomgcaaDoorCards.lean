/-
  DERIVED. GIVEN WITH THE SEED: THE CARDS: each row of YtibdgjkmlomgcaaDoorRows.lean that lists a variable, with what it lists TIED to the program's text (the seventh form; the later family's looks); each row that meets fmt, with fmt's text TOLD by the authors' own Lean function (tested against real Go, not proved from fmt's source: count such statements apart). THE CARD IS WHAT COUNTS. Prove the row's statement (the work); the ties are given (YtibdgjkmlomgcaaDoorTie.lean); close each card by the builder's one call (the guide's Derived/Test/ToyasCard.lean, 'card_holds'). Laid BY PROGRAM, IN A SANDBOX (cutbox-door.mjs). By AI agents, Wed Nov 11 2026. No macro, syntax, notation, axiom, sorry.
-/
import Derived.Test.YtibdgjkmlomgcaaDoorRows
import GoSem.ClaimSeven
namespace Go.Proofs.YtibdgjkmlomgcaaDoor
namespace Rows

/-- THE TIED CARD OF 'commonholdlaw.SumOfs'. -/
def sumOfsCard : Claim7 := { stood := { row := sumOfsRow, standIns := [], harness := (true, "52a8b3aea4e653344220f6b5ae5d6275540cebf81699a40d0f480d3ea6befea3"), looks := false }, kinds := [], alts := [], laidByText := true, laidKinds := [.data], laidTests := true, laidLooks := .later }
def SumOfsCardSaid : Prop := Claim7.holds Tryd.pinned (.plain (OpenSpec.ofChange sumOfsSpec)) sumOfsCard

/-- THE TIED CARD OF 'commonholdlaw.SumMores'. -/
def sumMoresCard : Claim7 := { stood := { row := sumMoresRow, standIns := [], harness := (true, "52a8b3aea4e653344220f6b5ae5d6275540cebf81699a40d0f480d3ea6befea3"), looks := false }, kinds := [], alts := [], laidByText := true, laidKinds := [.data], laidTests := true, laidLooks := .later }
def SumMoresCardSaid : Prop := Claim7.holds Tryd.pinned (.plain (OpenSpec.ofChange sumMoresSpec)) sumMoresCard

/-- THE TIED CARD OF 'commonholdkeep.SumParts'. -/
def sumPartsCard : Claim7 := { stood := { row := sumPartsRow, standIns := [], harness := (true, "52a8b3aea4e653344220f6b5ae5d6275540cebf81699a40d0f480d3ea6befea3"), looks := false }, kinds := [], alts := [], laidByText := true, laidKinds := [.data], laidTests := true, laidLooks := .later }
def SumPartsCardSaid : Prop := Claim7.holds Tryd.pinned (.plain (OpenSpec.ofChange sumPartsSpec)) sumPartsCard

/-- THE TIED CARD OF 'commonholdkeep.SumLinear'. -/
def sumLinearCard : Claim7 := { stood := { row := sumLinearRow, standIns := [], harness := (true, "52a8b3aea4e653344220f6b5ae5d6275540cebf81699a40d0f480d3ea6befea3"), looks := false }, kinds := [], alts := [], laidByText := true, laidKinds := [.data], laidTests := true, laidLooks := .later }
def SumLinearCardSaid : Prop := Claim7.holds Tryd.pinned (.plain (OpenSpec.ofChange sumLinearSpec)) sumLinearCard

/-- THE TIED CARD OF 'commonholdkeep.SumBurst'. -/
def sumBurstCard : Claim7 := { stood := { row := sumBurstRow, standIns := [], harness := (true, "52a8b3aea4e653344220f6b5ae5d6275540cebf81699a40d0f480d3ea6befea3"), looks := false }, kinds := [], alts := [], laidByText := true, laidKinds := [.data], laidTests := true, laidLooks := .later }
def SumBurstCardSaid : Prop := Claim7.holds Tryd.pinned (.plain (OpenSpec.ofChange sumBurstSpec)) sumBurstCard

/-- THE SECOND FORM's CARD OF 'commonholdlaw.SumOfs'. -/
def sumOfsUptoCard : Claim7 := { stood := { row := sumOfsUptoRow, standIns := [], harness := (true, "52a8b3aea4e653344220f6b5ae5d6275540cebf81699a40d0f480d3ea6befea3"), looks := false }, kinds := [], alts := [], laidByText := true, laidKinds := [.data], laidTests := true, laidLooks := .later }
def SumOfsUptoCardSaid : Prop := Claim7.holds Tryd.pinned (.plain (OpenSpec.upto sumOfsSpec)) sumOfsUptoCard

/-- THE SECOND FORM's CARD OF 'commonholdlaw.SumMores'. -/
def sumMoresUptoCard : Claim7 := { stood := { row := sumMoresUptoRow, standIns := [], harness := (true, "52a8b3aea4e653344220f6b5ae5d6275540cebf81699a40d0f480d3ea6befea3"), looks := false }, kinds := [], alts := [], laidByText := true, laidKinds := [.data], laidTests := true, laidLooks := .later }
def SumMoresUptoCardSaid : Prop := Claim7.holds Tryd.pinned (.plain (OpenSpec.upto sumMoresSpec)) sumMoresUptoCard

/-- THE SECOND FORM's CARD OF 'commonholdkeep.SumParts'. -/
def sumPartsUptoCard : Claim7 := { stood := { row := sumPartsUptoRow, standIns := [], harness := (true, "52a8b3aea4e653344220f6b5ae5d6275540cebf81699a40d0f480d3ea6befea3"), looks := false }, kinds := [], alts := [], laidByText := true, laidKinds := [.data], laidTests := true, laidLooks := .later }
def SumPartsUptoCardSaid : Prop := Claim7.holds Tryd.pinned (.plain (OpenSpec.upto sumPartsSpec)) sumPartsUptoCard

/-- THE SECOND FORM's CARD OF 'commonholdkeep.SumLinear'. -/
def sumLinearUptoCard : Claim7 := { stood := { row := sumLinearUptoRow, standIns := [], harness := (true, "52a8b3aea4e653344220f6b5ae5d6275540cebf81699a40d0f480d3ea6befea3"), looks := false }, kinds := [], alts := [], laidByText := true, laidKinds := [.data], laidTests := true, laidLooks := .later }
def SumLinearUptoCardSaid : Prop := Claim7.holds Tryd.pinned (.plain (OpenSpec.upto sumLinearSpec)) sumLinearUptoCard

/-- THE SECOND FORM's CARD OF 'commonholdkeep.SumBurst'. -/
def sumBurstUptoCard : Claim7 := { stood := { row := sumBurstUptoRow, standIns := [], harness := (true, "52a8b3aea4e653344220f6b5ae5d6275540cebf81699a40d0f480d3ea6befea3"), looks := false }, kinds := [], alts := [], laidByText := true, laidKinds := [.data], laidTests := true, laidLooks := .later }
def SumBurstUptoCardSaid : Prop := Claim7.holds Tryd.pinned (.plain (OpenSpec.upto sumBurstSpec)) sumBurstUptoCard
end Rows
end Go.Proofs.YtibdgjkmlomgcaaDoor
