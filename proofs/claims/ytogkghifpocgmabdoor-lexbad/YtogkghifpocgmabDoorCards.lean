/-
  DERIVED. GIVEN WITH THE SEED: THE CARDS: each row of YtogkghifpocgmabDoorRows.lean that lists a variable, with what it lists TIED to the program's text (the seventh form; the later family's looks); each row that meets fmt, with fmt's text TOLD by the authors' own Lean function (tested against real Go, not proved from fmt's source: count such statements apart). THE CARD IS WHAT COUNTS. Prove the row's statement (the work); the ties are given (YtogkghifpocgmabDoorTie.lean); close each card by the builder's one call (the guide's Derived/Test/ToyasCard.lean, 'card_holds'). Laid BY PROGRAM, IN A SANDBOX (cutbox-door.mjs). By AI agents, Wed Nov 11 2026. No macro, syntax, notation, axiom, sorry.
-/
import Derived.Test.YtogkghifpocgmabDoorRows
import GoSem.ClaimSeven
namespace Go.Proofs.YtogkghifpocgmabDoor
namespace Rows

/-- THE TIED CARD OF 'commonholdkeep.LexBad'. -/
def lexBadCard : Claim7 := { stood := { row := lexBadRow, standIns := [], harness := (true, "023585f1a753c5aa5751f9f1a2cf439316cfa93a99ec2186cceaf6116fadca59"), looks := true }, kinds := [], alts := [], laidByText := true, laidKinds := [.data, .data, .data, .data, .sentinel, .sentinel, .data, .pinned], laidTests := true, laidLooks := .later }
def LexBadCardSaid : Prop := Claim7.holds Tryd.pinned (.plain (OpenSpec.ofChange lexBadSpec)) lexBadCard

/-- THE TIED CARD OF 'commonholdkeep.LexOver'. -/
def lexOverCard : Claim7 := { stood := { row := lexOverRow, standIns := [], harness := (true, "023585f1a753c5aa5751f9f1a2cf439316cfa93a99ec2186cceaf6116fadca59"), looks := true }, kinds := [], alts := [], laidByText := true, laidKinds := [.data, .data, .data, .data, .sentinel, .sentinel, .data, .pinned], laidTests := true, laidLooks := .later }
def LexOverCardSaid : Prop := Claim7.holds Tryd.pinned (.plain (OpenSpec.ofChange lexOverSpec)) lexOverCard

/-- THE SECOND FORM's CARD OF 'commonholdkeep.LexBad'. -/
def lexBadUptoCard : Claim7 := { stood := { row := lexBadUptoRow, standIns := [], harness := (true, "023585f1a753c5aa5751f9f1a2cf439316cfa93a99ec2186cceaf6116fadca59"), looks := true }, kinds := [], alts := [], laidByText := true, laidKinds := [.data, .data, .data, .data, .sentinel, .sentinel, .data, .pinned], laidTests := true, laidLooks := .later }
def LexBadUptoCardSaid : Prop := Claim7.holds Tryd.pinned (.plain (OpenSpec.upto lexBadSpec)) lexBadUptoCard

/-- THE SECOND FORM's CARD OF 'commonholdkeep.LexOver'. -/
def lexOverUptoCard : Claim7 := { stood := { row := lexOverUptoRow, standIns := [], harness := (true, "023585f1a753c5aa5751f9f1a2cf439316cfa93a99ec2186cceaf6116fadca59"), looks := true }, kinds := [], alts := [], laidByText := true, laidKinds := [.data, .data, .data, .data, .sentinel, .sentinel, .data, .pinned], laidTests := true, laidLooks := .later }
def LexOverUptoCardSaid : Prop := Claim7.holds Tryd.pinned (.plain (OpenSpec.upto lexOverSpec)) lexOverUptoCard
end Rows
end Go.Proofs.YtogkghifpocgmabDoor
