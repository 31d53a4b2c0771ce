/-
  DERIVED. GIVEN WITH THE SEED: THE CARDS: each row of YtjjencnnmpefbabDoorRows.lean that lists a variable, with what it lists TIED to the program's text (the seventh form; the later family's looks); each row that meets fmt, with fmt's text TOLD by the authors' own Lean function (tested against real Go, not proved from fmt's source: count such statements apart). THE CARD IS WHAT COUNTS. Prove the row's statement (the work); the ties are given (YtjjencnnmpefbabDoorTie.lean); close each card by the builder's one call (the guide's Derived/Test/ToyasCard.lean, 'card_holds'). Laid BY PROGRAM, IN A SANDBOX (cutbox-door.mjs). By AI agents, Wed Nov 11 2026. No macro, syntax, notation, axiom, sorry.
-/
import Derived.Test.YtjjencnnmpefbabDoorRows
import GoSem.ClaimSeven
namespace Go.Proofs.YtjjencnnmpefbabDoor
namespace Rows

/-- THE TIED CARD OF 'commonholdkeep.FrameFixed'. -/
def frameFixedCard : Claim7 := { stood := { row := frameFixedRow, standIns := [], harness := (true, "3aa297948c619c08ea27e74c58a48264ee21c2b14804e508ea82fd70383b6e32"), looks := false }, kinds := [], alts := [], laidByText := true, laidKinds := [.data], laidTests := true, laidLooks := .later }
def FrameFixedCardSaid : Prop := Claim7.holds Tryd.pinned (.plain (OpenSpec.ofChange frameFixedSpec)) frameFixedCard

/-- THE TIED CARD OF 'commonholdkeep.FrameMany'. -/
def frameManyCard : Claim7 := { stood := { row := frameManyRow, standIns := [], harness := (true, "3aa297948c619c08ea27e74c58a48264ee21c2b14804e508ea82fd70383b6e32"), looks := false }, kinds := [], alts := [], laidByText := true, laidKinds := [.data], laidTests := true, laidLooks := .later }
def FrameManyCardSaid : Prop := Claim7.holds Tryd.pinned (.plain (OpenSpec.ofChange frameManySpec)) frameManyCard

/-- THE SECOND FORM's CARD OF 'commonholdkeep.FrameFixed'. -/
def frameFixedUptoCard : Claim7 := { stood := { row := frameFixedUptoRow, standIns := [], harness := (true, "3aa297948c619c08ea27e74c58a48264ee21c2b14804e508ea82fd70383b6e32"), looks := false }, kinds := [], alts := [], laidByText := true, laidKinds := [.data], laidTests := true, laidLooks := .later }
def FrameFixedUptoCardSaid : Prop := Claim7.holds Tryd.pinned (.plain (OpenSpec.upto frameFixedSpec)) frameFixedUptoCard

/-- THE SECOND FORM's CARD OF 'commonholdkeep.FrameMany'. -/
def frameManyUptoCard : Claim7 := { stood := { row := frameManyUptoRow, standIns := [], harness := (true, "3aa297948c619c08ea27e74c58a48264ee21c2b14804e508ea82fd70383b6e32"), looks := false }, kinds := [], alts := [], laidByText := true, laidKinds := [.data], laidTests := true, laidLooks := .later }
def FrameManyUptoCardSaid : Prop := Claim7.holds Tryd.pinned (.plain (OpenSpec.upto frameManySpec)) frameManyUptoCard
end Rows
end Go.Proofs.YtjjencnnmpefbabDoor
