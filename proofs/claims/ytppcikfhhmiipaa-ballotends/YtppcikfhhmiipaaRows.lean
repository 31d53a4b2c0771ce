/-
  No cell of these rows narrows 'for every input' (looked for: loops, veiled, ifaces, maps, wideKeys, modest, calm, conditions, laid).
  DERIVED. THE GIVEN ROWS OF THIS SEAT. 4 by the template 'for every input the law returns true; each argument reads behind the call as it read before'; 0 by the template 'total and deterministic' (their statements: YtppcikfhhmiipaaTotals.lean).
  GIVEN WITH THE SEED: the statements are not yours to turn. If you find one false, say at which input.
  Laid BY PROGRAM, IN A SANDBOX (cutbox-rows.mjs): the forced cells as the released guide's own fill.sh prints them over the translation d56a0c2f16cc1381… (all of the seat's roots in one cut). By AI agents, Wed Nov 11 2026. No macro, syntax, notation, axiom, sorry.
-/
import Derived.Test.YtppcikfhhmiipaaChecked
import GoSem.Claim
import GoSem.ClaimJoined
import GoSem.ClaimMapViews
import Derived.JoinedTies
import Derived.KernelRfl
namespace Go.Proofs.Ytppcikfhhmiipaa
/- THE CELL 'sum', in the pinned program and in every row, IS THE sha256 OF THE DUMP (.gsa) THAT YtppcikfhhmiipaaProg.lean LOADS. Nothing in Lean hashes anything: it is a label: what it is worth is what the hold of that sum in a sandbox is worth. -/
noncomputable def Try.pinned : Pinned := { name := "ytppcikfhhmiipaa", sum := "d56a0c2f16cc138169f3cdcd731f1e27b5243ee0421677f8bcc08c573158d95b", checked := Try.checked }
namespace Rows
def none {H : Type} : Left H := { results := [], args := [] }

/-- 'commonholdlaw.BallotPlays': WHATEVER THE INPUT: true; the input reads as it did. -/
def ballotPlaysSpec : ChangeSpec := { name := "ballotPlays", fn := fun _ => fun
  | [d1, d2] => { results := [.lit (.bool true)], args := [d1, d2] }
  | _ => none }
def ballotPlaysRow : OpenClaim := { program := "ytppcikfhhmiipaa", sum := "d56a0c2f16cc138169f3cdcd731f1e27b5243ee0421677f8bcc08c573158d95b", func := "commonhold/commonholdlaw.BallotPlays", spec := "ballotPlays", apart := false }
def BallotPlaysSaid : Prop := ballotPlaysRow.holds Try.pinned (OpenSpec.ofChange ballotPlaysSpec)

/-- ITS FALSE NEIGHBOUR: 'it returns false'. Refute it at one input. -/
def ballotPlaysWrong : ChangeSpec := { name := "ballotPlays", fn := fun _ => fun
  | [d1, d2] => { results := [.lit (.bool false)], args := [d1, d2] }
  | _ => none }
def BallotPlaysWrongFalsely : Prop := ballotPlaysRow.holds Try.pinned (OpenSpec.ofChange ballotPlaysWrong)

/-- 'commonholdkeep.BallotOne': WHATEVER THE INPUT: true; the input reads as it did. -/
def ballotOneSpec : ChangeSpec := { name := "ballotOne", fn := fun _ => fun
  | [d1, d2] => { results := [.lit (.bool true)], args := [d1, d2] }
  | _ => none }
def ballotOneRow : OpenClaim := { program := "ytppcikfhhmiipaa", sum := "d56a0c2f16cc138169f3cdcd731f1e27b5243ee0421677f8bcc08c573158d95b", func := "commonhold/commonholdkeep.BallotOne", spec := "ballotOne", apart := false }
def BallotOneSaid : Prop := ballotOneRow.holds Try.pinned (OpenSpec.ofChange ballotOneSpec)

/-- ITS FALSE NEIGHBOUR: 'it returns false'. Refute it at one input. -/
def ballotOneWrong : ChangeSpec := { name := "ballotOne", fn := fun _ => fun
  | [d1, d2] => { results := [.lit (.bool false)], args := [d1, d2] }
  | _ => none }
def BallotOneWrongFalsely : Prop := ballotOneRow.holds Try.pinned (OpenSpec.ofChange ballotOneWrong)

/-- 'commonholdkeep.BallotEnds': WHATEVER THE INPUT: true; the input reads as it did. -/
def ballotEndsSpec : ChangeSpec := { name := "ballotEnds", fn := fun _ => fun
  | [d1, d2, d3] => { results := [.lit (.bool true)], args := [d1, d2, d3] }
  | _ => none }
def ballotEndsRow : OpenClaim := { program := "ytppcikfhhmiipaa", sum := "d56a0c2f16cc138169f3cdcd731f1e27b5243ee0421677f8bcc08c573158d95b", func := "commonhold/commonholdkeep.BallotEnds", spec := "ballotEnds", apart := false }
def BallotEndsSaid : Prop := ballotEndsRow.holds Try.pinned (OpenSpec.ofChange ballotEndsSpec)

/-- ITS FALSE NEIGHBOUR: 'it returns false'. Refute it at one input. -/
def ballotEndsWrong : ChangeSpec := { name := "ballotEnds", fn := fun _ => fun
  | [d1, d2, d3] => { results := [.lit (.bool false)], args := [d1, d2, d3] }
  | _ => none }
def BallotEndsWrongFalsely : Prop := ballotEndsRow.holds Try.pinned (OpenSpec.ofChange ballotEndsWrong)

/-- 'commonholdkeep.BallotFew': WHATEVER THE INPUT: true; the input reads as it did. -/
def ballotFewSpec : ChangeSpec := { name := "ballotFew", fn := fun _ => fun
  | [d1, d2, d3] => { results := [.lit (.bool true)], args := [d1, d2, d3] }
  | _ => none }
def ballotFewRow : OpenClaim := { program := "ytppcikfhhmiipaa", sum := "d56a0c2f16cc138169f3cdcd731f1e27b5243ee0421677f8bcc08c573158d95b", func := "commonhold/commonholdkeep.BallotFew", spec := "ballotFew", apart := false }
def BallotFewSaid : Prop := ballotFewRow.holds Try.pinned (OpenSpec.ofChange ballotFewSpec)

/-- ITS FALSE NEIGHBOUR: 'it returns false'. Refute it at one input. -/
def ballotFewWrong : ChangeSpec := { name := "ballotFew", fn := fun _ => fun
  | [d1, d2, d3] => { results := [.lit (.bool false)], args := [d1, d2, d3] }
  | _ => none }
def BallotFewWrongFalsely : Prop := ballotFewRow.holds Try.pinned (OpenSpec.ofChange ballotFewWrong)

/- THE SECOND FORM. 'bulk': how many values and letters a reading holds, each counted each time it is reached (what is shared counts as often as it is met; a slice's spare places count too). A statement '..UptoSaid' is the law's where the arguments, and the package variables that the reading takes, are together of bulk at most 1048576: NARROWER than '..Said'. Prove '..Said' where nothing that the law and all that it calls make is longer than what came in: it says more and counts as full. Else prove '..UptoSaid'. A law counts once. -/
mutual
def uptoBulk {H : Type} : DataW H → Nat
  | .lit (.string bytes) => bytes.length + 1
  | .lit _ => 1
  | .nil => 1
  | .ptr d => uptoBulk d + 1
  | .slice elems spare => uptoBulkAll elems + uptoBulkAll spare + 1
  | .agg parts => uptoBulkAll parts + 1
  | .iface _ d => uptoBulk d + 1
  | .map entries => uptoBulkEntries entries + 1
  | .held _ => 1
def uptoBulkAll {H : Type} : List (DataW H) → Nat
  | [] => 0
  | d :: r => uptoBulk d + uptoBulkAll r
def uptoBulkEntries {H : Type} : List (Lit × DataW H) → Nat
  | [] => 0
  | x :: r => uptoBulkEntry x + uptoBulkEntries r
def uptoBulkEntry {H : Type} : Lit × DataW H → Nat
  | (.string bytes, d) => bytes.length + uptoBulk d + 1
  | (_, d) => uptoBulk d + 1
 end
def uptoSmall : (H : Type) → List (DataW H) → Bool := fun _ ds => decide (uptoBulkAll ds ≤ 1048576)
def OpenSpec.upto (s : _root_.Go.ChangeSpec) : _root_.Go.OpenSpec := { _root_.Go.OpenSpec.ofChange s with cond := some uptoSmall }

/-- 'commonholdlaw.BallotPlays', WHERE WHAT IT READS IS OF BULK AT MOST 1048576: true; the input reads as it did. -/
def ballotPlaysUptoRow : OpenClaim := { program := "ytppcikfhhmiipaa", sum := "d56a0c2f16cc138169f3cdcd731f1e27b5243ee0421677f8bcc08c573158d95b", func := "commonhold/commonholdlaw.BallotPlays", spec := "ballotPlays", apart := false, narrowed := true }
def BallotPlaysUptoSaid : Prop := ballotPlaysUptoRow.holds Try.pinned (OpenSpec.upto ballotPlaysSpec)

/-- 'commonholdkeep.BallotOne', WHERE WHAT IT READS IS OF BULK AT MOST 1048576: true; the input reads as it did. -/
def ballotOneUptoRow : OpenClaim := { program := "ytppcikfhhmiipaa", sum := "d56a0c2f16cc138169f3cdcd731f1e27b5243ee0421677f8bcc08c573158d95b", func := "commonhold/commonholdkeep.BallotOne", spec := "ballotOne", apart := false, narrowed := true }
def BallotOneUptoSaid : Prop := ballotOneUptoRow.holds Try.pinned (OpenSpec.upto ballotOneSpec)

/-- 'commonholdkeep.BallotEnds', WHERE WHAT IT READS IS OF BULK AT MOST 1048576: true; the input reads as it did. -/
def ballotEndsUptoRow : OpenClaim := { program := "ytppcikfhhmiipaa", sum := "d56a0c2f16cc138169f3cdcd731f1e27b5243ee0421677f8bcc08c573158d95b", func := "commonhold/commonholdkeep.BallotEnds", spec := "ballotEnds", apart := false, narrowed := true }
def BallotEndsUptoSaid : Prop := ballotEndsUptoRow.holds Try.pinned (OpenSpec.upto ballotEndsSpec)

/-- 'commonholdkeep.BallotFew', WHERE WHAT IT READS IS OF BULK AT MOST 1048576: true; the input reads as it did. -/
def ballotFewUptoRow : OpenClaim := { program := "ytppcikfhhmiipaa", sum := "d56a0c2f16cc138169f3cdcd731f1e27b5243ee0421677f8bcc08c573158d95b", func := "commonhold/commonholdkeep.BallotFew", spec := "ballotFew", apart := false, narrowed := true }
def BallotFewUptoSaid : Prop := ballotFewUptoRow.holds Try.pinned (OpenSpec.upto ballotFewSpec)

end Rows
end Go.Proofs.Ytppcikfhhmiipaa
