/-
  No cell of these rows narrows 'for every input' (looked for: loops, veiled, ifaces, maps, wideKeys, modest, calm, conditions, laid).
  DERIVED. THE GIVEN ROWS OF THIS SEAT. 5 by the template 'for every input the law returns true; each argument reads behind the call as it read before'; 0 by the template 'total and deterministic' (their statements: YtjjdednlddnllabTotals.lean).
  GIVEN WITH THE SEED: the statements are not yours to turn. If you find one false, say at which input.
  Laid BY PROGRAM, IN A SANDBOX (cutbox-rows.mjs): the forced cells as the released guide's own fill.sh prints them over the translation 36e07b5e4615cb53… (all of the seat's roots in one cut). By AI agents, Wed Nov 11 2026. No macro, syntax, notation, axiom, sorry.
-/
import Derived.Test.YtjjdednlddnllabChecked
import GoSem.Claim
import GoSem.ClaimJoined
import GoSem.ClaimMapViews
import Derived.JoinedTies
import Derived.KernelRfl
namespace Go.Proofs.Ytjjdednlddnllab
/- THE CELL 'sum', in the pinned program and in every row, IS THE sha256 OF THE DUMP (.gsa) THAT YtjjdednlddnllabProg.lean LOADS. Nothing in Lean hashes anything: it is a label: what it is worth is what the hold of that sum in a sandbox is worth. -/
noncomputable def Try.pinned : Pinned := { name := "ytjjdednlddnllab", sum := "36e07b5e4615cb53a21f138e6b618617ab307b6ea5177c70d87374fd61c5b9c6", checked := Try.checked }
namespace Rows
def none {H : Type} : Left H := { results := [], args := [] }

/-- 'commonholdkeep.MeldReads': WHATEVER THE INPUT: true; the input reads as it did. -/
def meldReadsSpec : ChangeSpec := { name := "meldReads", fn := fun _ => fun
  | [d] => { results := [.lit (.bool true)], args := [d] }
  | _ => none }
def meldReadsRow : OpenClaim := { program := "ytjjdednlddnllab", sum := "36e07b5e4615cb53a21f138e6b618617ab307b6ea5177c70d87374fd61c5b9c6", func := "commonhold/commonholdkeep.MeldReads", spec := "meldReads", inPlace := ["internal/bytealg.Compare", "slices.overlaps[commonhold/api.Done]"], unfollowed := true, recurses := true, apart := false }
def MeldReadsSaid : Prop := meldReadsRow.holds Try.pinned (OpenSpec.ofChange meldReadsSpec)

/-- ITS FALSE NEIGHBOUR: 'it returns false'. Refute it at one input. -/
def meldReadsWrong : ChangeSpec := { name := "meldReads", fn := fun _ => fun
  | [d] => { results := [.lit (.bool false)], args := [d] }
  | _ => none }
def MeldReadsWrongFalsely : Prop := meldReadsRow.holds Try.pinned (OpenSpec.ofChange meldReadsWrong)

/-- 'commonholdkeep.MeldTwice': WHATEVER THE INPUT: true; the input reads as it did. -/
def meldTwiceSpec : ChangeSpec := { name := "meldTwice", fn := fun _ => fun
  | [d1, d2, d3] => { results := [.lit (.bool true)], args := [d1, d2, d3] }
  | _ => none }
def meldTwiceRow : OpenClaim := { program := "ytjjdednlddnllab", sum := "36e07b5e4615cb53a21f138e6b618617ab307b6ea5177c70d87374fd61c5b9c6", func := "commonhold/commonholdkeep.MeldTwice", spec := "meldTwice", inPlace := ["internal/bytealg.Compare", "slices.overlaps[commonhold/api.Done]"], unfollowed := true, recurses := true, apart := false }
def MeldTwiceSaid : Prop := meldTwiceRow.holds Try.pinned (OpenSpec.ofChange meldTwiceSpec)

/-- ITS FALSE NEIGHBOUR: 'it returns false'. Refute it at one input. -/
def meldTwiceWrong : ChangeSpec := { name := "meldTwice", fn := fun _ => fun
  | [d1, d2, d3] => { results := [.lit (.bool false)], args := [d1, d2, d3] }
  | _ => none }
def MeldTwiceWrongFalsely : Prop := meldTwiceRow.holds Try.pinned (OpenSpec.ofChange meldTwiceWrong)

/-- 'commonholdkeep.MeldJunk': WHATEVER THE INPUT: true; the input reads as it did. -/
def meldJunkSpec : ChangeSpec := { name := "meldJunk", fn := fun _ => fun
  | [d1, d2, d3] => { results := [.lit (.bool true)], args := [d1, d2, d3] }
  | _ => none }
def meldJunkRow : OpenClaim := { program := "ytjjdednlddnllab", sum := "36e07b5e4615cb53a21f138e6b618617ab307b6ea5177c70d87374fd61c5b9c6", func := "commonhold/commonholdkeep.MeldJunk", spec := "meldJunk", inPlace := ["internal/bytealg.Compare", "slices.overlaps[commonhold/api.Done]"], unfollowed := true, recurses := true, apart := false }
def MeldJunkSaid : Prop := meldJunkRow.holds Try.pinned (OpenSpec.ofChange meldJunkSpec)

/-- ITS FALSE NEIGHBOUR: 'it returns false'. Refute it at one input. -/
def meldJunkWrong : ChangeSpec := { name := "meldJunk", fn := fun _ => fun
  | [d1, d2, d3] => { results := [.lit (.bool false)], args := [d1, d2, d3] }
  | _ => none }
def MeldJunkWrongFalsely : Prop := meldJunkRow.holds Try.pinned (OpenSpec.ofChange meldJunkWrong)

/-- 'commonholdkeep.MeldFirst': WHATEVER THE INPUT: true; the input reads as it did. -/
def meldFirstSpec : ChangeSpec := { name := "meldFirst", fn := fun _ => fun
  | [d1, d2, d3] => { results := [.lit (.bool true)], args := [d1, d2, d3] }
  | _ => none }
def meldFirstRow : OpenClaim := { program := "ytjjdednlddnllab", sum := "36e07b5e4615cb53a21f138e6b618617ab307b6ea5177c70d87374fd61c5b9c6", func := "commonhold/commonholdkeep.MeldFirst", spec := "meldFirst", inPlace := ["internal/bytealg.Compare", "slices.overlaps[commonhold/api.Done]"], unfollowed := true, recurses := true, apart := false }
def MeldFirstSaid : Prop := meldFirstRow.holds Try.pinned (OpenSpec.ofChange meldFirstSpec)

/-- ITS FALSE NEIGHBOUR: 'it returns false'. Refute it at one input. -/
def meldFirstWrong : ChangeSpec := { name := "meldFirst", fn := fun _ => fun
  | [d1, d2, d3] => { results := [.lit (.bool false)], args := [d1, d2, d3] }
  | _ => none }
def MeldFirstWrongFalsely : Prop := meldFirstRow.holds Try.pinned (OpenSpec.ofChange meldFirstWrong)

/-- 'commonholdkeep.MeldSerial': WHATEVER THE INPUT: true; the input reads as it did. -/
def meldSerialSpec : ChangeSpec := { name := "meldSerial", fn := fun _ => fun
  | [d] => { results := [.lit (.bool true)], args := [d] }
  | _ => none }
def meldSerialRow : OpenClaim := { program := "ytjjdednlddnllab", sum := "36e07b5e4615cb53a21f138e6b618617ab307b6ea5177c70d87374fd61c5b9c6", func := "commonhold/commonholdkeep.MeldSerial", spec := "meldSerial", inPlace := ["internal/bytealg.Compare", "slices.overlaps[commonhold/api.Done]"], unfollowed := true, recurses := true, apart := false }
def MeldSerialSaid : Prop := meldSerialRow.holds Try.pinned (OpenSpec.ofChange meldSerialSpec)

/-- ITS FALSE NEIGHBOUR: 'it returns false'. Refute it at one input. -/
def meldSerialWrong : ChangeSpec := { name := "meldSerial", fn := fun _ => fun
  | [d] => { results := [.lit (.bool false)], args := [d] }
  | _ => none }
def MeldSerialWrongFalsely : Prop := meldSerialRow.holds Try.pinned (OpenSpec.ofChange meldSerialWrong)

/- THE SECOND FORM. 'bulk': how many values and letters a reading holds, each counted each time it is reached (what is shared counts as often as it is met; a slice's spare places count too). A statement '..UptoSaid' is the law's where the arguments, and the package variables that the reading takes, are together of bulk at most 1048576: NARROWER than '..Said'. Prove '..Said' where nothing that the law and all that it calls make is longer than what came in: it says more and counts as full. Else prove '..UptoSaid'. A law counts once. -/
mutual
def uptoBulk {H : Type} : DataW H → Nat
  | .lit (.string bytes) => bytes.length + 1
  | .lit _ => 1
  | .nil => 1
  | .ptr d => uptoBulk d + 1
  | .slice elems spare => uptoBulkAll elems + uptoBulkAll spare + 1
  | .agg parts => uptoBulkAll parts + 1
  | .iface _ d => uptoBulk d + 1
  | .map entries => uptoBulkEntries entries + 1
  | .held _ => 1
def uptoBulkAll {H : Type} : List (DataW H) → Nat
  | [] => 0
  | d :: r => uptoBulk d + uptoBulkAll r
def uptoBulkEntries {H : Type} : List (Lit × DataW H) → Nat
  | [] => 0
  | x :: r => uptoBulkEntry x + uptoBulkEntries r
def uptoBulkEntry {H : Type} : Lit × DataW H → Nat
  | (.string bytes, d) => bytes.length + uptoBulk d + 1
  | (_, d) => uptoBulk d + 1
 end
def uptoSmall : (H : Type) → List (DataW H) → Bool := fun _ ds => decide (uptoBulkAll ds ≤ 1048576)
def OpenSpec.upto (s : _root_.Go.ChangeSpec) : _root_.Go.OpenSpec := { _root_.Go.OpenSpec.ofChange s with cond := some uptoSmall }

/-- 'commonholdkeep.MeldReads', WHERE WHAT IT READS IS OF BULK AT MOST 1048576: true; the input reads as it did. -/
def meldReadsUptoRow : OpenClaim := { program := "ytjjdednlddnllab", sum := "36e07b5e4615cb53a21f138e6b618617ab307b6ea5177c70d87374fd61c5b9c6", func := "commonhold/commonholdkeep.MeldReads", spec := "meldReads", inPlace := ["internal/bytealg.Compare", "slices.overlaps[commonhold/api.Done]"], unfollowed := true, recurses := true, apart := false, narrowed := true }
def MeldReadsUptoSaid : Prop := meldReadsUptoRow.holds Try.pinned (OpenSpec.upto meldReadsSpec)

/-- 'commonholdkeep.MeldTwice', WHERE WHAT IT READS IS OF BULK AT MOST 1048576: true; the input reads as it did. -/
def meldTwiceUptoRow : OpenClaim := { program := "ytjjdednlddnllab", sum := "36e07b5e4615cb53a21f138e6b618617ab307b6ea5177c70d87374fd61c5b9c6", func := "commonhold/commonholdkeep.MeldTwice", spec := "meldTwice", inPlace := ["internal/bytealg.Compare", "slices.overlaps[commonhold/api.Done]"], unfollowed := true, recurses := true, apart := false, narrowed := true }
def MeldTwiceUptoSaid : Prop := meldTwiceUptoRow.holds Try.pinned (OpenSpec.upto meldTwiceSpec)

/-- 'commonholdkeep.MeldJunk', WHERE WHAT IT READS IS OF BULK AT MOST 1048576: true; the input reads as it did. -/
def meldJunkUptoRow : OpenClaim := { program := "ytjjdednlddnllab", sum := "36e07b5e4615cb53a21f138e6b618617ab307b6ea5177c70d87374fd61c5b9c6", func := "commonhold/commonholdkeep.MeldJunk", spec := "meldJunk", inPlace := ["internal/bytealg.Compare", "slices.overlaps[commonhold/api.Done]"], unfollowed := true, recurses := true, apart := false, narrowed := true }
def MeldJunkUptoSaid : Prop := meldJunkUptoRow.holds Try.pinned (OpenSpec.upto meldJunkSpec)

/-- 'commonholdkeep.MeldFirst', WHERE WHAT IT READS IS OF BULK AT MOST 1048576: true; the input reads as it did. -/
def meldFirstUptoRow : OpenClaim := { program := "ytjjdednlddnllab", sum := "36e07b5e4615cb53a21f138e6b618617ab307b6ea5177c70d87374fd61c5b9c6", func := "commonhold/commonholdkeep.MeldFirst", spec := "meldFirst", inPlace := ["internal/bytealg.Compare", "slices.overlaps[commonhold/api.Done]"], unfollowed := true, recurses := true, apart := false, narrowed := true }
def MeldFirstUptoSaid : Prop := meldFirstUptoRow.holds Try.pinned (OpenSpec.upto meldFirstSpec)

/-- 'commonholdkeep.MeldSerial', WHERE WHAT IT READS IS OF BULK AT MOST 1048576: true; the input reads as it did. -/
def meldSerialUptoRow : OpenClaim := { program := "ytjjdednlddnllab", sum := "36e07b5e4615cb53a21f138e6b618617ab307b6ea5177c70d87374fd61c5b9c6", func := "commonhold/commonholdkeep.MeldSerial", spec := "meldSerial", inPlace := ["internal/bytealg.Compare", "slices.overlaps[commonhold/api.Done]"], unfollowed := true, recurses := true, apart := false, narrowed := true }
def MeldSerialUptoSaid : Prop := meldSerialUptoRow.holds Try.pinned (OpenSpec.upto meldSerialSpec)

end Rows
end Go.Proofs.Ytjjdednlddnllab
