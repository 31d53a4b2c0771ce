/-
  No cell of these rows narrows 'for every input' (looked for: loops, veiled, ifaces, maps, wideKeys, modest, calm, conditions, laid).
  DERIVED. THE GIVEN ROWS OF THIS SEAT. 3 by the template 'for every input the law returns true; each argument reads behind the call as it read before'; 0 by the template 'total and deterministic' (their statements: YtndnbkgejdindaaTotals.lean).
  GIVEN WITH THE SEED: the statements are not yours to turn. If you find one false, say at which input.
  Laid BY PROGRAM, IN A SANDBOX (cutbox-rows.mjs): the forced cells as the released guide's own fill.sh prints them over the translation 03726463217bbcb9… (all of the seat's roots in one cut). By AI agents, Wed Nov 11 2026. No macro, syntax, notation, axiom, sorry.
-/
import Derived.Test.YtndnbkgejdindaaChecked
import GoSem.Claim
import GoSem.ClaimJoined
import GoSem.ClaimMapViews
import Derived.JoinedTies
import Derived.KernelRfl
namespace Go.Proofs.Ytndnbkgejdindaa
/- THE CELL 'sum', in the pinned program and in every row, IS THE sha256 OF THE DUMP (.gsa) THAT YtndnbkgejdindaaProg.lean LOADS. Nothing in Lean hashes anything: it is a label: what it is worth is what the hold of that sum in a sandbox is worth. -/
noncomputable def Try.pinned : Pinned := { name := "ytndnbkgejdindaa", sum := "03726463217bbcb92b6e426cd36c68f40af6cdb3ac927f2be5df6c56a3ac090a", checked := Try.checked }
namespace Rows
def none {H : Type} : Left H := { results := [], args := [] }

/-- 'commonholdlaw.MeldPlays': WHATEVER THE INPUT: true; the input reads as it did. -/
def meldPlaysSpec : ChangeSpec := { name := "meldPlays", fn := fun _ => fun
  | [d1, d2] => { results := [.lit (.bool true)], args := [d1, d2] }
  | _ => none }
def meldPlaysRow : OpenClaim := { program := "ytndnbkgejdindaa", sum := "03726463217bbcb92b6e426cd36c68f40af6cdb3ac927f2be5df6c56a3ac090a", func := "commonhold/commonholdlaw.MeldPlays", spec := "meldPlays", inPlace := ["internal/bytealg.Compare", "slices.overlaps[commonhold/api.Done]"], unfollowed := true, recurses := true, apart := false }
def MeldPlaysSaid : Prop := meldPlaysRow.holds Try.pinned (OpenSpec.ofChange meldPlaysSpec)

/-- ITS FALSE NEIGHBOUR: 'it returns false'. Refute it at one input. -/
def meldPlaysWrong : ChangeSpec := { name := "meldPlays", fn := fun _ => fun
  | [d1, d2] => { results := [.lit (.bool false)], args := [d1, d2] }
  | _ => none }
def MeldPlaysWrongFalsely : Prop := meldPlaysRow.holds Try.pinned (OpenSpec.ofChange meldPlaysWrong)

/-- 'commonholdlaw.MeldSaves': WHATEVER THE INPUT: true; the input reads as it did. -/
def meldSavesSpec : ChangeSpec := { name := "meldSaves", fn := fun _ => fun
  | [d] => { results := [.lit (.bool true)], args := [d] }
  | _ => none }
def meldSavesRow : OpenClaim := { program := "ytndnbkgejdindaa", sum := "03726463217bbcb92b6e426cd36c68f40af6cdb3ac927f2be5df6c56a3ac090a", func := "commonhold/commonholdlaw.MeldSaves", spec := "meldSaves", inPlace := ["internal/bytealg.Compare"], apart := false }
def MeldSavesSaid : Prop := meldSavesRow.holds Try.pinned (OpenSpec.ofChange meldSavesSpec)

/-- ITS FALSE NEIGHBOUR: 'it returns false'. Refute it at one input. -/
def meldSavesWrong : ChangeSpec := { name := "meldSaves", fn := fun _ => fun
  | [d] => { results := [.lit (.bool false)], args := [d] }
  | _ => none }
def MeldSavesWrongFalsely : Prop := meldSavesRow.holds Try.pinned (OpenSpec.ofChange meldSavesWrong)

/-- 'commonholdlaw.MeldLoads': WHATEVER THE INPUT: true; the input reads as it did. -/
def meldLoadsSpec : ChangeSpec := { name := "meldLoads", fn := fun _ => fun
  | [d] => { results := [.lit (.bool true)], args := [d] }
  | _ => none }
def meldLoadsRow : OpenClaim := { program := "ytndnbkgejdindaa", sum := "03726463217bbcb92b6e426cd36c68f40af6cdb3ac927f2be5df6c56a3ac090a", func := "commonhold/commonholdlaw.MeldLoads", spec := "meldLoads", inPlace := ["internal/bytealg.Compare"], unfollowed := true, recurses := true, apart := false }
def MeldLoadsSaid : Prop := meldLoadsRow.holds Try.pinned (OpenSpec.ofChange meldLoadsSpec)

/-- ITS FALSE NEIGHBOUR: 'it returns false'. Refute it at one input. -/
def meldLoadsWrong : ChangeSpec := { name := "meldLoads", fn := fun _ => fun
  | [d] => { results := [.lit (.bool false)], args := [d] }
  | _ => none }
def MeldLoadsWrongFalsely : Prop := meldLoadsRow.holds Try.pinned (OpenSpec.ofChange meldLoadsWrong)

/- THE SECOND FORM. 'bulk': how many values and letters a reading holds, each counted each time it is reached (what is shared counts as often as it is met; a slice's spare places count too). A statement '..UptoSaid' is the law's where the arguments, and the package variables that the reading takes, are together of bulk at most 1048576: NARROWER than '..Said'. Prove '..Said' where nothing that the law and all that it calls make is longer than what came in: it says more and counts as full. Else prove '..UptoSaid'. A law counts once. -/
mutual
def uptoBulk {H : Type} : DataW H → Nat
  | .lit (.string bytes) => bytes.length + 1
  | .lit _ => 1
  | .nil => 1
  | .ptr d => uptoBulk d + 1
  | .slice elems spare => uptoBulkAll elems + uptoBulkAll spare + 1
  | .agg parts => uptoBulkAll parts + 1
  | .iface _ d => uptoBulk d + 1
  | .map entries => uptoBulkEntries entries + 1
  | .held _ => 1
def uptoBulkAll {H : Type} : List (DataW H) → Nat
  | [] => 0
  | d :: r => uptoBulk d + uptoBulkAll r
def uptoBulkEntries {H : Type} : List (Lit × DataW H) → Nat
  | [] => 0
  | x :: r => uptoBulkEntry x + uptoBulkEntries r
def uptoBulkEntry {H : Type} : Lit × DataW H → Nat
  | (.string bytes, d) => bytes.length + uptoBulk d + 1
  | (_, d) => uptoBulk d + 1
 end
def uptoSmall : (H : Type) → List (DataW H) → Bool := fun _ ds => decide (uptoBulkAll ds ≤ 1048576)
def OpenSpec.upto (s : _root_.Go.ChangeSpec) : _root_.Go.OpenSpec := { _root_.Go.OpenSpec.ofChange s with cond := some uptoSmall }

/-- 'commonholdlaw.MeldPlays', WHERE WHAT IT READS IS OF BULK AT MOST 1048576: true; the input reads as it did. -/
def meldPlaysUptoRow : OpenClaim := { program := "ytndnbkgejdindaa", sum := "03726463217bbcb92b6e426cd36c68f40af6cdb3ac927f2be5df6c56a3ac090a", func := "commonhold/commonholdlaw.MeldPlays", spec := "meldPlays", inPlace := ["internal/bytealg.Compare", "slices.overlaps[commonhold/api.Done]"], unfollowed := true, recurses := true, apart := false, narrowed := true }
def MeldPlaysUptoSaid : Prop := meldPlaysUptoRow.holds Try.pinned (OpenSpec.upto meldPlaysSpec)

/-- 'commonholdlaw.MeldSaves', WHERE WHAT IT READS IS OF BULK AT MOST 1048576: true; the input reads as it did. -/
def meldSavesUptoRow : OpenClaim := { program := "ytndnbkgejdindaa", sum := "03726463217bbcb92b6e426cd36c68f40af6cdb3ac927f2be5df6c56a3ac090a", func := "commonhold/commonholdlaw.MeldSaves", spec := "meldSaves", inPlace := ["internal/bytealg.Compare"], apart := false, narrowed := true }
def MeldSavesUptoSaid : Prop := meldSavesUptoRow.holds Try.pinned (OpenSpec.upto meldSavesSpec)

/-- 'commonholdlaw.MeldLoads', WHERE WHAT IT READS IS OF BULK AT MOST 1048576: true; the input reads as it did. -/
def meldLoadsUptoRow : OpenClaim := { program := "ytndnbkgejdindaa", sum := "03726463217bbcb92b6e426cd36c68f40af6cdb3ac927f2be5df6c56a3ac090a", func := "commonhold/commonholdlaw.MeldLoads", spec := "meldLoads", inPlace := ["internal/bytealg.Compare"], unfollowed := true, recurses := true, apart := false, narrowed := true }
def MeldLoadsUptoSaid : Prop := meldLoadsUptoRow.holds Try.pinned (OpenSpec.upto meldLoadsSpec)

end Rows
end Go.Proofs.Ytndnbkgejdindaa
