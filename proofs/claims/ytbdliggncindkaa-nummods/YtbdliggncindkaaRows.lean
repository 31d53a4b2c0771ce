/-
  No cell of these rows narrows 'for every input' (looked for: loops, veiled, ifaces, maps, wideKeys, modest, calm, conditions, laid).
  DERIVED. THE GIVEN ROWS OF THIS SEAT. 6 by the template 'for every input the law returns true; each argument reads behind the call as it read before'; 0 by the template 'total and deterministic' (their statements: YtbdliggncindkaaTotals.lean).
  GIVEN WITH THE SEED: the statements are not yours to turn. If you find one false, say at which input.
  Laid BY PROGRAM, IN A SANDBOX (cutbox-rows.mjs): the forced cells as the released guide's own fill.sh prints them over the translation b2825ba42bc9c697… (all of the seat's roots in one cut). By AI agents, Wed Nov 11 2026. No macro, syntax, notation, axiom, sorry.
-/
import Derived.Test.YtbdliggncindkaaChecked
import GoSem.Claim
import GoSem.ClaimJoined
import GoSem.ClaimMapViews
import Derived.JoinedTies
import Derived.KernelRfl
namespace Go.Proofs.Ytbdliggncindkaa
/- THE CELL 'sum', in the pinned program and in every row, IS THE sha256 OF THE DUMP (.gsa) THAT YtbdliggncindkaaProg.lean LOADS. Nothing in Lean hashes anything: it is a label: what it is worth is what the hold of that sum in a sandbox is worth. -/
noncomputable def Try.pinned : Pinned := { name := "ytbdliggncindkaa", sum := "b2825ba42bc9c697f3fda8c84d4ff3b8a77d335e224051d5e1674b13f334d37a", checked := Try.checked }
namespace Rows
def none {H : Type} : Left H := { results := [], args := [] }

/-- 'commonholdlaw.NumAdds': WHATEVER THE INPUT: true; the input reads as it did. -/
def numAddsSpec : ChangeSpec := { name := "numAdds", fn := fun _ => fun
  | [d1, d2] => { results := [.lit (.bool true)], args := [d1, d2] }
  | _ => none }
def numAddsRow : OpenClaim := { program := "ytbdliggncindkaa", sum := "b2825ba42bc9c697f3fda8c84d4ff3b8a77d335e224051d5e1674b13f334d37a", func := "commonhold/commonholdlaw.NumAdds", spec := "numAdds", apart := false }
def NumAddsSaid : Prop := numAddsRow.holds Try.pinned (OpenSpec.ofChange numAddsSpec)

/-- ITS FALSE NEIGHBOUR: 'it returns false'. Refute it at one input. -/
def numAddsWrong : ChangeSpec := { name := "numAdds", fn := fun _ => fun
  | [d1, d2] => { results := [.lit (.bool false)], args := [d1, d2] }
  | _ => none }
def NumAddsWrongFalsely : Prop := numAddsRow.holds Try.pinned (OpenSpec.ofChange numAddsWrong)

/-- 'commonholdlaw.NumSubs': WHATEVER THE INPUT: true; the input reads as it did. -/
def numSubsSpec : ChangeSpec := { name := "numSubs", fn := fun _ => fun
  | [d1, d2] => { results := [.lit (.bool true)], args := [d1, d2] }
  | _ => none }
def numSubsRow : OpenClaim := { program := "ytbdliggncindkaa", sum := "b2825ba42bc9c697f3fda8c84d4ff3b8a77d335e224051d5e1674b13f334d37a", func := "commonhold/commonholdlaw.NumSubs", spec := "numSubs", apart := false }
def NumSubsSaid : Prop := numSubsRow.holds Try.pinned (OpenSpec.ofChange numSubsSpec)

/-- ITS FALSE NEIGHBOUR: 'it returns false'. Refute it at one input. -/
def numSubsWrong : ChangeSpec := { name := "numSubs", fn := fun _ => fun
  | [d1, d2] => { results := [.lit (.bool false)], args := [d1, d2] }
  | _ => none }
def NumSubsWrongFalsely : Prop := numSubsRow.holds Try.pinned (OpenSpec.ofChange numSubsWrong)

/-- 'commonholdlaw.NumMuls': WHATEVER THE INPUT: true; the input reads as it did. -/
def numMulsSpec : ChangeSpec := { name := "numMuls", fn := fun _ => fun
  | [d1, d2] => { results := [.lit (.bool true)], args := [d1, d2] }
  | _ => none }
def numMulsRow : OpenClaim := { program := "ytbdliggncindkaa", sum := "b2825ba42bc9c697f3fda8c84d4ff3b8a77d335e224051d5e1674b13f334d37a", func := "commonhold/commonholdlaw.NumMuls", spec := "numMuls", apart := false }
def NumMulsSaid : Prop := numMulsRow.holds Try.pinned (OpenSpec.ofChange numMulsSpec)

/-- ITS FALSE NEIGHBOUR: 'it returns false'. Refute it at one input. -/
def numMulsWrong : ChangeSpec := { name := "numMuls", fn := fun _ => fun
  | [d1, d2] => { results := [.lit (.bool false)], args := [d1, d2] }
  | _ => none }
def NumMulsWrongFalsely : Prop := numMulsRow.holds Try.pinned (OpenSpec.ofChange numMulsWrong)

/-- 'commonholdlaw.NumNegs': WHATEVER THE INPUT: true; the input reads as it did. -/
def numNegsSpec : ChangeSpec := { name := "numNegs", fn := fun _ => fun
  | [d] => { results := [.lit (.bool true)], args := [d] }
  | _ => none }
def numNegsRow : OpenClaim := { program := "ytbdliggncindkaa", sum := "b2825ba42bc9c697f3fda8c84d4ff3b8a77d335e224051d5e1674b13f334d37a", func := "commonhold/commonholdlaw.NumNegs", spec := "numNegs", apart := false }
def NumNegsSaid : Prop := numNegsRow.holds Try.pinned (OpenSpec.ofChange numNegsSpec)

/-- ITS FALSE NEIGHBOUR: 'it returns false'. Refute it at one input. -/
def numNegsWrong : ChangeSpec := { name := "numNegs", fn := fun _ => fun
  | [d] => { results := [.lit (.bool false)], args := [d] }
  | _ => none }
def NumNegsWrongFalsely : Prop := numNegsRow.holds Try.pinned (OpenSpec.ofChange numNegsWrong)

/-- 'commonholdlaw.NumDivs': WHATEVER THE INPUT: true; the input reads as it did. -/
def numDivsSpec : ChangeSpec := { name := "numDivs", fn := fun _ => fun
  | [d1, d2] => { results := [.lit (.bool true)], args := [d1, d2] }
  | _ => none }
def numDivsRow : OpenClaim := { program := "ytbdliggncindkaa", sum := "b2825ba42bc9c697f3fda8c84d4ff3b8a77d335e224051d5e1674b13f334d37a", func := "commonhold/commonholdlaw.NumDivs", spec := "numDivs", apart := false }
def NumDivsSaid : Prop := numDivsRow.holds Try.pinned (OpenSpec.ofChange numDivsSpec)

/-- ITS FALSE NEIGHBOUR: 'it returns false'. Refute it at one input. -/
def numDivsWrong : ChangeSpec := { name := "numDivs", fn := fun _ => fun
  | [d1, d2] => { results := [.lit (.bool false)], args := [d1, d2] }
  | _ => none }
def NumDivsWrongFalsely : Prop := numDivsRow.holds Try.pinned (OpenSpec.ofChange numDivsWrong)

/-- 'commonholdlaw.NumMods': WHATEVER THE INPUT: true; the input reads as it did. -/
def numModsSpec : ChangeSpec := { name := "numMods", fn := fun _ => fun
  | [d1, d2] => { results := [.lit (.bool true)], args := [d1, d2] }
  | _ => none }
def numModsRow : OpenClaim := { program := "ytbdliggncindkaa", sum := "b2825ba42bc9c697f3fda8c84d4ff3b8a77d335e224051d5e1674b13f334d37a", func := "commonhold/commonholdlaw.NumMods", spec := "numMods", apart := false }
def NumModsSaid : Prop := numModsRow.holds Try.pinned (OpenSpec.ofChange numModsSpec)

/-- ITS FALSE NEIGHBOUR: 'it returns false'. Refute it at one input. -/
def numModsWrong : ChangeSpec := { name := "numMods", fn := fun _ => fun
  | [d1, d2] => { results := [.lit (.bool false)], args := [d1, d2] }
  | _ => none }
def NumModsWrongFalsely : Prop := numModsRow.holds Try.pinned (OpenSpec.ofChange numModsWrong)

/- THE SECOND FORM. 'bulk': how many values and letters a reading holds, each counted each time it is reached (what is shared counts as often as it is met; a slice's spare places count too). A statement '..UptoSaid' is the law's where the arguments, and the package variables that the reading takes, are together of bulk at most 1048576: NARROWER than '..Said'. Prove '..Said' where nothing that the law and all that it calls make is longer than what came in: it says more and counts as full. Else prove '..UptoSaid'. A law counts once. -/
mutual
def uptoBulk {H : Type} : DataW H → Nat
  | .lit (.string bytes) => bytes.length + 1
  | .lit _ => 1
  | .nil => 1
  | .ptr d => uptoBulk d + 1
  | .slice elems spare => uptoBulkAll elems + uptoBulkAll spare + 1
  | .agg parts => uptoBulkAll parts + 1
  | .iface _ d => uptoBulk d + 1
  | .map entries => uptoBulkEntries entries + 1
  | .held _ => 1
def uptoBulkAll {H : Type} : List (DataW H) → Nat
  | [] => 0
  | d :: r => uptoBulk d + uptoBulkAll r
def uptoBulkEntries {H : Type} : List (Lit × DataW H) → Nat
  | [] => 0
  | x :: r => uptoBulkEntry x + uptoBulkEntries r
def uptoBulkEntry {H : Type} : Lit × DataW H → Nat
  | (.string bytes, d) => bytes.length + uptoBulk d + 1
  | (_, d) => uptoBulk d + 1
 end
def uptoSmall : (H : Type) → List (DataW H) → Bool := fun _ ds => decide (uptoBulkAll ds ≤ 1048576)
def OpenSpec.upto (s : _root_.Go.ChangeSpec) : _root_.Go.OpenSpec := { _root_.Go.OpenSpec.ofChange s with cond := some uptoSmall }

/-- 'commonholdlaw.NumAdds', WHERE WHAT IT READS IS OF BULK AT MOST 1048576: true; the input reads as it did. -/
def numAddsUptoRow : OpenClaim := { program := "ytbdliggncindkaa", sum := "b2825ba42bc9c697f3fda8c84d4ff3b8a77d335e224051d5e1674b13f334d37a", func := "commonhold/commonholdlaw.NumAdds", spec := "numAdds", apart := false, narrowed := true }
def NumAddsUptoSaid : Prop := numAddsUptoRow.holds Try.pinned (OpenSpec.upto numAddsSpec)

/-- 'commonholdlaw.NumSubs', WHERE WHAT IT READS IS OF BULK AT MOST 1048576: true; the input reads as it did. -/
def numSubsUptoRow : OpenClaim := { program := "ytbdliggncindkaa", sum := "b2825ba42bc9c697f3fda8c84d4ff3b8a77d335e224051d5e1674b13f334d37a", func := "commonhold/commonholdlaw.NumSubs", spec := "numSubs", apart := false, narrowed := true }
def NumSubsUptoSaid : Prop := numSubsUptoRow.holds Try.pinned (OpenSpec.upto numSubsSpec)

/-- 'commonholdlaw.NumMuls', WHERE WHAT IT READS IS OF BULK AT MOST 1048576: true; the input reads as it did. -/
def numMulsUptoRow : OpenClaim := { program := "ytbdliggncindkaa", sum := "b2825ba42bc9c697f3fda8c84d4ff3b8a77d335e224051d5e1674b13f334d37a", func := "commonhold/commonholdlaw.NumMuls", spec := "numMuls", apart := false, narrowed := true }
def NumMulsUptoSaid : Prop := numMulsUptoRow.holds Try.pinned (OpenSpec.upto numMulsSpec)

/-- 'commonholdlaw.NumNegs', WHERE WHAT IT READS IS OF BULK AT MOST 1048576: true; the input reads as it did. -/
def numNegsUptoRow : OpenClaim := { program := "ytbdliggncindkaa", sum := "b2825ba42bc9c697f3fda8c84d4ff3b8a77d335e224051d5e1674b13f334d37a", func := "commonhold/commonholdlaw.NumNegs", spec := "numNegs", apart := false, narrowed := true }
def NumNegsUptoSaid : Prop := numNegsUptoRow.holds Try.pinned (OpenSpec.upto numNegsSpec)

/-- 'commonholdlaw.NumDivs', WHERE WHAT IT READS IS OF BULK AT MOST 1048576: true; the input reads as it did. -/
def numDivsUptoRow : OpenClaim := { program := "ytbdliggncindkaa", sum := "b2825ba42bc9c697f3fda8c84d4ff3b8a77d335e224051d5e1674b13f334d37a", func := "commonhold/commonholdlaw.NumDivs", spec := "numDivs", apart := false, narrowed := true }
def NumDivsUptoSaid : Prop := numDivsUptoRow.holds Try.pinned (OpenSpec.upto numDivsSpec)

/-- 'commonholdlaw.NumMods', WHERE WHAT IT READS IS OF BULK AT MOST 1048576: true; the input reads as it did. -/
def numModsUptoRow : OpenClaim := { program := "ytbdliggncindkaa", sum := "b2825ba42bc9c697f3fda8c84d4ff3b8a77d335e224051d5e1674b13f334d37a", func := "commonhold/commonholdlaw.NumMods", spec := "numMods", apart := false, narrowed := true }
def NumModsUptoSaid : Prop := numModsUptoRow.holds Try.pinned (OpenSpec.upto numModsSpec)

end Rows
end Go.Proofs.Ytbdliggncindkaa
