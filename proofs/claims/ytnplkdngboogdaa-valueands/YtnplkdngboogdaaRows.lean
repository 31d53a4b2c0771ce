/-
  No cell of these rows narrows 'for every input' (looked for: loops, veiled, ifaces, maps, wideKeys, modest, calm, conditions, laid).
  DERIVED. THE GIVEN ROWS OF THIS SEAT. 3 by the template 'for every input the law returns true; each argument reads behind the call as it read before'; 0 by the template 'total and deterministic' (their statements: YtnplkdngboogdaaTotals.lean).
  GIVEN WITH THE SEED: the statements are not yours to turn. If you find one false, say at which input.
  Laid BY PROGRAM, IN A SANDBOX (cutbox-rows.mjs): the forced cells as the released guide's own fill.sh prints them over the translation 64ea55d4f0a6133c… (all of the seat's roots in one cut). By AI agents, Wed Nov 11 2026. No macro, syntax, notation, axiom, sorry.
-/
import Derived.Test.YtnplkdngboogdaaChecked
import GoSem.Claim
import GoSem.ClaimJoined
import GoSem.ClaimMapViews
import Derived.JoinedTies
import Derived.KernelRfl
namespace Go.Proofs.Ytnplkdngboogdaa
/- THE CELL 'sum', in the pinned program and in every row, IS THE sha256 OF THE DUMP (.gsa) THAT YtnplkdngboogdaaProg.lean LOADS. Nothing in Lean hashes anything: it is a label: what it is worth is what the hold of that sum in a sandbox is worth. -/
noncomputable def Try.pinned : Pinned := { name := "ytnplkdngboogdaa", sum := "64ea55d4f0a6133c0c78edf8af3683d7938e5e0e49b968595e59f11edb16bd3e", checked := Try.checked }
namespace Rows
def none {H : Type} : Left H := { results := [], args := [] }

/-- 'commonholdlaw.ValueAnds': WHATEVER THE INPUT: true; the input reads as it did. -/
def valueAndsSpec : ChangeSpec := { name := "valueAnds", fn := fun _ => fun
  | [d] => { results := [.lit (.bool true)], args := [d] }
  | _ => none }
def valueAndsRow : OpenClaim := { program := "ytnplkdngboogdaa", sum := "64ea55d4f0a6133c0c78edf8af3683d7938e5e0e49b968595e59f11edb16bd3e", func := "commonhold/commonholdlaw.ValueAnds", spec := "valueAnds", unfollowed := true, recurses := true, apart := false }
def ValueAndsSaid : Prop := valueAndsRow.holds Try.pinned (OpenSpec.ofChange valueAndsSpec)

/-- ITS FALSE NEIGHBOUR: 'it returns false'. Refute it at one input. -/
def valueAndsWrong : ChangeSpec := { name := "valueAnds", fn := fun _ => fun
  | [d] => { results := [.lit (.bool false)], args := [d] }
  | _ => none }
def ValueAndsWrongFalsely : Prop := valueAndsRow.holds Try.pinned (OpenSpec.ofChange valueAndsWrong)

/-- 'commonholdlaw.ValueOrs': WHATEVER THE INPUT: true; the input reads as it did. -/
def valueOrsSpec : ChangeSpec := { name := "valueOrs", fn := fun _ => fun
  | [d] => { results := [.lit (.bool true)], args := [d] }
  | _ => none }
def valueOrsRow : OpenClaim := { program := "ytnplkdngboogdaa", sum := "64ea55d4f0a6133c0c78edf8af3683d7938e5e0e49b968595e59f11edb16bd3e", func := "commonhold/commonholdlaw.ValueOrs", spec := "valueOrs", unfollowed := true, recurses := true, apart := false }
def ValueOrsSaid : Prop := valueOrsRow.holds Try.pinned (OpenSpec.ofChange valueOrsSpec)

/-- ITS FALSE NEIGHBOUR: 'it returns false'. Refute it at one input. -/
def valueOrsWrong : ChangeSpec := { name := "valueOrs", fn := fun _ => fun
  | [d] => { results := [.lit (.bool false)], args := [d] }
  | _ => none }
def ValueOrsWrongFalsely : Prop := valueOrsRow.holds Try.pinned (OpenSpec.ofChange valueOrsWrong)

/-- 'commonholdlaw.ValueNots': WHATEVER THE INPUT: true; the input reads as it did. -/
def valueNotsSpec : ChangeSpec := { name := "valueNots", fn := fun _ => fun
  | [d] => { results := [.lit (.bool true)], args := [d] }
  | _ => none }
def valueNotsRow : OpenClaim := { program := "ytnplkdngboogdaa", sum := "64ea55d4f0a6133c0c78edf8af3683d7938e5e0e49b968595e59f11edb16bd3e", func := "commonhold/commonholdlaw.ValueNots", spec := "valueNots", apart := false }
def ValueNotsSaid : Prop := valueNotsRow.holds Try.pinned (OpenSpec.ofChange valueNotsSpec)

/-- ITS FALSE NEIGHBOUR: 'it returns false'. Refute it at one input. -/
def valueNotsWrong : ChangeSpec := { name := "valueNots", fn := fun _ => fun
  | [d] => { results := [.lit (.bool false)], args := [d] }
  | _ => none }
def ValueNotsWrongFalsely : Prop := valueNotsRow.holds Try.pinned (OpenSpec.ofChange valueNotsWrong)

/- THE SECOND FORM. 'bulk': how many values and letters a reading holds, each counted each time it is reached (what is shared counts as often as it is met; a slice's spare places count too). A statement '..UptoSaid' is the law's where the arguments, and the package variables that the reading takes, are together of bulk at most 1048576: NARROWER than '..Said'. Prove '..Said' where nothing that the law and all that it calls make is longer than what came in: it says more and counts as full. Else prove '..UptoSaid'. A law counts once. -/
mutual
def uptoBulk {H : Type} : DataW H → Nat
  | .lit (.string bytes) => bytes.length + 1
  | .lit _ => 1
  | .nil => 1
  | .ptr d => uptoBulk d + 1
  | .slice elems spare => uptoBulkAll elems + uptoBulkAll spare + 1
  | .agg parts => uptoBulkAll parts + 1
  | .iface _ d => uptoBulk d + 1
  | .map entries => uptoBulkEntries entries + 1
  | .held _ => 1
def uptoBulkAll {H : Type} : List (DataW H) → Nat
  | [] => 0
  | d :: r => uptoBulk d + uptoBulkAll r
def uptoBulkEntries {H : Type} : List (Lit × DataW H) → Nat
  | [] => 0
  | x :: r => uptoBulkEntry x + uptoBulkEntries r
def uptoBulkEntry {H : Type} : Lit × DataW H → Nat
  | (.string bytes, d) => bytes.length + uptoBulk d + 1
  | (_, d) => uptoBulk d + 1
 end
def uptoSmall : (H : Type) → List (DataW H) → Bool := fun _ ds => decide (uptoBulkAll ds ≤ 1048576)
def OpenSpec.upto (s : _root_.Go.ChangeSpec) : _root_.Go.OpenSpec := { _root_.Go.OpenSpec.ofChange s with cond := some uptoSmall }

/-- 'commonholdlaw.ValueAnds', WHERE WHAT IT READS IS OF BULK AT MOST 1048576: true; the input reads as it did. -/
def valueAndsUptoRow : OpenClaim := { program := "ytnplkdngboogdaa", sum := "64ea55d4f0a6133c0c78edf8af3683d7938e5e0e49b968595e59f11edb16bd3e", func := "commonhold/commonholdlaw.ValueAnds", spec := "valueAnds", unfollowed := true, recurses := true, apart := false, narrowed := true }
def ValueAndsUptoSaid : Prop := valueAndsUptoRow.holds Try.pinned (OpenSpec.upto valueAndsSpec)

/-- 'commonholdlaw.ValueOrs', WHERE WHAT IT READS IS OF BULK AT MOST 1048576: true; the input reads as it did. -/
def valueOrsUptoRow : OpenClaim := { program := "ytnplkdngboogdaa", sum := "64ea55d4f0a6133c0c78edf8af3683d7938e5e0e49b968595e59f11edb16bd3e", func := "commonhold/commonholdlaw.ValueOrs", spec := "valueOrs", unfollowed := true, recurses := true, apart := false, narrowed := true }
def ValueOrsUptoSaid : Prop := valueOrsUptoRow.holds Try.pinned (OpenSpec.upto valueOrsSpec)

/-- 'commonholdlaw.ValueNots', WHERE WHAT IT READS IS OF BULK AT MOST 1048576: true; the input reads as it did. -/
def valueNotsUptoRow : OpenClaim := { program := "ytnplkdngboogdaa", sum := "64ea55d4f0a6133c0c78edf8af3683d7938e5e0e49b968595e59f11edb16bd3e", func := "commonhold/commonholdlaw.ValueNots", spec := "valueNots", apart := false, narrowed := true }
def ValueNotsUptoSaid : Prop := valueNotsUptoRow.holds Try.pinned (OpenSpec.upto valueNotsSpec)

end Rows
end Go.Proofs.Ytnplkdngboogdaa
