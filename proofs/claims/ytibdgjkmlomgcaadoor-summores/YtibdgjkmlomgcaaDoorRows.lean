/-
  NARROWER THAN 'FOR EVERY INPUT', by the rows' own cells (each row's printed sentence says how): SumOfs: laid · SumMores: laid · SumParts: laid · SumLinear: laid · SumBurst: laid.
  DERIVED. THE GIVEN ROWS OF THIS SEAT. 5 by the template 'for every input the law returns true; each argument reads behind the call as it read before'; 0 by the template 'total and deterministic' (their statements: YtibdgjkmlomgcaaDoorTotals.lean).
  GIVEN WITH THE SEED: the statements are not yours to turn. If you find one false, say at which input.
  Laid BY PROGRAM, IN A SANDBOX (cutbox-rows.mjs): the forced cells as the released guide's own fill.sh prints them over the translation acae15a1d2080373… (all of the seat's roots in one cut). By AI agents, Wed Nov 11 2026. No macro, syntax, notation, axiom, sorry.
-/
import Derived.Test.YtibdgjkmlomgcaaDoorChecked
import GoSem.Claim
import GoSem.ClaimJoined
import GoSem.ClaimMapViews
import Derived.JoinedTies
import Derived.KernelRfl
namespace Go.Proofs.YtibdgjkmlomgcaaDoor
/- THE CELL 'sum', in the pinned program and in every row, IS THE sha256 OF THE DUMP (.gsa) THAT YtibdgjkmlomgcaaDoorProg.lean LOADS. Nothing in Lean hashes anything: it is a label: what it is worth is what the hold of that sum in a sandbox is worth. -/
noncomputable def Tryd.pinned : Pinned := { name := "ytibdgjkmlomgcaadoor", sum := "acae15a1d20803732cb6fac658a0d0a6880867959aa591871c23003d58bbd869", checked := Tryd.checked }
namespace Rows
def none {H : Type} : Left H := { results := [], args := [] }

/- WHAT THE LISTED PACKAGE-LEVEL VARIABLES READ AS WHEN THE CALL BEGINS. Each datum BY PROGRAM (the guide's laid-datum.mjs) off the statement by which the dump's own 'gosem.cut.vars' lays the variable. In a bare row this is a premise. The card (YtibdgjkmlomgcaaDoorCards.lean) ties it to the program's text. -/
def laid_commonhold_sum_fours {H : Type} : DataW H := .agg [.lit (.int .u32 0), .lit (.int .u32 498536548), .lit (.int .u32 997073096), .lit (.int .u32 651767980), .lit (.int .u32 1994146192), .lit (.int .u32 1802195444), .lit (.int .u32 1303535960), .lit (.int .u32 1342533948), .lit (.int .u32 3988292384), .lit (.int .u32 4027552580), .lit (.int .u32 3604390888), .lit (.int .u32 3412177804), .lit (.int .u32 2607071920), .lit (.int .u32 2262029012), .lit (.int .u32 2685067896), .lit (.int .u32 3183342108)]

/-- 'commonholdlaw.SumOfs': WHATEVER THE INPUT: true; the input reads as it did. -/
def sumOfsSpec : ChangeSpec := { name := "sumOfs", fn := fun _ => fun
  | [d] => { results := [.lit (.bool true)], args := [d] }
  | _ => none }
def sumOfsRow : OpenClaim := { program := "ytibdgjkmlomgcaadoor", sum := "acae15a1d20803732cb6fac658a0d0a6880867959aa591871c23003d58bbd869", func := "commonhold/commonholdlaw.SumOfs", spec := "sumOfs", named := ["commonhold/sum.fours"], apart := false, laid := [("commonhold/sum.fours", laid_commonhold_sum_fours)] }
def SumOfsSaid : Prop := sumOfsRow.holds Tryd.pinned (OpenSpec.ofChange sumOfsSpec)

/-- ITS FALSE NEIGHBOUR: 'it returns false'. Refute it at one input. -/
def sumOfsWrong : ChangeSpec := { name := "sumOfs", fn := fun _ => fun
  | [d] => { results := [.lit (.bool false)], args := [d] }
  | _ => none }
def SumOfsWrongFalsely : Prop := sumOfsRow.holds Tryd.pinned (OpenSpec.ofChange sumOfsWrong)

/-- 'commonholdlaw.SumMores': WHATEVER THE INPUT: true; the input reads as it did. -/
def sumMoresSpec : ChangeSpec := { name := "sumMores", fn := fun _ => fun
  | [d1, d2] => { results := [.lit (.bool true)], args := [d1, d2] }
  | _ => none }
def sumMoresRow : OpenClaim := { program := "ytibdgjkmlomgcaadoor", sum := "acae15a1d20803732cb6fac658a0d0a6880867959aa591871c23003d58bbd869", func := "commonhold/commonholdlaw.SumMores", spec := "sumMores", named := ["commonhold/sum.fours"], apart := false, laid := [("commonhold/sum.fours", laid_commonhold_sum_fours)] }
def SumMoresSaid : Prop := sumMoresRow.holds Tryd.pinned (OpenSpec.ofChange sumMoresSpec)

/-- ITS FALSE NEIGHBOUR: 'it returns false'. Refute it at one input. -/
def sumMoresWrong : ChangeSpec := { name := "sumMores", fn := fun _ => fun
  | [d1, d2] => { results := [.lit (.bool false)], args := [d1, d2] }
  | _ => none }
def SumMoresWrongFalsely : Prop := sumMoresRow.holds Tryd.pinned (OpenSpec.ofChange sumMoresWrong)

/-- 'commonholdkeep.SumParts': WHATEVER THE INPUT: true; the input reads as it did. -/
def sumPartsSpec : ChangeSpec := { name := "sumParts", fn := fun _ => fun
  | [d1, d2] => { results := [.lit (.bool true)], args := [d1, d2] }
  | _ => none }
def sumPartsRow : OpenClaim := { program := "ytibdgjkmlomgcaadoor", sum := "acae15a1d20803732cb6fac658a0d0a6880867959aa591871c23003d58bbd869", func := "commonhold/commonholdkeep.SumParts", spec := "sumParts", named := ["commonhold/sum.fours"], apart := false, laid := [("commonhold/sum.fours", laid_commonhold_sum_fours)] }
def SumPartsSaid : Prop := sumPartsRow.holds Tryd.pinned (OpenSpec.ofChange sumPartsSpec)

/-- ITS FALSE NEIGHBOUR: 'it returns false'. Refute it at one input. -/
def sumPartsWrong : ChangeSpec := { name := "sumParts", fn := fun _ => fun
  | [d1, d2] => { results := [.lit (.bool false)], args := [d1, d2] }
  | _ => none }
def SumPartsWrongFalsely : Prop := sumPartsRow.holds Tryd.pinned (OpenSpec.ofChange sumPartsWrong)

/-- 'commonholdkeep.SumLinear': WHATEVER THE INPUT: true; the input reads as it did. -/
def sumLinearSpec : ChangeSpec := { name := "sumLinear", fn := fun _ => fun
  | [d1, d2, d3] => { results := [.lit (.bool true)], args := [d1, d2, d3] }
  | _ => none }
def sumLinearRow : OpenClaim := { program := "ytibdgjkmlomgcaadoor", sum := "acae15a1d20803732cb6fac658a0d0a6880867959aa591871c23003d58bbd869", func := "commonhold/commonholdkeep.SumLinear", spec := "sumLinear", named := ["commonhold/sum.fours"], apart := false, laid := [("commonhold/sum.fours", laid_commonhold_sum_fours)] }
def SumLinearSaid : Prop := sumLinearRow.holds Tryd.pinned (OpenSpec.ofChange sumLinearSpec)

/-- ITS FALSE NEIGHBOUR: 'it returns false'. Refute it at one input. -/
def sumLinearWrong : ChangeSpec := { name := "sumLinear", fn := fun _ => fun
  | [d1, d2, d3] => { results := [.lit (.bool false)], args := [d1, d2, d3] }
  | _ => none }
def SumLinearWrongFalsely : Prop := sumLinearRow.holds Tryd.pinned (OpenSpec.ofChange sumLinearWrong)

/-- 'commonholdkeep.SumBurst': WHATEVER THE INPUT: true; the input reads as it did. -/
def sumBurstSpec : ChangeSpec := { name := "sumBurst", fn := fun _ => fun
  | [d1, d2, d3] => { results := [.lit (.bool true)], args := [d1, d2, d3] }
  | _ => none }
def sumBurstRow : OpenClaim := { program := "ytibdgjkmlomgcaadoor", sum := "acae15a1d20803732cb6fac658a0d0a6880867959aa591871c23003d58bbd869", func := "commonhold/commonholdkeep.SumBurst", spec := "sumBurst", named := ["commonhold/sum.fours"], apart := false, laid := [("commonhold/sum.fours", laid_commonhold_sum_fours)] }
def SumBurstSaid : Prop := sumBurstRow.holds Tryd.pinned (OpenSpec.ofChange sumBurstSpec)

/-- ITS FALSE NEIGHBOUR: 'it returns false'. Refute it at one input. -/
def sumBurstWrong : ChangeSpec := { name := "sumBurst", fn := fun _ => fun
  | [d1, d2, d3] => { results := [.lit (.bool false)], args := [d1, d2, d3] }
  | _ => none }
def SumBurstWrongFalsely : Prop := sumBurstRow.holds Tryd.pinned (OpenSpec.ofChange sumBurstWrong)

/- THE SECOND FORM. 'bulk': how many values and letters a reading holds, each counted each time it is reached (what is shared counts as often as it is met; a slice's spare places count too). A statement '..UptoSaid' is the law's where the arguments, and the package variables that the reading takes, are together of bulk at most 1048576: NARROWER than '..Said'. Prove '..Said' where nothing that the law and all that it calls make is longer than what came in: it says more and counts as full. Else prove '..UptoSaid'. A law counts once. -/
mutual
def uptoBulk {H : Type} : DataW H → Nat
  | .lit (.string bytes) => bytes.length + 1
  | .lit _ => 1
  | .nil => 1
  | .ptr d => uptoBulk d + 1
  | .slice elems spare => uptoBulkAll elems + uptoBulkAll spare + 1
  | .agg parts => uptoBulkAll parts + 1
  | .iface _ d => uptoBulk d + 1
  | .map entries => uptoBulkEntries entries + 1
  | .held _ => 1
def uptoBulkAll {H : Type} : List (DataW H) → Nat
  | [] => 0
  | d :: r => uptoBulk d + uptoBulkAll r
def uptoBulkEntries {H : Type} : List (Lit × DataW H) → Nat
  | [] => 0
  | x :: r => uptoBulkEntry x + uptoBulkEntries r
def uptoBulkEntry {H : Type} : Lit × DataW H → Nat
  | (.string bytes, d) => bytes.length + uptoBulk d + 1
  | (_, d) => uptoBulk d + 1
 end
def uptoSmall : (H : Type) → List (DataW H) → Bool := fun _ ds => decide (uptoBulkAll ds ≤ 1048576)
def OpenSpec.upto (s : _root_.Go.ChangeSpec) : _root_.Go.OpenSpec := { _root_.Go.OpenSpec.ofChange s with cond := some uptoSmall }

/-- 'commonholdlaw.SumOfs', WHERE WHAT IT READS IS OF BULK AT MOST 1048576: true; the input reads as it did. -/
def sumOfsUptoRow : OpenClaim := { program := "ytibdgjkmlomgcaadoor", sum := "acae15a1d20803732cb6fac658a0d0a6880867959aa591871c23003d58bbd869", func := "commonhold/commonholdlaw.SumOfs", spec := "sumOfs", named := ["commonhold/sum.fours"], apart := false, laid := [("commonhold/sum.fours", laid_commonhold_sum_fours)], narrowed := true }
def SumOfsUptoSaid : Prop := sumOfsUptoRow.holds Tryd.pinned (OpenSpec.upto sumOfsSpec)

/-- 'commonholdlaw.SumMores', WHERE WHAT IT READS IS OF BULK AT MOST 1048576: true; the input reads as it did. -/
def sumMoresUptoRow : OpenClaim := { program := "ytibdgjkmlomgcaadoor", sum := "acae15a1d20803732cb6fac658a0d0a6880867959aa591871c23003d58bbd869", func := "commonhold/commonholdlaw.SumMores", spec := "sumMores", named := ["commonhold/sum.fours"], apart := false, laid := [("commonhold/sum.fours", laid_commonhold_sum_fours)], narrowed := true }
def SumMoresUptoSaid : Prop := sumMoresUptoRow.holds Tryd.pinned (OpenSpec.upto sumMoresSpec)

/-- 'commonholdkeep.SumParts', WHERE WHAT IT READS IS OF BULK AT MOST 1048576: true; the input reads as it did. -/
def sumPartsUptoRow : OpenClaim := { program := "ytibdgjkmlomgcaadoor", sum := "acae15a1d20803732cb6fac658a0d0a6880867959aa591871c23003d58bbd869", func := "commonhold/commonholdkeep.SumParts", spec := "sumParts", named := ["commonhold/sum.fours"], apart := false, laid := [("commonhold/sum.fours", laid_commonhold_sum_fours)], narrowed := true }
def SumPartsUptoSaid : Prop := sumPartsUptoRow.holds Tryd.pinned (OpenSpec.upto sumPartsSpec)

/-- 'commonholdkeep.SumLinear', WHERE WHAT IT READS IS OF BULK AT MOST 1048576: true; the input reads as it did. -/
def sumLinearUptoRow : OpenClaim := { program := "ytibdgjkmlomgcaadoor", sum := "acae15a1d20803732cb6fac658a0d0a6880867959aa591871c23003d58bbd869", func := "commonhold/commonholdkeep.SumLinear", spec := "sumLinear", named := ["commonhold/sum.fours"], apart := false, laid := [("commonhold/sum.fours", laid_commonhold_sum_fours)], narrowed := true }
def SumLinearUptoSaid : Prop := sumLinearUptoRow.holds Tryd.pinned (OpenSpec.upto sumLinearSpec)

/-- 'commonholdkeep.SumBurst', WHERE WHAT IT READS IS OF BULK AT MOST 1048576: true; the input reads as it did. -/
def sumBurstUptoRow : OpenClaim := { program := "ytibdgjkmlomgcaadoor", sum := "acae15a1d20803732cb6fac658a0d0a6880867959aa591871c23003d58bbd869", func := "commonhold/commonholdkeep.SumBurst", spec := "sumBurst", named := ["commonhold/sum.fours"], apart := false, laid := [("commonhold/sum.fours", laid_commonhold_sum_fours)], narrowed := true }
def SumBurstUptoSaid : Prop := sumBurstUptoRow.holds Tryd.pinned (OpenSpec.upto sumBurstSpec)

end Rows
end Go.Proofs.YtibdgjkmlomgcaaDoor
