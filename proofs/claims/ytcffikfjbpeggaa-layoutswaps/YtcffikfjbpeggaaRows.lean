/-
  No cell of these rows narrows 'for every input' (looked for: loops, veiled, ifaces, maps, wideKeys, modest, calm, conditions, laid).
  DERIVED. THE GIVEN ROWS OF THIS SEAT. 6 by the template 'for every input the law returns true; each argument reads behind the call as it read before'; 0 by the template 'total and deterministic' (their statements: YtcffikfjbpeggaaTotals.lean).
  GIVEN WITH THE SEED: the statements are not yours to turn. If you find one false, say at which input.
  Laid BY PROGRAM, IN A SANDBOX (cutbox-rows.mjs): the forced cells as the released guide's own fill.sh prints them over the translation 0dcabf2a11428323… (all of the seat's roots in one cut). By AI agents, Wed Nov 11 2026. No macro, syntax, notation, axiom, sorry.
-/
import Derived.Test.YtcffikfjbpeggaaChecked
import GoSem.Claim
import GoSem.ClaimJoined
import GoSem.ClaimMapViews
import Derived.JoinedTies
import Derived.KernelRfl
namespace Go.Proofs.Ytcffikfjbpeggaa
/- THE CELL 'sum', in the pinned program and in every row, IS THE sha256 OF THE DUMP (.gsa) THAT YtcffikfjbpeggaaProg.lean LOADS. Nothing in Lean hashes anything: it is a label: what it is worth is what the hold of that sum in a sandbox is worth. -/
noncomputable def Try.pinned : Pinned := { name := "ytcffikfjbpeggaa", sum := "0dcabf2a11428323bf0c06486bfe6047000380a8ea6fef57a580084bcfac3fb5", checked := Try.checked }
namespace Rows
def none {H : Type} : Left H := { results := [], args := [] }

/-- 'commonholdlaw.LayoutMays': WHATEVER THE INPUT: true; the input reads as it did. -/
def layoutMaysSpec : ChangeSpec := { name := "layoutMays", fn := fun _ => fun
  | [d] => { results := [.lit (.bool true)], args := [d] }
  | _ => none }
def layoutMaysRow : OpenClaim := { program := "ytcffikfjbpeggaa", sum := "0dcabf2a11428323bf0c06486bfe6047000380a8ea6fef57a580084bcfac3fb5", func := "commonhold/commonholdlaw.LayoutMays", spec := "layoutMays", unfollowed := true, recurses := true, apart := false }
def LayoutMaysSaid : Prop := layoutMaysRow.holds Try.pinned (OpenSpec.ofChange layoutMaysSpec)

/-- ITS FALSE NEIGHBOUR: 'it returns false'. Refute it at one input. -/
def layoutMaysWrong : ChangeSpec := { name := "layoutMays", fn := fun _ => fun
  | [d] => { results := [.lit (.bool false)], args := [d] }
  | _ => none }
def LayoutMaysWrongFalsely : Prop := layoutMaysRow.holds Try.pinned (OpenSpec.ofChange layoutMaysWrong)

/-- 'commonholdlaw.LayoutPlaces': WHATEVER THE INPUT: true; the input reads as it did. -/
def layoutPlacesSpec : ChangeSpec := { name := "layoutPlaces", fn := fun _ => fun
  | [d1, d2] => { results := [.lit (.bool true)], args := [d1, d2] }
  | _ => none }
def layoutPlacesRow : OpenClaim := { program := "ytcffikfjbpeggaa", sum := "0dcabf2a11428323bf0c06486bfe6047000380a8ea6fef57a580084bcfac3fb5", func := "commonhold/commonholdlaw.LayoutPlaces", spec := "layoutPlaces", unfollowed := true, recurses := true, apart := false }
def LayoutPlacesSaid : Prop := layoutPlacesRow.holds Try.pinned (OpenSpec.ofChange layoutPlacesSpec)

/-- ITS FALSE NEIGHBOUR: 'it returns false'. Refute it at one input. -/
def layoutPlacesWrong : ChangeSpec := { name := "layoutPlaces", fn := fun _ => fun
  | [d1, d2] => { results := [.lit (.bool false)], args := [d1, d2] }
  | _ => none }
def LayoutPlacesWrongFalsely : Prop := layoutPlacesRow.holds Try.pinned (OpenSpec.ofChange layoutPlacesWrong)

/-- 'commonholdlaw.LayoutPoses': WHATEVER THE INPUT: true; the input reads as it did. -/
def layoutPosesSpec : ChangeSpec := { name := "layoutPoses", fn := fun _ => fun
  | [d1, d2, d3] => { results := [.lit (.bool true)], args := [d1, d2, d3] }
  | _ => none }
def layoutPosesRow : OpenClaim := { program := "ytcffikfjbpeggaa", sum := "0dcabf2a11428323bf0c06486bfe6047000380a8ea6fef57a580084bcfac3fb5", func := "commonhold/commonholdlaw.LayoutPoses", spec := "layoutPoses", unfollowed := true, recurses := true, apart := false }
def LayoutPosesSaid : Prop := layoutPosesRow.holds Try.pinned (OpenSpec.ofChange layoutPosesSpec)

/-- ITS FALSE NEIGHBOUR: 'it returns false'. Refute it at one input. -/
def layoutPosesWrong : ChangeSpec := { name := "layoutPoses", fn := fun _ => fun
  | [d1, d2, d3] => { results := [.lit (.bool false)], args := [d1, d2, d3] }
  | _ => none }
def LayoutPosesWrongFalsely : Prop := layoutPosesRow.holds Try.pinned (OpenSpec.ofChange layoutPosesWrong)

/-- 'commonholdlaw.LayoutTails': WHATEVER THE INPUT: true; the input reads as it did. -/
def layoutTailsSpec : ChangeSpec := { name := "layoutTails", fn := fun _ => fun
  | [d1, d2] => { results := [.lit (.bool true)], args := [d1, d2] }
  | _ => none }
def layoutTailsRow : OpenClaim := { program := "ytcffikfjbpeggaa", sum := "0dcabf2a11428323bf0c06486bfe6047000380a8ea6fef57a580084bcfac3fb5", func := "commonhold/commonholdlaw.LayoutTails", spec := "layoutTails", unfollowed := true, recurses := true, apart := false }
def LayoutTailsSaid : Prop := layoutTailsRow.holds Try.pinned (OpenSpec.ofChange layoutTailsSpec)

/-- ITS FALSE NEIGHBOUR: 'it returns false'. Refute it at one input. -/
def layoutTailsWrong : ChangeSpec := { name := "layoutTails", fn := fun _ => fun
  | [d1, d2] => { results := [.lit (.bool false)], args := [d1, d2] }
  | _ => none }
def LayoutTailsWrongFalsely : Prop := layoutTailsRow.holds Try.pinned (OpenSpec.ofChange layoutTailsWrong)

/-- 'commonholdlaw.LayoutSwaps': WHATEVER THE INPUT: true; the input reads as it did. -/
def layoutSwapsSpec : ChangeSpec := { name := "layoutSwaps", fn := fun _ => fun
  | [d1, d2, d3] => { results := [.lit (.bool true)], args := [d1, d2, d3] }
  | _ => none }
def layoutSwapsRow : OpenClaim := { program := "ytcffikfjbpeggaa", sum := "0dcabf2a11428323bf0c06486bfe6047000380a8ea6fef57a580084bcfac3fb5", func := "commonhold/commonholdlaw.LayoutSwaps", spec := "layoutSwaps", unfollowed := true, recurses := true, apart := false }
def LayoutSwapsSaid : Prop := layoutSwapsRow.holds Try.pinned (OpenSpec.ofChange layoutSwapsSpec)

/-- ITS FALSE NEIGHBOUR: 'it returns false'. Refute it at one input. -/
def layoutSwapsWrong : ChangeSpec := { name := "layoutSwaps", fn := fun _ => fun
  | [d1, d2, d3] => { results := [.lit (.bool false)], args := [d1, d2, d3] }
  | _ => none }
def LayoutSwapsWrongFalsely : Prop := layoutSwapsRow.holds Try.pinned (OpenSpec.ofChange layoutSwapsWrong)

/-- 'commonholdkeep.PlaceBack': WHATEVER THE INPUT: true; the input reads as it did. -/
def placeBackSpec : ChangeSpec := { name := "placeBack", fn := fun _ => fun
  | [d1, d2, d3, d4, d5] => { results := [.lit (.bool true)], args := [d1, d2, d3, d4, d5] }
  | _ => none }
def placeBackRow : OpenClaim := { program := "ytcffikfjbpeggaa", sum := "0dcabf2a11428323bf0c06486bfe6047000380a8ea6fef57a580084bcfac3fb5", func := "commonhold/commonholdkeep.PlaceBack", spec := "placeBack", unfollowed := true, recurses := true, apart := false }
def PlaceBackSaid : Prop := placeBackRow.holds Try.pinned (OpenSpec.ofChange placeBackSpec)

/-- ITS FALSE NEIGHBOUR: 'it returns false'. Refute it at one input. -/
def placeBackWrong : ChangeSpec := { name := "placeBack", fn := fun _ => fun
  | [d1, d2, d3, d4, d5] => { results := [.lit (.bool false)], args := [d1, d2, d3, d4, d5] }
  | _ => none }
def PlaceBackWrongFalsely : Prop := placeBackRow.holds Try.pinned (OpenSpec.ofChange placeBackWrong)

/- THE SECOND FORM. 'bulk': how many values and letters a reading holds, each counted each time it is reached (what is shared counts as often as it is met; a slice's spare places count too). A statement '..UptoSaid' is the law's where the arguments, and the package variables that the reading takes, are together of bulk at most 1048576: NARROWER than '..Said'. Prove '..Said' where nothing that the law and all that it calls make is longer than what came in: it says more and counts as full. Else prove '..UptoSaid'. A law counts once. -/
mutual
def uptoBulk {H : Type} : DataW H → Nat
  | .lit (.string bytes) => bytes.length + 1
  | .lit _ => 1
  | .nil => 1
  | .ptr d => uptoBulk d + 1
  | .slice elems spare => uptoBulkAll elems + uptoBulkAll spare + 1
  | .agg parts => uptoBulkAll parts + 1
  | .iface _ d => uptoBulk d + 1
  | .map entries => uptoBulkEntries entries + 1
  | .held _ => 1
def uptoBulkAll {H : Type} : List (DataW H) → Nat
  | [] => 0
  | d :: r => uptoBulk d + uptoBulkAll r
def uptoBulkEntries {H : Type} : List (Lit × DataW H) → Nat
  | [] => 0
  | x :: r => uptoBulkEntry x + uptoBulkEntries r
def uptoBulkEntry {H : Type} : Lit × DataW H → Nat
  | (.string bytes, d) => bytes.length + uptoBulk d + 1
  | (_, d) => uptoBulk d + 1
 end
def uptoSmall : (H : Type) → List (DataW H) → Bool := fun _ ds => decide (uptoBulkAll ds ≤ 1048576)
def OpenSpec.upto (s : _root_.Go.ChangeSpec) : _root_.Go.OpenSpec := { _root_.Go.OpenSpec.ofChange s with cond := some uptoSmall }

/-- 'commonholdlaw.LayoutMays', WHERE WHAT IT READS IS OF BULK AT MOST 1048576: true; the input reads as it did. -/
def layoutMaysUptoRow : OpenClaim := { program := "ytcffikfjbpeggaa", sum := "0dcabf2a11428323bf0c06486bfe6047000380a8ea6fef57a580084bcfac3fb5", func := "commonhold/commonholdlaw.LayoutMays", spec := "layoutMays", unfollowed := true, recurses := true, apart := false, narrowed := true }
def LayoutMaysUptoSaid : Prop := layoutMaysUptoRow.holds Try.pinned (OpenSpec.upto layoutMaysSpec)

/-- 'commonholdlaw.LayoutPlaces', WHERE WHAT IT READS IS OF BULK AT MOST 1048576: true; the input reads as it did. -/
def layoutPlacesUptoRow : OpenClaim := { program := "ytcffikfjbpeggaa", sum := "0dcabf2a11428323bf0c06486bfe6047000380a8ea6fef57a580084bcfac3fb5", func := "commonhold/commonholdlaw.LayoutPlaces", spec := "layoutPlaces", unfollowed := true, recurses := true, apart := false, narrowed := true }
def LayoutPlacesUptoSaid : Prop := layoutPlacesUptoRow.holds Try.pinned (OpenSpec.upto layoutPlacesSpec)

/-- 'commonholdlaw.LayoutPoses', WHERE WHAT IT READS IS OF BULK AT MOST 1048576: true; the input reads as it did. -/
def layoutPosesUptoRow : OpenClaim := { program := "ytcffikfjbpeggaa", sum := "0dcabf2a11428323bf0c06486bfe6047000380a8ea6fef57a580084bcfac3fb5", func := "commonhold/commonholdlaw.LayoutPoses", spec := "layoutPoses", unfollowed := true, recurses := true, apart := false, narrowed := true }
def LayoutPosesUptoSaid : Prop := layoutPosesUptoRow.holds Try.pinned (OpenSpec.upto layoutPosesSpec)

/-- 'commonholdlaw.LayoutTails', WHERE WHAT IT READS IS OF BULK AT MOST 1048576: true; the input reads as it did. -/
def layoutTailsUptoRow : OpenClaim := { program := "ytcffikfjbpeggaa", sum := "0dcabf2a11428323bf0c06486bfe6047000380a8ea6fef57a580084bcfac3fb5", func := "commonhold/commonholdlaw.LayoutTails", spec := "layoutTails", unfollowed := true, recurses := true, apart := false, narrowed := true }
def LayoutTailsUptoSaid : Prop := layoutTailsUptoRow.holds Try.pinned (OpenSpec.upto layoutTailsSpec)

/-- 'commonholdlaw.LayoutSwaps', WHERE WHAT IT READS IS OF BULK AT MOST 1048576: true; the input reads as it did. -/
def layoutSwapsUptoRow : OpenClaim := { program := "ytcffikfjbpeggaa", sum := "0dcabf2a11428323bf0c06486bfe6047000380a8ea6fef57a580084bcfac3fb5", func := "commonhold/commonholdlaw.LayoutSwaps", spec := "layoutSwaps", unfollowed := true, recurses := true, apart := false, narrowed := true }
def LayoutSwapsUptoSaid : Prop := layoutSwapsUptoRow.holds Try.pinned (OpenSpec.upto layoutSwapsSpec)

/-- 'commonholdkeep.PlaceBack', WHERE WHAT IT READS IS OF BULK AT MOST 1048576: true; the input reads as it did. -/
def placeBackUptoRow : OpenClaim := { program := "ytcffikfjbpeggaa", sum := "0dcabf2a11428323bf0c06486bfe6047000380a8ea6fef57a580084bcfac3fb5", func := "commonhold/commonholdkeep.PlaceBack", spec := "placeBack", unfollowed := true, recurses := true, apart := false, narrowed := true }
def PlaceBackUptoSaid : Prop := placeBackUptoRow.holds Try.pinned (OpenSpec.upto placeBackSpec)

end Rows
end Go.Proofs.Ytcffikfjbpeggaa
