/- What the library of the kit knows of functions of Go's library, laid at this dump: a table of numbers and closed facts. -/
import Derived.Shelf.Unicode.ValidAny
import Derived.Lib.LaidU8T
import Derived.Test.YtfjdoeaoikdeeaaDoorRRChecked
namespace Go.Proofs.YtfjdoeaoikdeeaaDoorRR
open Go.Shelf
def Tryd.l196_ren : Go.Shelf.Ren := ⟨fun | 196 => 11 | 259 => 19 | n => n, fun | 9 => 9 | 4 => 4 | 3 => 3 | 5 => 5 | 12 => 12 | 119 => 30 | 0 => 0 | 46 => 34 | 139 => 33 | 138 => 32 | 53 => 38 | n => n, fun | 3 => 0 | 4 => 1 | n => n⟩
theorem Tryd.l196 : Go.Proofs.Lays.n196 Tryd.prog Tryd.l196_ren := {
  mixed := by kernel_rfl
  f196 := Tryd.func11.trans (congrArg some (by kernel_rfl))
  f259 := Tryd.func19.trans (congrArg some (by kernel_rfl))
  t0 := Tryd.underlying0
  a0 := Tryd.isAgg0
  z0 := Tryd.sizeOf0
  v0 := Tryd.zeroValue0
  t3 := Tryd.underlying3
  a3 := Tryd.isAgg3
  z3 := Tryd.sizeOf3
  v3 := Tryd.zeroValue3
  t4 := Tryd.underlying4
  a4 := Tryd.isAgg4
  z4 := Tryd.sizeOf4
  v4 := Tryd.zeroValue4
  t5 := Tryd.underlying5
  a5 := Tryd.isAgg5
  z5 := Tryd.sizeOf5
  v5 := Tryd.zeroValue5
  t9 := Tryd.underlying9
  a9 := Tryd.isAgg9
  z9 := Tryd.sizeOf9
  v9 := Tryd.zeroValue9
  t12 := Tryd.underlying12
  a12 := Tryd.isAgg12
  z12 := Tryd.sizeOf12
  v12 := Tryd.zeroValue12
  t46 := Tryd.underlying34
  a46 := Tryd.isAgg34
  z46 := Tryd.sizeOf34
  v46 := Tryd.zeroValue34
  t53 := Tryd.underlying38
  a53 := Tryd.isAgg38
  z53 := Tryd.sizeOf38
  v53 := Tryd.zeroValue38
  t119 := Tryd.underlying30
  a119 := Tryd.isAgg30
  z119 := Tryd.sizeOf30
  t138 := Tryd.underlying32
  a138 := Tryd.isAgg32
  z138 := Tryd.sizeOf32
  v138 := Tryd.zeroValue32
  t139 := Tryd.underlying33
  a139 := Tryd.isAgg33
  z139 := Tryd.sizeOf33
  v139 := Tryd.zeroValue33
  g3 := by kernel_rfl
  g4 := by kernel_rfl }
end Go.Proofs.YtfjdoeaoikdeeaaDoorRR
