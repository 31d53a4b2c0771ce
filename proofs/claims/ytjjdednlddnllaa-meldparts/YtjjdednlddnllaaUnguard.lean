/- An operation behind a test that has answered yes goes as if no test stood ahead of it. -/
import Derived.Test.YtjjdednlddnllaaRowsStep
namespace Go.Proofs.Ytjjdednlddnllaa
open Go.ChangeShapes Go.WideShapes Go.ChangeAt Go.RowKit

theorem wpList_unguard {P : Program} {ops : Array Oper} {Q : Exit → Act → World → Prop} {a : Act} {w : World} {rest : List Oper} {o : Oper} {j : Nat} {b : Bool}
    (hg : o.guard = some (j, b)) (hj : yielded ops a.tmps j = some b) (h : wpList P ops Q ({ o with guard := none } :: rest) a w) : wpList P ops Q (o :: rest) a w := by
  unfold wpList at h ⊢
  rw [if_pos (by simp [Region.wanted])] at h
  rw [if_pos (by simp [Region.wanted, hg, hj])]
  exact h

end Go.Proofs.Ytjjdednlddnllaa
