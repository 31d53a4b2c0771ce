/- Jobs out of raw numbers, in plain words. -/
import Derived.Test.YtfaejcdbjcklpaaJobArg
import Derived.Test.YtfaejcdbjcklpaaUnRun
namespace Go.Proofs.Ytfaejcdbjcklpaa
open Go.ChangeShapes Go.WideShapes Go.ChangeAt Go.RowKit

/-- the job that a task makes, and the epoch behind it -/
def jobOf (ep : Int) (t : Tsk) : Jb × Int :=
  if 1 + t.kind % 6 = 5 then (⟨5, ep + (1 + t.epoch % 2), t.addr % 6, []⟩, ep + (1 + t.epoch % 2))
  else (⟨1 + t.kind % 6, if t.epoch % 9 = 8 then ep - 1 else ep, if 1 + t.kind % 6 = 6 then t.addr % 24 else t.addr % 6, if 1 + t.kind % 6 = 1 then t.data.take 10 else []⟩, ep)

def jobsOf (ep : Int) : List Tsk → List Jb × Int
  | [] => ([], ep)
  | t :: ts => ((jobOf ep t).1 :: (jobsOf (jobOf ep t).2 ts).1, (jobsOf (jobOf ep t).2 ts).2)

theorem jobsOf_snoc (ep : Int) (l : List Tsk) (t : Tsk) : jobsOf ep (l ++ [t]) = ((jobsOf ep l).1 ++ [(jobOf (jobsOf ep l).2 t).1], (jobOf (jobsOf ep l).2 t).2) := by
  induction l generalizing ep with
  | nil => rfl
  | cons x xs ih => simp only [List.cons_append, jobsOf, ih]

theorem jobsOf_length (ep : Int) (l : List Tsk) : (jobsOf ep l).1.length = l.length := by
  induction l generalizing ep with
  | nil => rfl
  | cons x xs ih => simp only [jobsOf, List.length_cons, ih]

theorem jobOf_epoch (ep : Int) (t : Tsk) : ep ≤ (jobOf ep t).2 ∧ (jobOf ep t).2 ≤ ep + 2 := by
  unfold jobOf
  have h1 := Int.emod_nonneg t.epoch (show (2 : Int) ≠ 0 by decide)
  have h2 := Int.emod_lt_of_pos t.epoch (show (0 : Int) < 2 by decide)
  split
  · simp only
    omega
  · simp only
    omega

theorem jobsOf_epoch (ep : Int) (l : List Tsk) : ep ≤ (jobsOf ep l).2 ∧ (jobsOf ep l).2 ≤ ep + 2 * l.length := by
  induction l generalizing ep with
  | nil => simp [jobsOf]
  | cons x xs ih =>
    have h1 := jobOf_epoch ep x
    have h2 := ih (jobOf ep x).2
    simp only [jobsOf, List.length_cons]
    omega

end Go.Proofs.Ytfaejcdbjcklpaa
