/- What isTruth, Not and the document's Negated come to at every whole number. -/
import Derived.Test.YtnplkdngboogdabChecked
import Derived.WalkKit
import Derived.ProofKit
import Derived.OpenShut
import Derived.Deep.RegionWith
namespace Go.Proofs.Ytnplkdngboogdab
open Go.ChangeShapes Go.WideShapes Go.ChangeAt Go.RowKit

/-- the truth value that Not answers, 0 where there is none -/
def notVal (t : Int) : Int := if 0 ≤ t ∧ t ≤ 2 then 2 - t else 0

/-- 0 (OK) of a truth value, else 2 (ErrRange) -/
def notErr (t : Int) : Int := if 0 ≤ t ∧ t ≤ 2 then 0 else 2

theorem isTruth_any (t : Int) (w : World) :
    Calls Try.prog 11 #[.int .i64 t] w fun e w' => e = .returned (.bool (decide (0 ≤ t ∧ t ≤ 2))) ∧ w = w' := by
  by_cases h0 : 0 ≤ t
  · by_cases h2 : t ≤ 2
    · have e : decide (0 ≤ t ∧ t ≤ 2) = true := by simp [h0, h2]
      rw [e]
      have d0 : decide (0 ≤ t) = true := by simp [h0]
      have d2 : decide (t ≤ 2) = true := by simp [h2]
      go_enter Try.func11, Try.ntmps11
      go_wp2
      go_ret
      exact ⟨rfl, rfl⟩
    · have e : decide (0 ≤ t ∧ t ≤ 2) = false := by simp [h2]
      rw [e]
      have d0 : decide (0 ≤ t) = true := by simp [h0]
      have d2 : decide (t ≤ 2) = false := by simp [h2]
      go_enter Try.func11, Try.ntmps11
      go_wp2
      go_ret
      exact ⟨rfl, rfl⟩
  · have e : decide (0 ≤ t ∧ t ≤ 2) = false := by simp [h0]
    rw [e]
    have d0 : decide (0 ≤ t) = false := by simp [h0]
    go_enter Try.func11, Try.ntmps11
    go_wp2
    go_ret
    exact ⟨rfl, rfl⟩

theorem Not_any (t : Int) (w : World) :
    Calls Try.prog 8 #[.int .i64 t] w fun e w' => e = .returned (.tuple #[.int .i64 (notVal t), .int .i64 (notErr t)]) ∧ w = w' := by
  have hi := isTruth_any t
  by_cases h : 0 ≤ t ∧ t ≤ 2
  · have e : decide (0 ≤ t ∧ t ≤ 2) = true := by simp [h]
    rw [e] at hi
    have ev : notVal t = 2 - t := by simp [notVal, h]
    have ee : notErr t = 0 := by simp [notErr, h]
    have ew : wrap64 (2 - t) = 2 - t := IntWalk.wrap64_in _ (by omega)
    rw [ev, ee]
    go_enter Try.func8, Try.ntmps8
    go_wp2_with (go_at_call 11; refine (hi _).mono ?_; rintro e w' ⟨rfl, rfl⟩)
    go_ret2
    exact ⟨rfl, rfl⟩
  · have e : decide (0 ≤ t ∧ t ≤ 2) = false := by simp [h]
    rw [e] at hi
    have ev : notVal t = 0 := by simp [notVal, h]
    have ee : notErr t = 2 := by simp [notErr, h]
    rw [ev, ee]
    go_enter Try.func8, Try.ntmps8
    go_wp2_with (go_at_call 11; refine (hi _).mono ?_; rintro e w' ⟨rfl, rfl⟩)
    go_ret2
    exact ⟨rfl, rfl⟩

end Go.Proofs.Ytnplkdngboogdab
