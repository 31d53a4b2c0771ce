/- What isTruth comes to at every whole number. -/
import Derived.Test.YtnplkdngboogdacChecked
import Derived.WalkKit
import Derived.ProofKit
import Derived.OpenShut
import Derived.Deep.RegionWith
namespace Go.Proofs.Ytnplkdngboogdac
open Go.ChangeShapes Go.WideShapes Go.ChangeAt Go.RowKit

theorem isTruth_any (t : Int) (w : World) :
    Calls Try.prog 10 #[.int .i64 t] w fun e w' => e = .returned (.bool (decide (0 ≤ t ∧ t ≤ 2))) ∧ w = w' := by
  by_cases h0 : 0 ≤ t
  · by_cases h2 : t ≤ 2
    · have e : decide (0 ≤ t ∧ t ≤ 2) = true := by simp [h0, h2]
      rw [e]
      have d0 : decide (0 ≤ t) = true := by simp [h0]
      have d2 : decide (t ≤ 2) = true := by simp [h2]
      go_enter Try.func10, Try.ntmps10
      go_wp2
      go_ret
      exact ⟨rfl, rfl⟩
    · have e : decide (0 ≤ t ∧ t ≤ 2) = false := by simp [h2]
      rw [e]
      have d0 : decide (0 ≤ t) = true := by simp [h0]
      have d2 : decide (t ≤ 2) = false := by simp [h2]
      go_enter Try.func10, Try.ntmps10
      go_wp2
      go_ret
      exact ⟨rfl, rfl⟩
  · have e : decide (0 ≤ t ∧ t ≤ 2) = false := by simp [h0]
    rw [e]
    have d0 : decide (0 ≤ t) = false := by simp [h0]
    go_enter Try.func10, Try.ntmps10
    go_wp2
    go_ret
    exact ⟨rfl, rfl⟩

end Go.Proofs.Ytnplkdngboogdac
