/- What the document's Negated comes to at every whole number. -/
import Derived.Test.YtnplkdngboogdaaValueNot
namespace Go.Proofs.Ytnplkdngboogdaa
open Go.ChangeShapes Go.WideShapes Go.ChangeAt Go.RowKit

theorem Negated_any (t : Int) (w : World) :
    Calls Try.prog 11 #[.int .i64 t] w fun e w' => e = .returned (.tuple #[.int .i64 (notVal t), .int .i64 (notErr t)]) ∧ w = w' := by
  by_cases h0 : t = 0
  · subst h0
    go_enter Try.func11, Try.ntmps11
    go_wp2
    go_ret2
    exact ⟨rfl, rfl⟩
  · by_cases h1 : t = 1
    · subst h1
      go_enter Try.func11, Try.ntmps11
      go_wp2
      go_ret2
      exact ⟨rfl, rfl⟩
    · by_cases h2 : t = 2
      · subst h2
        go_enter Try.func11, Try.ntmps11
        go_wp2
        go_ret2
        exact ⟨rfl, rfl⟩
      · have h : ¬ (0 ≤ t ∧ t ≤ 2) := by omega
        have ev : notVal t = 0 := by simp [notVal, h]
        have ee : notErr t = 2 := by simp [notErr, h]
        have g0 : (t == 0) = false := by simp [h0]
        have g1 : (t == 1) = false := by simp [h1]
        have g2 : (t == 2) = false := by simp [h2]
        rw [ev, ee]
        go_enter Try.func11, Try.ntmps11
        go_wp2
        go_ret2
        exact ⟨rfl, rfl⟩

end Go.Proofs.Ytnplkdngboogdaa
