/- The helper of DivWhole (a number that is not above 0, as great as this one), and the plain arithmetic of quotient and rest. -/
import Derived.Test.YtbdliggncindkabNumOwn
namespace Go.Proofs.Ytbdliggncindkab
open Go.ChangeShapes Go.WideShapes Go.ChangeAt Go.RowKit

/-- a number that is not above 0, as great as this one -/
def bel (a : Int) : Int := if a < 0 then a else -a

theorem below_any (a : Int) (a0 : -9223372036854775808 ≤ a) (a1 : a ≤ 9223372036854775807) (w : World) :
    Calls Try.prog 13 #[.int .i64 a] w fun e w' => e = .returned (.int .i64 (bel a)) ∧ w = w' := by
  by_cases c : a < 0
  · have hb : bel a = a := by simp only [bel]; omega
    rw [hb]
    clear hb
    go_enter Try.func13, Try.ntmps13
    go_wp2
    go_ret
    exact ⟨rfl, rfl⟩
  · have hb : bel a = -a := by simp only [bel]; omega
    rw [hb]
    clear hb
    go_enter Try.func13, Try.ntmps13
    go_wp2
    go_ret
    exact ⟨rfl, rfl⟩

/-- quotient and rest make the whole; the rest is less; it has the sign of the whole -/
theorem whole (a b : Int) (zb : b ≠ 0) : a.tdiv b * b + a.tmod b = a ∧ bel b < bel (a.tmod b) ∧ (a.tmod b ≠ 0 → (a.tmod b < 0 ↔ a < 0)) := by
  have h1 := Int.mul_tdiv_add_tmod a b
  have h2 := Int.natAbs_tmod a b
  have h3 : a.natAbs % b.natAbs < b.natAbs := Nat.mod_lt _ (by omega)
  have h4 : 0 ≤ a → 0 ≤ a.tmod b := fun h => Int.tmod_nonneg b h
  have h5 : a < 0 → a.tmod b ≤ 0 := by
    intro h
    have := Int.tmod_nonneg b (show 0 ≤ -a by omega)
    rw [Int.neg_tmod] at this
    omega
  rw [Int.mul_comm] at h1
  simp only [bel]
  refine ⟨h1, ?_, ?_⟩ <;> omega

theorem whole_fits (a b : Int) (a0 : -9223372036854775808 ≤ a) (a1 : a ≤ 9223372036854775807) (h : ¬ (a = -9223372036854775808 ∧ b = -1)) :
    -9223372036854775808 ≤ a.tdiv b ∧ a.tdiv b ≤ 9223372036854775807 := by
  by_cases hb : b = -1
  · subst hb
    rw [Int.tdiv_neg, Int.tdiv_one]
    omega
  · exact tdiv_fits a b a0 a1 hb
end Go.Proofs.Ytbdliggncindkab
