/- Plain arithmetic for the product, the quotient and the rest: no program in sight. -/
import Derived.WalkKit
import Derived.Laws.BitsAllLaws
import Derived.Laws.Bits64
namespace Go.Proofs.Ytbdliggncindkab
open Go.RowKit

theorem mask32 (x : Int) (x0 : 0 ≤ x) (x1 : x ≤ 18446744073709551615) : bits .and .u64 x 4294967295 = x % 4294967296 := by
  rw [u64_and x 4294967295 x0 (by omega) (by omega) (by omega)]
  have e : (4294967295 : Int).toNat = 2 ^ 32 - 1 := rfl
  rw [e, Nat.and_two_pow_sub_one_eq_mod]
  omega

theorem prod_bound {x y : Int} (a : 0 ≤ x) (b : x ≤ 4294967295) (c : 0 ≤ y) (d : y ≤ 4294967295) : 0 ≤ x * y ∧ x * y ≤ 18446744065119617025 := by
  constructor
  · exact Int.mul_nonneg a c
  · exact Int.mul_le_mul b d c (by decide)

theorem prod_parts (x y x1 x0 y1 y0 : Int) (hx : x = 4294967296 * x1 + x0) (hy : y = 4294967296 * y1 + y0) :
    x * y = 18446744073709551616 * (x1 * y1) + 4294967296 * (x1 * y0 + x0 * y1) + x0 * y0 := by
  grind

/-- the upper half of a product of two numbers of 64 bits, reckoned by halves -/
theorem mul_hi (x y : Int) (x0 : 0 ≤ x) (x1 : x ≤ 18446744073709551615) (y0 : 0 ≤ y) (y1 : y ≤ 18446744073709551615) :
    IntKind.u64.wrap (IntKind.u64.wrap (IntKind.u64.wrap (x / 4294967296 * (y / 4294967296)) +
      IntKind.u64.wrap (IntKind.u64.wrap (x / 4294967296 * bits .and .u64 y 4294967295) + IntKind.u64.wrap (bits .and .u64 x 4294967295 * bits .and .u64 y 4294967295) / 4294967296) / 4294967296) +
      IntKind.u64.wrap (bits .and .u64 (IntKind.u64.wrap (IntKind.u64.wrap (x / 4294967296 * bits .and .u64 y 4294967295) + IntKind.u64.wrap (bits .and .u64 x 4294967295 * bits .and .u64 y 4294967295) / 4294967296)) 4294967295 +
        IntKind.u64.wrap (bits .and .u64 x 4294967295 * (y / 4294967296))) / 4294967296) = x * y / 18446744073709551616 := by
  rw [mask32 x x0 x1, mask32 y y0 y1]
  obtain ⟨A, hA⟩ : ∃ A, A = x / 4294967296 * (y / 4294967296) := ⟨_, rfl⟩
  obtain ⟨B, hB⟩ : ∃ B, B = x / 4294967296 * (y % 4294967296) := ⟨_, rfl⟩
  obtain ⟨C, hC⟩ : ∃ C, C = x % 4294967296 * (y / 4294967296) := ⟨_, rfl⟩
  obtain ⟨D, hD⟩ : ∃ D, D = x % 4294967296 * (y % 4294967296) := ⟨_, rfl⟩
  have bA := prod_bound (x := x / 4294967296) (y := y / 4294967296) (by omega) (by omega) (by omega) (by omega)
  have bB := prod_bound (x := x / 4294967296) (y := y % 4294967296) (by omega) (by omega) (by omega) (by omega)
  have bC := prod_bound (x := x % 4294967296) (y := y / 4294967296) (by omega) (by omega) (by omega) (by omega)
  have bD := prod_bound (x := x % 4294967296) (y := y % 4294967296) (by omega) (by omega) (by omega) (by omega)
  have hp := prod_parts x y (x / 4294967296) (x % 4294967296) (y / 4294967296) (y % 4294967296) (by omega) (by omega)
  rw [← hA, ← hB, ← hC, ← hD] at hp
  rw [← hA] at bA
  rw [← hB] at bB
  rw [← hC] at bC
  rw [← hD] at bD
  rw [← hA, ← hB, ← hC, ← hD, hp]
  clear hp hA hB hC hD
  rw [IntKind.wrap_u64 A, IntKind.wrap_u64 B, IntKind.wrap_u64 C, IntKind.wrap_u64 D]
  rw [Int.emod_eq_of_lt (a := A) (by omega) (by omega), Int.emod_eq_of_lt (a := B) (by omega) (by omega), Int.emod_eq_of_lt (a := C) (by omega) (by omega), Int.emod_eq_of_lt (a := D) (by omega) (by omega)]
  rw [IntWalk.u64_in (B + D / 4294967296) (by omega)]
  rw [mask32 _ (by omega) (by omega)]
  rw [IntWalk.u64_in ((B + D / 4294967296) % 4294967296 + C) (by omega)]
  rw [IntWalk.u64_in (A + (B + D / 4294967296) / 4294967296) (by omega)]
  rw [IntWalk.u64_in _ (by omega)]
  omega

/-- a quotient cut toward 0 is no greater than what was divided -/
theorem tdiv_abs (n b : Int) : (n.tdiv b).natAbs ≤ n.natAbs := by
  rw [Int.natAbs_tdiv]
  exact Nat.div_le_self _ _

/-- what is too great and has the right sign does not divide back -/
theorem mul_over (a b : Int) (a0 : -9223372036854775808 ≤ a) (a1 : a ≤ 9223372036854775807) (b0 : -9223372036854775808 ≤ b) (b1 : b ≤ 9223372036854775807)
    (hb : b ≠ 0) (hn : ¬ (-9223372036854775808 ≤ a * b ∧ a * b ≤ 9223372036854775807))
    (hs : (decide (wrap64 (a * b) < 0) == (decide (a < 0) != decide (b < 0))) = true) : (wrap64 ((wrap64 (a * b)).tdiv b) == a) = false := by
  rw [beq_eq_false_iff_ne]
  intro hq
  by_cases h1 : b = -1
  · subst h1
    have ha : a = -9223372036854775808 := by omega
    subst ha
    revert hs
    unfold wrap64
    decide
  · have hn0 : -9223372036854775808 ≤ wrap64 (a * b) ∧ wrap64 (a * b) ≤ 9223372036854775807 := by unfold wrap64; omega
    have hm0 : ∃ k, wrap64 (a * b) = a * b + 18446744073709551616 * k := by
      refine ⟨-((a * b + 9223372036854775808) / 18446744073709551616), ?_⟩
      unfold wrap64
      omega
    obtain ⟨n, hN⟩ : ∃ n, n = wrap64 (a * b) := ⟨_, rfl⟩
    rw [← hN] at hq hn0 hm0
    obtain ⟨k, hk⟩ := hm0
    have hab := tdiv_abs n b
    have hdm := Int.mul_tdiv_add_tmod n b
    have hr := Int.natAbs_tmod n b
    have hr2 : n.natAbs % b.natAbs < b.natAbs := Nat.mod_lt _ (by omega)
    have hq2 : n.tdiv b ≠ 9223372036854775808 := by
      intro he
      have e1 : (n.tdiv b).natAbs = n.natAbs / b.natAbs := Int.natAbs_tdiv n b
      rw [he] at e1
      have e2 : n.natAbs = 9223372036854775808 := by omega
      rw [e2] at e1
      have e3 : b.natAbs = 1 := by
        by_cases h2 : 2 ≤ b.natAbs
        · have := Nat.div_le_div_left (a := 9223372036854775808) h2 (by omega)
          omega
        · omega
      have e4 : b = 1 := by omega
      rw [e4, Int.tdiv_one] at he
      omega
    have hw : wrap64 (n.tdiv b) = n.tdiv b := IntWalk.wrap64_in _ (by omega)
    rw [hw] at hq
    rw [hq, Int.mul_comm b a] at hdm
    omega

theorem sign_mul (a b : Int) (za : a ≠ 0) (zb : b ≠ 0) : (decide (a * b < 0) == (decide (a < 0) != decide (b < 0))) = true := by
  by_cases ca : a < 0
  · by_cases cb : b < 0
    · have := Int.mul_pos_of_neg_of_neg ca cb
      have h : ¬ a * b < 0 := by omega
      simp [ca, cb, h]
    · have := Int.mul_neg_of_neg_of_pos ca (show 0 < b by omega)
      simp [ca, cb, this]
  · by_cases cb : b < 0
    · have := Int.mul_neg_of_pos_of_neg (show 0 < a by omega) cb
      simp [ca, cb, this]
    · have := Int.mul_pos (show 0 < a by omega) (show 0 < b by omega)
      have h : ¬ a * b < 0 := by omega
      simp [ca, cb, h]

/-- how great a number is, without its sign -/
def mag (a : Int) : Int := if a < 0 then -a else a
/-- the number of a size and a sign -/
def sg (m : Int) (below : Bool) : Int := if below = true then -m else m

theorem mag_nonneg (a : Int) : 0 ≤ mag a := by simp only [mag]; omega
theorem mag_le (a : Int) (a0 : -9223372036854775808 ≤ a) (a1 : a ≤ 9223372036854775807) : mag a ≤ 9223372036854775808 := by simp only [mag]; omega

theorem sg_tdiv (a b : Int) : sg (mag a / mag b) (decide (a < 0) != decide (b < 0)) = a.tdiv b := by
  by_cases ca : a < 0
  · by_cases cb : b < 0
    · simp only [sg, mag, ca, cb, if_true, decide_true, bne_self_eq_false]
      rw [← Int.tdiv_eq_ediv_of_nonneg (by omega), Int.neg_tdiv, Int.tdiv_neg]
      simp
    · simp only [sg, mag, ca, cb, if_true, if_false, decide_true, decide_false]
      rw [← Int.tdiv_eq_ediv_of_nonneg (by omega), Int.neg_tdiv]
      simp
  · by_cases cb : b < 0
    · simp only [sg, mag, ca, cb, if_true, if_false, decide_true, decide_false]
      rw [← Int.tdiv_eq_ediv_of_nonneg (by omega), Int.tdiv_neg]
      simp
    · simp only [sg, mag, ca, cb, if_false, decide_false, bne_self_eq_false]
      rw [← Int.tdiv_eq_ediv_of_nonneg (by omega)]
      simp

theorem sg_tmod (a b : Int) : sg (mag a % mag b) (decide (a < 0)) = a.tmod b := by
  by_cases ca : a < 0
  · by_cases cb : b < 0
    · simp only [sg, mag, ca, cb, if_true, decide_true]
      rw [← Int.tmod_eq_emod_of_nonneg (by omega), Int.neg_tmod, Int.tmod_neg]
      omega
    · simp only [sg, mag, ca, cb, if_true, if_false, decide_true]
      rw [← Int.tmod_eq_emod_of_nonneg (by omega), Int.neg_tmod]
      omega
  · by_cases cb : b < 0
    · simp only [sg, mag, ca, cb, if_true, if_false, decide_false]
      rw [← Int.tmod_eq_emod_of_nonneg (by omega), Int.tmod_neg]
      simp
    · simp only [sg, mag, ca, cb, if_false, decide_false]
      rw [← Int.tmod_eq_emod_of_nonneg (by omega)]
      simp

theorem tdiv_fits (a b : Int) (a0 : -9223372036854775808 ≤ a) (a1 : a ≤ 9223372036854775807) (h : b ≠ -1) :
    -9223372036854775808 ≤ a.tdiv b ∧ a.tdiv b ≤ 9223372036854775807 := by
  have hab := tdiv_abs a b
  have hq2 : a.tdiv b ≠ 9223372036854775808 := by
    intro he
    have e1 : (a.tdiv b).natAbs = a.natAbs / b.natAbs := Int.natAbs_tdiv a b
    rw [he] at e1
    have e2 : a.natAbs = 9223372036854775808 := by omega
    rw [e2] at e1
    have e3 : b.natAbs = 1 := by
      by_cases h2 : 2 ≤ b.natAbs
      · have := Nat.div_le_div_left (a := 9223372036854775808) h2 (by omega)
        omega
      · by_cases h3 : b.natAbs = 0
        · rw [h3, Nat.div_zero] at e1
          omega
        · omega
    have e4 : b = 1 := by omega
    rw [e4, Int.tdiv_one] at he
    omega
  omega

theorem tmod_fits (a b : Int) (b0 : -9223372036854775808 ≤ b) (b1 : b ≤ 9223372036854775807) (zb : b ≠ 0) :
    -9223372036854775808 ≤ a.tmod b ∧ a.tmod b ≤ 9223372036854775807 := by
  have hr := Int.natAbs_tmod a b
  have hr2 : a.natAbs % b.natAbs < b.natAbs := Nat.mod_lt _ (by omega)
  omega
end Go.Proofs.Ytbdliggncindkab
