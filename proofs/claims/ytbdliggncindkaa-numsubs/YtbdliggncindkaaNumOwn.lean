/- What each function of package num comes to at every whole number of 64 bits, in plain whole numbers: the value where it fits, else 0 and the error. -/
import Derived.Test.YtbdliggncindkaaChecked
import Derived.WalkKit
import Derived.ProofKit
import Derived.OpenShut
import Derived.Deep.RegionWith
import Derived.Test.YtbdliggncindkaaNumPlain
namespace Go.Proofs.Ytbdliggncindkaa
open Go.ChangeShapes Go.WideShapes Go.ChangeAt Go.RowKit

/-- a whole number where it is one of 64 bits, else 0 -/
def val (n : Int) : Int := if -9223372036854775808 ≤ n ∧ n ≤ 9223372036854775807 then n else 0

/-- 0 (OK) where it is a number of 64 bits, else 10 (ErrOver) -/
def err (n : Int) : Int := if -9223372036854775808 ≤ n ∧ n ≤ 9223372036854775807 then 0 else 10

theorem two_eq {v v' e e' : Int} (h : v = v') (h' : e = e') : Ending.returned (.tuple #[.int .i64 v, .int .i64 e]) = .returned (.tuple #[.int .i64 v', .int .i64 e']) := by
  subst h h'; rfl

theorem answer_any (n : Int) (fits : Bool) (v c : Int) (hv : v = if fits = true then n else 0) (hc : c = if fits = true then 0 else 10) (w : World) :
    Calls Try.prog 21 #[.int .i64 n, .bool fits] w fun e w' => e = .returned (.tuple #[.int .i64 v, .int .i64 c]) ∧ w = w' := by
  cases fits
  · simp at hv hc
    subst hv hc
    go_enter Try.func21, Try.ntmps21
    go_wp2
    go_ret2
    exact ⟨rfl, rfl⟩
  · simp at hv hc
    subst hv hc
    go_enter Try.func21, Try.ntmps21
    go_wp2
    go_ret2
    exact ⟨rfl, rfl⟩

theorem add_any (a b : Int) (w : World) :
    Calls Try.prog 22 #[.int .i64 a, .int .i64 b] w fun e w' => e = .returned (.tuple #[.int .i64 (wrap64 (a + b)), .bool (decide (wrap64 (a + b) < a) == decide (b < 0))]) ∧ w = w' := by
  go_enter Try.func22, Try.ntmps22
  go_wp2
  go_ret2
  exact ⟨rfl, rfl⟩

theorem Add_any (a b : Int) (a0 : -9223372036854775808 ≤ a) (a1 : a ≤ 9223372036854775807) (b0 : -9223372036854775808 ≤ b) (b1 : b ≤ 9223372036854775807) (w : World) :
    Calls Try.prog 9 #[.int .i64 a, .int .i64 b] w fun e w' => e = .returned (.tuple #[.int .i64 (val (a + b)), .int .i64 (err (a + b))]) ∧ w = w' := by
  have hv : val (a + b) = if (decide (wrap64 (a + b) < a) == decide (b < 0)) = true then wrap64 (a + b) else 0 := by
    simp only [val, wrap64, beq_iff_eq, decide_eq_decide]
    omega
  have hc : err (a + b) = if (decide (wrap64 (a + b) < a) == decide (b < 0)) = true then 0 else 10 := by
    simp only [err, wrap64, beq_iff_eq, decide_eq_decide]
    omega
  have hans := answer_any _ _ _ _ hv hc
  clear hv hc
  go_enter Try.func9, Try.ntmps9
  go_wp2_with (first
    | (go_at_call 22; refine (add_any _ _ _).mono ?_; rintro e w' ⟨rfl, rfl⟩)
    | (go_at_call 21; refine (hans _).mono ?_; rintro e w' ⟨rfl, rfl⟩))
  go_ret2
  exact ⟨rfl, rfl⟩

theorem Sub_any (a b : Int) (a0 : -9223372036854775808 ≤ a) (a1 : a ≤ 9223372036854775807) (b0 : -9223372036854775808 ≤ b) (b1 : b ≤ 9223372036854775807) (w : World) :
    Calls Try.prog 11 #[.int .i64 a, .int .i64 b] w fun e w' => e = .returned (.tuple #[.int .i64 (val (a - b)), .int .i64 (err (a - b))]) ∧ w = w' := by
  have hv : val (a - b) = if (decide (a < wrap64 (a - b)) == decide (b < 0)) = true then wrap64 (a - b) else 0 := by
    simp only [val, wrap64, beq_iff_eq, decide_eq_decide]
    omega
  have hc : err (a - b) = if (decide (a < wrap64 (a - b)) == decide (b < 0)) = true then 0 else 10 := by
    simp only [err, wrap64, beq_iff_eq, decide_eq_decide]
    omega
  have hans := answer_any _ _ _ _ hv hc
  clear hv hc
  go_enter Try.func11, Try.ntmps11
  go_wp2_with (go_at_call 21; refine (hans _).mono ?_; rintro e w' ⟨rfl, rfl⟩)
  go_ret2
  exact ⟨rfl, rfl⟩

theorem Neg_any (a : Int) (a0 : -9223372036854775808 ≤ a) (a1 : a ≤ 9223372036854775807) (w : World) :
    Calls Try.prog 15 #[.int .i64 a] w fun e w' => e = .returned (.tuple #[.int .i64 (val (-a)), .int .i64 (err (-a))]) ∧ w = w' := by
  have h := Sub_any 0 a (by omega) (by omega) a0 a1
  rw [Int.zero_sub] at h
  go_enter Try.func15, Try.ntmps15
  go_wp2_with (go_at_call 11; refine (h _).mono ?_; rintro e w' ⟨rfl, rfl⟩)
  go_ret2
  exact ⟨rfl, rfl⟩

theorem answer_true (n : Int) (w : World) :
    Calls Try.prog 21 #[.int .i64 n, .bool true] w fun e w' => e = .returned (.tuple #[.int .i64 n, .int .i64 0]) ∧ w = w' :=
  answer_any n true n 0 (by simp) (by simp) w

theorem answer_false (n : Int) (w : World) :
    Calls Try.prog 21 #[.int .i64 n, .bool false] w fun e w' => e = .returned (.tuple #[.int .i64 0, .int .i64 10]) ∧ w = w' :=
  answer_any n false 0 10 (by simp) (by simp) w

/-- the product where neither is 0: the tests' answers (sa, sb: the signs; sn: the wrapped product's; q: it divides back) are given ahead -/
theorem Mul_core (a b : Int) (za : a ≠ 0) (zb : b ≠ 0) (sa sb sn q : Bool) (da : decide (a < 0) = sa) (db : decide (b < 0) = sb)
    (dn : decide (wrap64 (a * b) < 0) = sn) (dq : (wrap64 ((wrap64 (a * b)).tdiv b) == a) = q) (w : World) :
    Calls Try.prog 13 #[.int .i64 a, .int .i64 b] w fun e w' => e = .returned (.tuple #[.int .i64 (if (sn == (sa != sb)) && q then wrap64 (a * b) else 0), .int .i64 (if (sn == (sa != sb)) && q then 0 else 10)]) ∧ w = w' := by
  have ga : (a == 0) = false := by simp [za]
  have gb : (b == 0) = false := by simp [zb]
  cases sa <;> cases sb <;> cases sn <;> cases q
  all_goals
    go_enter Try.func13, Try.ntmps13
    go_wp2_with (first
      | (go_at_call_of 21 (Value.bool true); refine (answer_true _ _).mono ?_; rintro e w' ⟨rfl, rfl⟩)
      | (go_at_call_of 21 (Value.bool false); refine (answer_false _ _).mono ?_; rintro e w' ⟨rfl, rfl⟩))
    go_ret2
    exact ⟨rfl, rfl⟩

theorem Mul_any (a b : Int) (a0 : -9223372036854775808 ≤ a) (a1 : a ≤ 9223372036854775807) (b0 : -9223372036854775808 ≤ b) (b1 : b ≤ 9223372036854775807) (w : World) :
    Calls Try.prog 13 #[.int .i64 a, .int .i64 b] w fun e w' => e = .returned (.tuple #[.int .i64 (val (a * b)), .int .i64 (err (a * b))]) ∧ w = w' := by
  by_cases za : a = 0
  · subst za
    rw [Int.zero_mul]
    go_enter Try.func13, Try.ntmps13
    go_wp2
    go_ret2
    exact ⟨rfl, rfl⟩
  · by_cases zb : b = 0
    · have ga : (a == 0) = false := by simp [za]
      subst zb
      rw [Int.mul_zero]
      go_enter Try.func13, Try.ntmps13
      go_wp2
      go_ret2
      exact ⟨rfl, rfl⟩
    · have hm := Mul_core a b za zb _ _ _ _ rfl rfl rfl rfl w
      by_cases fit : -9223372036854775808 ≤ a * b ∧ a * b ≤ 9223372036854775807
      · have hv : val (a * b) = a * b := by simp only [val]; omega
        have hc : err (a * b) = 0 := by simp only [err]; omega
        have hw : wrap64 (a * b) = a * b := IntWalk.wrap64_in _ fit
        have hq : (a * b).tdiv b = a := Int.mul_tdiv_cancel a zb
        have hw2 : wrap64 a = a := IntWalk.wrap64_in _ ⟨a0, a1⟩
        have hs := sign_mul a b za zb
        rw [hw, hq, hw2, hs] at hm
        rw [hv, hc]
        simpa using hm
      · have hv : val (a * b) = 0 := by simp only [val]; omega
        have hc : err (a * b) = 10 := by simp only [err]; omega
        rw [hv, hc]
        by_cases hs : (decide (wrap64 (a * b) < 0) == (decide (a < 0) != decide (b < 0))) = true
        · rw [mul_over a b a0 a1 b0 b1 zb fit hs, Bool.and_false] at hm
          simpa using hm
        · rw [Bool.not_eq_true] at hs
          rw [hs, Bool.false_and] at hm
          simpa using hm

/-- Div's value: 0 where b is 0 -/
def dv (a b : Int) : Int := if b = 0 then 0 else val (a.tdiv b)

/-- Div's error: 11 (ErrZero) where b is 0 -/
def de (a b : Int) : Int := if b = 0 then 11 else err (a.tdiv b)

theorem Div_any (a b : Int) (a0 : -9223372036854775808 ≤ a) (a1 : a ≤ 9223372036854775807) (w : World) :
    Calls Try.prog 17 #[.int .i64 a, .int .i64 b] w fun e w' => e = .returned (.tuple #[.int .i64 (dv a b), .int .i64 (de a b)]) ∧ w = w' := by
  by_cases zb : b = 0
  · subst zb
    go_enter Try.func17, Try.ntmps17
    go_wp2
    go_ret2
    exact ⟨rfl, rfl⟩
  · have gb : (b == 0) = false := by simp [zb]
    have hv : dv a b = val (a.tdiv b) := by simp [dv, zb]
    have hc : de a b = err (a.tdiv b) := by simp [de, zb]
    rw [hv, hc]
    by_cases mb : b = -1
    · subst mb
      rw [Int.tdiv_neg, Int.tdiv_one]
      have hN := Neg_any a a0 a1
      clear hv hc
      go_enter Try.func17, Try.ntmps17
      go_wp2_with (go_at_call 15; refine (hN _).mono ?_; rintro e w' ⟨rfl, rfl⟩)
      go_ret2
      exact ⟨rfl, rfl⟩
    · have gm : (b == -1) = false := by simp [mb]
      have fit := tdiv_fits a b a0 a1 mb
      have hw : wrap64 (a.tdiv b) = a.tdiv b := IntWalk.wrap64_in _ fit
      have hv2 : val (a.tdiv b) = a.tdiv b := by simp only [val]; omega
      have hc2 : err (a.tdiv b) = 0 := by simp only [err]; omega
      rw [hv2, hc2]
      clear hv hc hv2 hc2
      go_enter Try.func17, Try.ntmps17
      go_wp2
      go_ret2
      exact ⟨rfl, rfl⟩

/-- Mod's value and its error -/
def mv (a b : Int) : Int := if b = 0 then 0 else a.tmod b

def me (b : Int) : Int := if b = 0 then 11 else 0

theorem Mod_any (a b : Int) (b0 : -9223372036854775808 ≤ b) (b1 : b ≤ 9223372036854775807) (w : World) :
    Calls Try.prog 19 #[.int .i64 a, .int .i64 b] w fun e w' => e = .returned (.tuple #[.int .i64 (mv a b), .int .i64 (me b)]) ∧ w = w' := by
  by_cases zb : b = 0
  · subst zb
    go_enter Try.func19, Try.ntmps19
    go_wp2
    go_ret2
    exact ⟨rfl, rfl⟩
  · have gb : (b == 0) = false := by simp [zb]
    have hv : mv a b = a.tmod b := by simp [mv, zb]
    have hc : me b = 0 := by simp [me, zb]
    rw [hv, hc]
    have fit := tmod_fits a b b0 b1 zb
    have hw : wrap64 (a.tmod b) = a.tmod b := IntWalk.wrap64_in _ fit
    clear hv hc
    go_enter Try.func19, Try.ntmps19
    go_wp2
    go_ret2
    exact ⟨rfl, rfl⟩
end Go.Proofs.Ytbdliggncindkaa
