/- The product, the quotient and the rest: what package num and the document's answer come to at all whole numbers of 64 bits. -/
import Derived.Test.YtbdliggncindkaaNumCalls
import Derived.Deep.RegionWith
namespace Go.Proofs.Ytbdliggncindkaa
open Go.ChangeShapes Go.WideShapes Go.ChangeAt Go.RowKit

theorem u64_two_eq {v v' e e' : Int} (h : v = v') (h' : e = e') : Ending.returned (.tuple #[.int .u64 v, .int .u64 e]) = .returned (.tuple #[.int .u64 v', .int .u64 e']) := by
  subst h h'; rfl

theorem Mul64_any (x y : Int) (x0 : 0 ≤ x) (x1 : x ≤ 18446744073709551615) (y0 : 0 ≤ y) (y1 : y ≤ 18446744073709551615) (w : World) :
    Calls Try.prog 25 #[.int .u64 x, .int .u64 y] w fun e w' => e = .returned (.tuple #[.int .u64 (x * y / 18446744073709551616), .int .u64 (x * y % 18446744073709551616)]) ∧ w = w' := by
  go_enter Try.func25, Try.ntmps25
  go_wp2
  go_ret2
  refine ⟨u64_two_eq ?_ ?_, rfl⟩
  · exact mul_hi x y x0 x1 y0 y1
  · exact IntKind.wrap_u64 _

theorem answer_true (n : Int) (w : World) :
    Calls Try.prog 21 #[.int .i64 n, .bool true] w fun e w' => e = .returned (.tuple #[.int .i64 n, .int .i64 0]) ∧ w = w' :=
  answer_any n true n 0 (by simp) (by simp) w
theorem answer_false (n : Int) (w : World) :
    Calls Try.prog 21 #[.int .i64 n, .bool false] w fun e w' => e = .returned (.tuple #[.int .i64 0, .int .i64 10]) ∧ w = w' :=
  answer_any n false 0 10 (by simp) (by simp) w

/-- the product where neither is 0: the tests' answers (sa, sb: the signs; sn: the wrapped product's; q: it divides back) are given ahead -/
theorem Mul_core (a b : Int) (za : a ≠ 0) (zb : b ≠ 0) (sa sb sn q : Bool) (da : decide (a < 0) = sa) (db : decide (b < 0) = sb)
    (dn : decide (wrap64 (a * b) < 0) = sn) (dq : (wrap64 ((wrap64 (a * b)).tdiv b) == a) = q) (w : World) :
    Calls Try.prog 13 #[.int .i64 a, .int .i64 b] w fun e w' => e = .returned (.tuple #[.int .i64 (if (sn == (sa != sb)) && q then wrap64 (a * b) else 0), .int .i64 (if (sn == (sa != sb)) && q then 0 else 10)]) ∧ w = w' := by
  have ga : (a == 0) = false := by simp [za]
  have gb : (b == 0) = false := by simp [zb]
  cases sa <;> cases sb <;> cases sn <;> cases q
  all_goals
    go_enter Try.func13, Try.ntmps13
    go_wp2_with (first
      | (go_at_call_of 21 (Value.bool true); refine (answer_true _ _).mono ?_; rintro e w' ⟨rfl, rfl⟩)
      | (go_at_call_of 21 (Value.bool false); refine (answer_false _ _).mono ?_; rintro e w' ⟨rfl, rfl⟩))
    go_ret2
    exact ⟨rfl, rfl⟩

theorem Mul_any (a b : Int) (a0 : -9223372036854775808 ≤ a) (a1 : a ≤ 9223372036854775807) (b0 : -9223372036854775808 ≤ b) (b1 : b ≤ 9223372036854775807) (w : World) :
    Calls Try.prog 13 #[.int .i64 a, .int .i64 b] w fun e w' => e = .returned (.tuple #[.int .i64 (val (a * b)), .int .i64 (err (a * b))]) ∧ w = w' := by
  by_cases za : a = 0
  · subst za
    rw [Int.zero_mul]
    go_enter Try.func13, Try.ntmps13
    go_wp2
    go_ret2
    exact ⟨rfl, rfl⟩
  · by_cases zb : b = 0
    · have ga : (a == 0) = false := by simp [za]
      subst zb
      rw [Int.mul_zero]
      go_enter Try.func13, Try.ntmps13
      go_wp2
      go_ret2
      exact ⟨rfl, rfl⟩
    · have hm := Mul_core a b za zb _ _ _ _ rfl rfl rfl rfl w
      by_cases fit : -9223372036854775808 ≤ a * b ∧ a * b ≤ 9223372036854775807
      · have hv : val (a * b) = a * b := by simp only [val]; omega
        have hc : err (a * b) = 0 := by simp only [err]; omega
        have hw : wrap64 (a * b) = a * b := IntWalk.wrap64_in _ fit
        have hq : (a * b).tdiv b = a := Int.mul_tdiv_cancel a zb
        have hw2 : wrap64 a = a := IntWalk.wrap64_in _ ⟨a0, a1⟩
        have hs := sign_mul a b za zb
        rw [hw, hq, hw2, hs] at hm
        rw [hv, hc]
        simpa using hm
      · have hv : val (a * b) = 0 := by simp only [val]; omega
        have hc : err (a * b) = 10 := by simp only [err]; omega
        rw [hv, hc]
        by_cases hs : (decide (wrap64 (a * b) < 0) == (decide (a < 0) != decide (b < 0))) = true
        · rw [mul_over a b a0 a1 b0 b1 zb fit hs, Bool.and_false] at hm
          simpa using hm
        · rw [Bool.not_eq_true] at hs
          rw [hs, Bool.false_and] at hm
          simpa using hm

theorem Times2_any (a b : Int) (a0 : -9223372036854775808 ≤ a) (a1 : a ≤ 9223372036854775807) (b0 : -9223372036854775808 ≤ b) (b1 : b ≤ 9223372036854775807) (w : World) :
    Calls Try.prog 14 #[.int .i64 a, .int .i64 b] w fun e w' => e = .returned (.tuple #[.int .i64 (val (a * b)), .int .i64 (err (a * b))]) ∧ w = w' := by
  have ma := mag_nonneg a
  have mb := mag_nonneg b
  have la := mag_le a a0 a1
  have lb := mag_le b b0 b1
  have hp : sg (mag a * mag b) (decide (a < 0) != decide (b < 0)) = a * b := by
    by_cases ca : a < 0 <;> by_cases cb : b < 0 <;> simp [sg, mag, ca, cb, Int.neg_mul, Int.mul_neg]
  have hpn : 0 ≤ mag a * mag b := Int.mul_nonneg ma mb
  have h64 := Mul64_any (mag a) (mag b) ma (by omega) mb (by omega)
  by_cases big : mag a * mag b / 18446744073709551616 = 0
  · have hl : mag a * mag b % 18446744073709551616 = mag a * mag b := by omega
    have hsg := signed_any (mag a * mag b) (decide (a < 0) != decide (b < 0)) hpn (by omega)
    rw [hp] at hsg
    rw [big, hl] at h64
    clear hp hl big hpn
    generalize mag a * mag b = P at hsg h64
    go_enter Try.func14, Try.ntmps14
    go_wp2_with (first
      | (go_at_call 23; refine (size_any _ ?_ ?_ _).mono ?_; assumption; assumption; rintro e w' ⟨rfl, rfl⟩)
      | (go_at_call 25; refine (h64 _).mono ?_; rintro e w' ⟨rfl, rfl⟩)
      | (go_at_call 24; refine (hsg _).mono ?_; rintro e w' ⟨rfl, rfl⟩))
    go_ret2
    exact ⟨rfl, rfl⟩
  · have hz : (mag a * mag b / 18446744073709551616 == 0) = false := by simpa using big
    have hv : val (a * b) = 0 := by
      rw [← hp]; simp only [val, sg]
      generalize mag a * mag b = P at *
      cases (decide (a < 0) != decide (b < 0)) <;> simp <;> omega
    have hc : err (a * b) = 10 := by
      rw [← hp]; simp only [err, sg]
      generalize mag a * mag b = P at *
      cases (decide (a < 0) != decide (b < 0)) <;> simp <;> omega
    rw [hv, hc]
    clear hp hv hc
    generalize mag a * mag b / 18446744073709551616 = H at *
    generalize mag a * mag b % 18446744073709551616 = L at *
    go_enter Try.func14, Try.ntmps14
    go_wp2_with (first
      | (go_at_call 23; refine (size_any _ ?_ ?_ _).mono ?_; assumption; assumption; rintro e w' ⟨rfl, rfl⟩)
      | (go_at_call 25; refine (h64 _).mono ?_; rintro e w' ⟨rfl, rfl⟩))
    go_ret2
    exact ⟨rfl, rfl⟩

/-- Div's value: 0 where b is 0 -/
def dv (a b : Int) : Int := if b = 0 then 0 else val (a.tdiv b)
/-- Div's error: 11 (ErrZero) where b is 0 -/
def de (a b : Int) : Int := if b = 0 then 11 else err (a.tdiv b)

theorem Div_any (a b : Int) (a0 : -9223372036854775808 ≤ a) (a1 : a ≤ 9223372036854775807) (w : World) :
    Calls Try.prog 17 #[.int .i64 a, .int .i64 b] w fun e w' => e = .returned (.tuple #[.int .i64 (dv a b), .int .i64 (de a b)]) ∧ w = w' := by
  by_cases zb : b = 0
  · subst zb
    go_enter Try.func17, Try.ntmps17
    go_wp2
    go_ret2
    exact ⟨rfl, rfl⟩
  · have gb : (b == 0) = false := by simp [zb]
    have hv : dv a b = val (a.tdiv b) := by simp [dv, zb]
    have hc : de a b = err (a.tdiv b) := by simp [de, zb]
    rw [hv, hc]
    by_cases mb : b = -1
    · subst mb
      rw [Int.tdiv_neg, Int.tdiv_one]
      have hN := Neg_any a a0 a1
      clear hv hc
      go_enter Try.func17, Try.ntmps17
      go_wp2_with (go_at_call 15; refine (hN _).mono ?_; rintro e w' ⟨rfl, rfl⟩)
      go_ret2
      exact ⟨rfl, rfl⟩
    · have gm : (b == -1) = false := by simp [mb]
      have fit := tdiv_fits a b a0 a1 mb
      have hw : wrap64 (a.tdiv b) = a.tdiv b := IntWalk.wrap64_in _ fit
      have hv2 : val (a.tdiv b) = a.tdiv b := by simp only [val]; omega
      have hc2 : err (a.tdiv b) = 0 := by simp only [err]; omega
      rw [hv2, hc2]
      clear hv hc hv2 hc2
      go_enter Try.func17, Try.ntmps17
      go_wp2
      go_ret2
      exact ⟨rfl, rfl⟩

theorem Quotient_any (a b : Int) (a0 : -9223372036854775808 ≤ a) (a1 : a ≤ 9223372036854775807) (b0 : -9223372036854775808 ≤ b) (b1 : b ≤ 9223372036854775807) (w : World) :
    Calls Try.prog 18 #[.int .i64 a, .int .i64 b] w fun e w' => e = .returned (.tuple #[.int .i64 (dv a b), .int .i64 (de a b)]) ∧ w = w' := by
  by_cases zb : b = 0
  · subst zb
    go_enter Try.func18, Try.ntmps18
    go_wp2
    go_ret2
    exact ⟨rfl, rfl⟩
  · have gb : (b == 0) = false := by simp [zb]
    have hv : dv a b = val (a.tdiv b) := by simp [dv, zb]
    have hc : de a b = err (a.tdiv b) := by simp [de, zb]
    rw [hv, hc]
    have ma := mag_nonneg a
    have la := mag_le a a0 a1
    have mb : 1 ≤ mag b := by simp only [mag]; omega
    have lb := mag_le b b0 b1
    have q0 : 0 ≤ mag a / mag b := Int.ediv_nonneg ma (by omega)
    have q1 : mag a / mag b ≤ mag a := Int.ediv_le_self _ ma
    have hsg := signed_any (mag a / mag b) (decide (a < 0) != decide (b < 0)) q0 (by omega)
    rw [sg_tdiv a b] at hsg
    clear hv hc
    go_enter Try.func18, Try.ntmps18
    go_wp2_with (first
      | (go_at_call 23; refine (size_any _ ?_ ?_ _).mono ?_; assumption; assumption; rintro e w' ⟨rfl, rfl⟩)
      | (go_at_call 24; refine (hsg _).mono ?_; rintro e w' ⟨rfl, rfl⟩))
    go_ret2
    exact ⟨rfl, rfl⟩

/-- Mod's value and its error -/
def mv (a b : Int) : Int := if b = 0 then 0 else a.tmod b
def me (b : Int) : Int := if b = 0 then 11 else 0

theorem Mod_any (a b : Int) (b0 : -9223372036854775808 ≤ b) (b1 : b ≤ 9223372036854775807) (w : World) :
    Calls Try.prog 19 #[.int .i64 a, .int .i64 b] w fun e w' => e = .returned (.tuple #[.int .i64 (mv a b), .int .i64 (me b)]) ∧ w = w' := by
  by_cases zb : b = 0
  · subst zb
    go_enter Try.func19, Try.ntmps19
    go_wp2
    go_ret2
    exact ⟨rfl, rfl⟩
  · have gb : (b == 0) = false := by simp [zb]
    have hv : mv a b = a.tmod b := by simp [mv, zb]
    have hc : me b = 0 := by simp [me, zb]
    rw [hv, hc]
    have fit := tmod_fits a b b0 b1 zb
    have hw : wrap64 (a.tmod b) = a.tmod b := IntWalk.wrap64_in _ fit
    clear hv hc
    go_enter Try.func19, Try.ntmps19
    go_wp2
    go_ret2
    exact ⟨rfl, rfl⟩

theorem RestOf_any (a b : Int) (a0 : -9223372036854775808 ≤ a) (a1 : a ≤ 9223372036854775807) (b0 : -9223372036854775808 ≤ b) (b1 : b ≤ 9223372036854775807) (w : World) :
    Calls Try.prog 20 #[.int .i64 a, .int .i64 b] w fun e w' => e = .returned (.tuple #[.int .i64 (mv a b), .int .i64 (me b)]) ∧ w = w' := by
  by_cases zb : b = 0
  · subst zb
    go_enter Try.func20, Try.ntmps20
    go_wp2
    go_ret2
    exact ⟨rfl, rfl⟩
  · have gb : (b == 0) = false := by simp [zb]
    have hv : mv a b = a.tmod b := by simp [mv, zb]
    have hc : me b = 0 := by simp [me, zb]
    rw [hv, hc]
    have ma := mag_nonneg a
    have la := mag_le a a0 a1
    have mb : 1 ≤ mag b := by simp only [mag]; omega
    have lb := mag_le b b0 b1
    have q0 : 0 ≤ mag a % mag b := Int.emod_nonneg _ (by omega)
    have q1 : mag a % mag b < mag b := Int.emod_lt_of_pos _ (by omega)
    have hsg := signed_any (mag a % mag b) (decide (a < 0)) q0 (by omega)
    have fit := tmod_fits a b b0 b1 zb
    have hv2 : val (a.tmod b) = a.tmod b := by simp only [val]; omega
    have hc2 : err (a.tmod b) = 0 := by simp only [err]; omega
    rw [sg_tmod a b, hv2, hc2] at hsg
    clear hv hc hv2 hc2
    go_enter Try.func20, Try.ntmps20
    go_wp2_with (first
      | (go_at_call 23; refine (size_any _ ?_ ?_ _).mono ?_; assumption; assumption; rintro e w' ⟨rfl, rfl⟩)
      | (go_at_call 24; refine (hsg _).mono ?_; rintro e w' ⟨rfl, rfl⟩))
    go_ret2
    exact ⟨rfl, rfl⟩
end Go.Proofs.Ytbdliggncindkaa
