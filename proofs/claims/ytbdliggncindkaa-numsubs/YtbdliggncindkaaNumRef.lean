/- What each function of the document's answer to package num comes to at every whole number of 64 bits, in plain whole numbers. -/
import Derived.Test.YtbdliggncindkaaNumOwn
import Derived.WalkKit
import Derived.ProofKit
import Derived.OpenShut
import Derived.Deep.RegionWith
namespace Go.Proofs.Ytbdliggncindkaa
open Go.ChangeShapes Go.WideShapes Go.ChangeAt Go.RowKit

theorem size_any (a : Int) (h0 : -9223372036854775808 ≤ a) (h1 : a ≤ 9223372036854775807) (w : World) :
    Calls Try.prog 23 #[.int .i64 a] w fun e w' => e = .returned (.int .u64 (mag a)) ∧ w = w' := by
  by_cases c : a < 0
  · go_enter Try.func23, Try.ntmps23
    go_wp2
    go_ret
    refine ⟨congrArg (fun z => Ending.returned (Value.int IntKind.u64 z)) (?_ : IntKind.u64.wrap (-IntKind.u64.wrap a) = mag a), rfl⟩
    simp only [IntKind.wrap_u64, mag]
    omega
  · go_enter Try.func23, Try.ntmps23
    go_wp2
    go_ret
    refine ⟨congrArg (fun z => Ending.returned (Value.int IntKind.u64 z)) (?_ : a = mag a), rfl⟩
    simp only [mag]
    omega

theorem signed_any (m : Int) (below : Bool) (h0 : 0 ≤ m) (h1 : m ≤ 18446744073709551615) (w : World) :
    Calls Try.prog 24 #[.int .u64 m, .bool below] w fun e w' => e = .returned (.tuple #[.int .i64 (val (sg m below)), .int .i64 (err (sg m below))]) ∧ w = w' := by
  cases below
  · by_cases c : 9223372036854775808 ≤ m
    · go_enter Try.func24, Try.ntmps24
      go_wp2
      go_ret2
      refine ⟨two_eq ?_ ?_, rfl⟩ <;> (simp only [val, err, sg]; first | omega | (simp; done) | (simp; omega))
    · go_enter Try.func24, Try.ntmps24
      go_wp2
      go_ret2
      refine ⟨two_eq ?_ ?_, rfl⟩ <;> (simp only [val, err, sg]; first | omega | (simp; done) | (simp; omega))
  · by_cases c : 9223372036854775808 < m
    · go_enter Try.func24, Try.ntmps24
      go_wp2
      go_ret2
      refine ⟨two_eq ?_ ?_, rfl⟩ <;> (simp only [val, err, sg]; first | omega | (simp; done) | (simp; omega))
    · go_enter Try.func24, Try.ntmps24
      go_wp2
      go_ret2
      refine ⟨two_eq ?_ ?_, rfl⟩ <;> (simp only [val, err, sg, IntKind.wrap_u64, wrap64]; first | omega | (simp; done) | (simp; omega))

theorem Sum2_nn (a b : Int) (a0 : -9223372036854775808 ≤ a) (a1 : a ≤ 9223372036854775807) (b0 : -9223372036854775808 ≤ b) (b1 : b ≤ 9223372036854775807) (ca : a < 0) (cb : b < 0) (w : World) :
    Calls Try.prog 10 #[.int .i64 a, .int .i64 b] w fun e w' => e = .returned (.tuple #[.int .i64 (val (a + b)), .int .i64 (err (a + b))]) ∧ w = w' := by
    have ha : mag a = -a := by simp only [mag]; omega
    have da : decide (a < 0) = true := by simp; omega
    have hb : mag b = -b := by simp only [mag]; omega
    have db : decide (b < 0) = true := by simp; omega
    by_cases cc : -a + -b ≤ 18446744073709551615
    · go_enter Try.func10, Try.ntmps10
      go_wp2_with (first
        | (go_at_call 23; refine (size_any _ ?_ ?_ _).mono ?_; assumption; assumption; rintro e w' ⟨rfl, rfl⟩)
        | (go_at_call 24; refine (signed_any _ _ ?_ ?_ _).mono ?_; omega; omega; rintro e w' ⟨rfl, rfl⟩))
      go_ret2
      refine ⟨two_eq ?_ ?_, rfl⟩ <;> (simp only [val, err, sg]; first | omega | (simp; done) | (simp; omega))
    · have hw : IntKind.u64.wrap (-a + -b) = 0 := by simp only [IntKind.wrap_u64]; omega
      go_enter Try.func10, Try.ntmps10
      go_wp2_with (first
        | (go_at_call 23; refine (size_any _ ?_ ?_ _).mono ?_; assumption; assumption; rintro e w' ⟨rfl, rfl⟩)
        | (go_at_call 24; refine (signed_any _ _ ?_ ?_ _).mono ?_; omega; omega; rintro e w' ⟨rfl, rfl⟩))
      go_ret2
      refine ⟨two_eq ?_ ?_, rfl⟩ <;> (simp only [val, err]; first | omega | (simp; done) | (simp; omega))

theorem Sum2_np (a b : Int) (a0 : -9223372036854775808 ≤ a) (a1 : a ≤ 9223372036854775807) (b0 : -9223372036854775808 ≤ b) (b1 : b ≤ 9223372036854775807) (ca : a < 0) (cb : 0 ≤ b) (w : World) :
    Calls Try.prog 10 #[.int .i64 a, .int .i64 b] w fun e w' => e = .returned (.tuple #[.int .i64 (val (a + b)), .int .i64 (err (a + b))]) ∧ w = w' := by
    have ha : mag a = -a := by simp only [mag]; omega
    have da : decide (a < 0) = true := by simp; omega
    have hb : mag b = b := by simp only [mag]; omega
    have db : decide (b < 0) = false := by simp; omega
    by_cases cc : b ≤ -a
    · go_enter Try.func10, Try.ntmps10
      go_wp2_with (first
        | (go_at_call 23; refine (size_any _ ?_ ?_ _).mono ?_; assumption; assumption; rintro e w' ⟨rfl, rfl⟩)
        | (go_at_call 24; refine (signed_any _ _ ?_ ?_ _).mono ?_; omega; omega; rintro e w' ⟨rfl, rfl⟩))
      go_ret2
      refine ⟨two_eq ?_ ?_, rfl⟩ <;> (simp only [val, err, sg]; first | omega | (simp; done) | (simp; omega))
    · go_enter Try.func10, Try.ntmps10
      go_wp2_with (first
        | (go_at_call 23; refine (size_any _ ?_ ?_ _).mono ?_; assumption; assumption; rintro e w' ⟨rfl, rfl⟩)
        | (go_at_call 24; refine (signed_any _ _ ?_ ?_ _).mono ?_; omega; omega; rintro e w' ⟨rfl, rfl⟩))
      go_ret2
      refine ⟨two_eq ?_ ?_, rfl⟩ <;> (simp only [val, err, sg]; first | omega | (simp; done) | (simp; omega))

theorem Sum2_pn (a b : Int) (a0 : -9223372036854775808 ≤ a) (a1 : a ≤ 9223372036854775807) (b0 : -9223372036854775808 ≤ b) (b1 : b ≤ 9223372036854775807) (ca : 0 ≤ a) (cb : b < 0) (w : World) :
    Calls Try.prog 10 #[.int .i64 a, .int .i64 b] w fun e w' => e = .returned (.tuple #[.int .i64 (val (a + b)), .int .i64 (err (a + b))]) ∧ w = w' := by
    have ha : mag a = a := by simp only [mag]; omega
    have da : decide (a < 0) = false := by simp; omega
    have hb : mag b = -b := by simp only [mag]; omega
    have db : decide (b < 0) = true := by simp; omega
    by_cases cc : -b ≤ a
    · go_enter Try.func10, Try.ntmps10
      go_wp2_with (first
        | (go_at_call 23; refine (size_any _ ?_ ?_ _).mono ?_; assumption; assumption; rintro e w' ⟨rfl, rfl⟩)
        | (go_at_call 24; refine (signed_any _ _ ?_ ?_ _).mono ?_; omega; omega; rintro e w' ⟨rfl, rfl⟩))
      go_ret2
      refine ⟨two_eq ?_ ?_, rfl⟩ <;> (simp only [val, err, sg]; first | omega | (simp; done) | (simp; omega))
    · go_enter Try.func10, Try.ntmps10
      go_wp2_with (first
        | (go_at_call 23; refine (size_any _ ?_ ?_ _).mono ?_; assumption; assumption; rintro e w' ⟨rfl, rfl⟩)
        | (go_at_call 24; refine (signed_any _ _ ?_ ?_ _).mono ?_; omega; omega; rintro e w' ⟨rfl, rfl⟩))
      go_ret2
      refine ⟨two_eq ?_ ?_, rfl⟩ <;> (simp only [val, err, sg]; first | omega | (simp; done) | (simp; omega))

theorem Sum2_pp (a b : Int) (a0 : -9223372036854775808 ≤ a) (a1 : a ≤ 9223372036854775807) (b0 : -9223372036854775808 ≤ b) (b1 : b ≤ 9223372036854775807) (ca : 0 ≤ a) (cb : 0 ≤ b) (w : World) :
    Calls Try.prog 10 #[.int .i64 a, .int .i64 b] w fun e w' => e = .returned (.tuple #[.int .i64 (val (a + b)), .int .i64 (err (a + b))]) ∧ w = w' := by
    have ha : mag a = a := by simp only [mag]; omega
    have da : decide (a < 0) = false := by simp; omega
    have hb : mag b = b := by simp only [mag]; omega
    have db : decide (b < 0) = false := by simp; omega
    by_cases cc : a + b ≤ 18446744073709551615
    · go_enter Try.func10, Try.ntmps10
      go_wp2_with (first
        | (go_at_call 23; refine (size_any _ ?_ ?_ _).mono ?_; assumption; assumption; rintro e w' ⟨rfl, rfl⟩)
        | (go_at_call 24; refine (signed_any _ _ ?_ ?_ _).mono ?_; omega; omega; rintro e w' ⟨rfl, rfl⟩))
      go_ret2
      refine ⟨two_eq ?_ ?_, rfl⟩ <;> (simp only [val, err, sg]; first | omega | (simp; done) | (simp; omega))
    · omega

theorem Sum2_any (a b : Int) (a0 : -9223372036854775808 ≤ a) (a1 : a ≤ 9223372036854775807) (b0 : -9223372036854775808 ≤ b) (b1 : b ≤ 9223372036854775807) (w : World) :
    Calls Try.prog 10 #[.int .i64 a, .int .i64 b] w fun e w' => e = .returned (.tuple #[.int .i64 (val (a + b)), .int .i64 (err (a + b))]) ∧ w = w' := by
  by_cases ca : a < 0
  · by_cases cb : b < 0
    · exact Sum2_nn a b a0 a1 b0 b1 ca cb w
    · exact Sum2_np a b a0 a1 b0 b1 ca (by omega) w
  · by_cases cb : b < 0
    · exact Sum2_pn a b a0 a1 b0 b1 (by omega) cb w
    · exact Sum2_pp a b a0 a1 b0 b1 (by omega) (by omega) w

theorem Minus2_nn (a b : Int) (a0 : -9223372036854775808 ≤ a) (a1 : a ≤ 9223372036854775807) (b0 : -9223372036854775808 ≤ b) (b1 : b ≤ 9223372036854775807) (ca : a < 0) (cb : b < 0) (w : World) :
    Calls Try.prog 12 #[.int .i64 a, .int .i64 b] w fun e w' => e = .returned (.tuple #[.int .i64 (val (a - b)), .int .i64 (err (a - b))]) ∧ w = w' := by
    have ha : mag a = -a := by simp only [mag]; omega
    have da : decide (a < 0) = true := by simp; omega
    have hb : mag b = -b := by simp only [mag]; omega
    have db : decide (b < 0) = true := by simp; omega
    by_cases cc : -b ≤ -a
    · go_enter Try.func12, Try.ntmps12
      go_wp2_with (first
        | (go_at_call 23; refine (size_any _ ?_ ?_ _).mono ?_; assumption; assumption; rintro e w' ⟨rfl, rfl⟩)
        | (go_at_call 24; refine (signed_any _ _ ?_ ?_ _).mono ?_; omega; omega; rintro e w' ⟨rfl, rfl⟩))
      go_ret2
      refine ⟨two_eq ?_ ?_, rfl⟩ <;> (simp only [val, err, sg]; first | omega | (simp; done) | (simp; omega))
    · go_enter Try.func12, Try.ntmps12
      go_wp2_with (first
        | (go_at_call 23; refine (size_any _ ?_ ?_ _).mono ?_; assumption; assumption; rintro e w' ⟨rfl, rfl⟩)
        | (go_at_call 24; refine (signed_any _ _ ?_ ?_ _).mono ?_; omega; omega; rintro e w' ⟨rfl, rfl⟩))
      go_ret2
      refine ⟨two_eq ?_ ?_, rfl⟩ <;> (simp only [val, err, sg]; first | omega | (simp; done) | (simp; omega))

theorem Minus2_np (a b : Int) (a0 : -9223372036854775808 ≤ a) (a1 : a ≤ 9223372036854775807) (b0 : -9223372036854775808 ≤ b) (b1 : b ≤ 9223372036854775807) (ca : a < 0) (cb : 0 ≤ b) (w : World) :
    Calls Try.prog 12 #[.int .i64 a, .int .i64 b] w fun e w' => e = .returned (.tuple #[.int .i64 (val (a - b)), .int .i64 (err (a - b))]) ∧ w = w' := by
    have ha : mag a = -a := by simp only [mag]; omega
    have da : decide (a < 0) = true := by simp; omega
    have hb : mag b = b := by simp only [mag]; omega
    have db : decide (b < 0) = false := by simp; omega
    by_cases cc : -a + b ≤ 18446744073709551615
    · go_enter Try.func12, Try.ntmps12
      go_wp2_with (first
        | (go_at_call 23; refine (size_any _ ?_ ?_ _).mono ?_; assumption; assumption; rintro e w' ⟨rfl, rfl⟩)
        | (go_at_call 24; refine (signed_any _ _ ?_ ?_ _).mono ?_; omega; omega; rintro e w' ⟨rfl, rfl⟩))
      go_ret2
      refine ⟨two_eq ?_ ?_, rfl⟩ <;> (simp only [val, err, sg]; first | omega | (simp; done) | (simp; omega))
    · omega

theorem Minus2_pn (a b : Int) (a0 : -9223372036854775808 ≤ a) (a1 : a ≤ 9223372036854775807) (b0 : -9223372036854775808 ≤ b) (b1 : b ≤ 9223372036854775807) (ca : 0 ≤ a) (cb : b < 0) (w : World) :
    Calls Try.prog 12 #[.int .i64 a, .int .i64 b] w fun e w' => e = .returned (.tuple #[.int .i64 (val (a - b)), .int .i64 (err (a - b))]) ∧ w = w' := by
    have ha : mag a = a := by simp only [mag]; omega
    have da : decide (a < 0) = false := by simp; omega
    have hb : mag b = -b := by simp only [mag]; omega
    have db : decide (b < 0) = true := by simp; omega
    by_cases cc : a + -b ≤ 18446744073709551615
    · go_enter Try.func12, Try.ntmps12
      go_wp2_with (first
        | (go_at_call 23; refine (size_any _ ?_ ?_ _).mono ?_; assumption; assumption; rintro e w' ⟨rfl, rfl⟩)
        | (go_at_call 24; refine (signed_any _ _ ?_ ?_ _).mono ?_; omega; omega; rintro e w' ⟨rfl, rfl⟩))
      go_ret2
      refine ⟨two_eq ?_ ?_, rfl⟩ <;> (simp only [val, err, sg]; first | omega | (simp; done) | (simp; omega))
    · omega

theorem Minus2_pp (a b : Int) (a0 : -9223372036854775808 ≤ a) (a1 : a ≤ 9223372036854775807) (b0 : -9223372036854775808 ≤ b) (b1 : b ≤ 9223372036854775807) (ca : 0 ≤ a) (cb : 0 ≤ b) (w : World) :
    Calls Try.prog 12 #[.int .i64 a, .int .i64 b] w fun e w' => e = .returned (.tuple #[.int .i64 (val (a - b)), .int .i64 (err (a - b))]) ∧ w = w' := by
    have ha : mag a = a := by simp only [mag]; omega
    have da : decide (a < 0) = false := by simp; omega
    have hb : mag b = b := by simp only [mag]; omega
    have db : decide (b < 0) = false := by simp; omega
    by_cases cc : b ≤ a
    · go_enter Try.func12, Try.ntmps12
      go_wp2_with (first
        | (go_at_call 23; refine (size_any _ ?_ ?_ _).mono ?_; assumption; assumption; rintro e w' ⟨rfl, rfl⟩)
        | (go_at_call 24; refine (signed_any _ _ ?_ ?_ _).mono ?_; omega; omega; rintro e w' ⟨rfl, rfl⟩))
      go_ret2
      refine ⟨two_eq ?_ ?_, rfl⟩ <;> (simp only [val, err, sg]; first | omega | (simp; done) | (simp; omega))
    · go_enter Try.func12, Try.ntmps12
      go_wp2_with (first
        | (go_at_call 23; refine (size_any _ ?_ ?_ _).mono ?_; assumption; assumption; rintro e w' ⟨rfl, rfl⟩)
        | (go_at_call 24; refine (signed_any _ _ ?_ ?_ _).mono ?_; omega; omega; rintro e w' ⟨rfl, rfl⟩))
      go_ret2
      refine ⟨two_eq ?_ ?_, rfl⟩ <;> (simp only [val, err, sg]; first | omega | (simp; done) | (simp; omega))

theorem Minus2_any (a b : Int) (a0 : -9223372036854775808 ≤ a) (a1 : a ≤ 9223372036854775807) (b0 : -9223372036854775808 ≤ b) (b1 : b ≤ 9223372036854775807) (w : World) :
    Calls Try.prog 12 #[.int .i64 a, .int .i64 b] w fun e w' => e = .returned (.tuple #[.int .i64 (val (a - b)), .int .i64 (err (a - b))]) ∧ w = w' := by
  by_cases ca : a < 0
  · by_cases cb : b < 0
    · exact Minus2_nn a b a0 a1 b0 b1 ca cb w
    · exact Minus2_np a b a0 a1 b0 b1 ca (by omega) w
  · by_cases cb : b < 0
    · exact Minus2_pn a b a0 a1 b0 b1 (by omega) cb w
    · exact Minus2_pp a b a0 a1 b0 b1 (by omega) (by omega) w

theorem Minus1_any (a : Int) (a0 : -9223372036854775808 ≤ a) (a1 : a ≤ 9223372036854775807) (w : World) :
    Calls Try.prog 16 #[.int .i64 a] w fun e w' => e = .returned (.tuple #[.int .i64 (val (-a)), .int .i64 (err (-a))]) ∧ w = w' := by
  have h0 : 0 ≤ mag a := by simp only [mag]; omega
  have h1 : mag a ≤ 18446744073709551615 := by simp only [mag]; omega
  have e1 : sg (mag a) (decide (0 < a)) = -a := by simp only [sg, mag, decide_eq_true_eq]; omega
  have h := signed_any (mag a) (decide (0 < a)) h0 h1
  rw [e1] at h
  clear e1
  go_enter Try.func16, Try.ntmps16
  go_wp2_with (first
    | (go_at_call 23; refine (size_any _ ?_ ?_ _).mono ?_; assumption; assumption; rintro e w' ⟨rfl, rfl⟩)
    | (go_at_call 24; refine (h _).mono ?_; rintro e w' ⟨rfl, rfl⟩))
  go_ret2
  exact ⟨rfl, rfl⟩

theorem u64_two_eq {v v' e e' : Int} (h : v = v') (h' : e = e') : Ending.returned (.tuple #[.int .u64 v, .int .u64 e]) = .returned (.tuple #[.int .u64 v', .int .u64 e']) := by
  subst h h'; rfl

theorem Mul64_any (x y : Int) (x0 : 0 ≤ x) (x1 : x ≤ 18446744073709551615) (y0 : 0 ≤ y) (y1 : y ≤ 18446744073709551615) (w : World) :
    Calls Try.prog 25 #[.int .u64 x, .int .u64 y] w fun e w' => e = .returned (.tuple #[.int .u64 (x * y / 18446744073709551616), .int .u64 (x * y % 18446744073709551616)]) ∧ w = w' := by
  go_enter Try.func25, Try.ntmps25
  go_wp2
  go_ret2
  refine ⟨u64_two_eq ?_ ?_, rfl⟩
  · exact mul_hi x y x0 x1 y0 y1
  · exact IntKind.wrap_u64 _

theorem Times2_any (a b : Int) (a0 : -9223372036854775808 ≤ a) (a1 : a ≤ 9223372036854775807) (b0 : -9223372036854775808 ≤ b) (b1 : b ≤ 9223372036854775807) (w : World) :
    Calls Try.prog 14 #[.int .i64 a, .int .i64 b] w fun e w' => e = .returned (.tuple #[.int .i64 (val (a * b)), .int .i64 (err (a * b))]) ∧ w = w' := by
  have ma := mag_nonneg a
  have mb := mag_nonneg b
  have la := mag_le a a0 a1
  have lb := mag_le b b0 b1
  have hp : sg (mag a * mag b) (decide (a < 0) != decide (b < 0)) = a * b := by
    by_cases ca : a < 0 <;> by_cases cb : b < 0 <;> simp [sg, mag, ca, cb, Int.neg_mul, Int.mul_neg]
  have hpn : 0 ≤ mag a * mag b := Int.mul_nonneg ma mb
  have h64 := Mul64_any (mag a) (mag b) ma (by omega) mb (by omega)
  by_cases big : mag a * mag b / 18446744073709551616 = 0
  · have hl : mag a * mag b % 18446744073709551616 = mag a * mag b := by omega
    have hsg := signed_any (mag a * mag b) (decide (a < 0) != decide (b < 0)) hpn (by omega)
    rw [hp] at hsg
    rw [big, hl] at h64
    clear hp hl big hpn
    generalize mag a * mag b = P at hsg h64
    go_enter Try.func14, Try.ntmps14
    go_wp2_with (first
      | (go_at_call 23; refine (size_any _ ?_ ?_ _).mono ?_; assumption; assumption; rintro e w' ⟨rfl, rfl⟩)
      | (go_at_call 25; refine (h64 _).mono ?_; rintro e w' ⟨rfl, rfl⟩)
      | (go_at_call 24; refine (hsg _).mono ?_; rintro e w' ⟨rfl, rfl⟩))
    go_ret2
    exact ⟨rfl, rfl⟩
  · have hz : (mag a * mag b / 18446744073709551616 == 0) = false := by simpa using big
    have hv : val (a * b) = 0 := by
      rw [← hp]; simp only [val, sg]
      generalize mag a * mag b = P at *
      cases (decide (a < 0) != decide (b < 0)) <;> simp <;> omega
    have hc : err (a * b) = 10 := by
      rw [← hp]; simp only [err, sg]
      generalize mag a * mag b = P at *
      cases (decide (a < 0) != decide (b < 0)) <;> simp <;> omega
    rw [hv, hc]
    clear hp hv hc
    generalize mag a * mag b / 18446744073709551616 = H at *
    generalize mag a * mag b % 18446744073709551616 = L at *
    go_enter Try.func14, Try.ntmps14
    go_wp2_with (first
      | (go_at_call 23; refine (size_any _ ?_ ?_ _).mono ?_; assumption; assumption; rintro e w' ⟨rfl, rfl⟩)
      | (go_at_call 25; refine (h64 _).mono ?_; rintro e w' ⟨rfl, rfl⟩))
    go_ret2
    exact ⟨rfl, rfl⟩

theorem Quotient_any (a b : Int) (a0 : -9223372036854775808 ≤ a) (a1 : a ≤ 9223372036854775807) (b0 : -9223372036854775808 ≤ b) (b1 : b ≤ 9223372036854775807) (w : World) :
    Calls Try.prog 18 #[.int .i64 a, .int .i64 b] w fun e w' => e = .returned (.tuple #[.int .i64 (dv a b), .int .i64 (de a b)]) ∧ w = w' := by
  by_cases zb : b = 0
  · subst zb
    go_enter Try.func18, Try.ntmps18
    go_wp2
    go_ret2
    exact ⟨rfl, rfl⟩
  · have gb : (b == 0) = false := by simp [zb]
    have hv : dv a b = val (a.tdiv b) := by simp [dv, zb]
    have hc : de a b = err (a.tdiv b) := by simp [de, zb]
    rw [hv, hc]
    have ma := mag_nonneg a
    have la := mag_le a a0 a1
    have mb : 1 ≤ mag b := by simp only [mag]; omega
    have lb := mag_le b b0 b1
    have q0 : 0 ≤ mag a / mag b := Int.ediv_nonneg ma (by omega)
    have q1 : mag a / mag b ≤ mag a := Int.ediv_le_self _ ma
    have hsg := signed_any (mag a / mag b) (decide (a < 0) != decide (b < 0)) q0 (by omega)
    rw [sg_tdiv a b] at hsg
    clear hv hc
    go_enter Try.func18, Try.ntmps18
    go_wp2_with (first
      | (go_at_call 23; refine (size_any _ ?_ ?_ _).mono ?_; assumption; assumption; rintro e w' ⟨rfl, rfl⟩)
      | (go_at_call 24; refine (hsg _).mono ?_; rintro e w' ⟨rfl, rfl⟩))
    go_ret2
    exact ⟨rfl, rfl⟩

theorem RestOf_any (a b : Int) (a0 : -9223372036854775808 ≤ a) (a1 : a ≤ 9223372036854775807) (b0 : -9223372036854775808 ≤ b) (b1 : b ≤ 9223372036854775807) (w : World) :
    Calls Try.prog 20 #[.int .i64 a, .int .i64 b] w fun e w' => e = .returned (.tuple #[.int .i64 (mv a b), .int .i64 (me b)]) ∧ w = w' := by
  by_cases zb : b = 0
  · subst zb
    go_enter Try.func20, Try.ntmps20
    go_wp2
    go_ret2
    exact ⟨rfl, rfl⟩
  · have gb : (b == 0) = false := by simp [zb]
    have hv : mv a b = a.tmod b := by simp [mv, zb]
    have hc : me b = 0 := by simp [me, zb]
    rw [hv, hc]
    have ma := mag_nonneg a
    have la := mag_le a a0 a1
    have mb : 1 ≤ mag b := by simp only [mag]; omega
    have lb := mag_le b b0 b1
    have q0 : 0 ≤ mag a % mag b := Int.emod_nonneg _ (by omega)
    have q1 : mag a % mag b < mag b := Int.emod_lt_of_pos _ (by omega)
    have hsg := signed_any (mag a % mag b) (decide (a < 0)) q0 (by omega)
    have fit := tmod_fits a b b0 b1 zb
    have hv2 : val (a.tmod b) = a.tmod b := by simp only [val]; omega
    have hc2 : err (a.tmod b) = 0 := by simp only [err]; omega
    rw [sg_tmod a b, hv2, hc2] at hsg
    clear hv hc hv2 hc2
    go_enter Try.func20, Try.ntmps20
    go_wp2_with (first
      | (go_at_call 23; refine (size_any _ ?_ ?_ _).mono ?_; assumption; assumption; rintro e w' ⟨rfl, rfl⟩)
      | (go_at_call 24; refine (hsg _).mono ?_; rintro e w' ⟨rfl, rfl⟩))
    go_ret2
    exact ⟨rfl, rfl⟩
end Go.Proofs.Ytbdliggncindkaa
