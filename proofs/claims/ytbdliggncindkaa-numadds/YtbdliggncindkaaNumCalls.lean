/- What each function of package num, and of the document's answer to it, comes to at every whole number of 64 bits, in plain whole numbers: the value where it fits, else 0 and the error. -/
import Derived.Test.YtbdliggncindkaaChecked
import Derived.Test.YtbdliggncindkaaNumPlain
import Derived.WalkKit
import Derived.ProofKit
import Derived.OpenShut
import Derived.Outline
namespace Go.Proofs.Ytbdliggncindkaa
open Go.ChangeShapes Go.WideShapes Go.ChangeAt Go.RowKit

/-- a whole number where it is one of 64 bits, else 0 -/
def val (n : Int) : Int := if -9223372036854775808 ≤ n ∧ n ≤ 9223372036854775807 then n else 0
/-- 0 (OK) where it is a number of 64 bits, else 10 (ErrOver) -/
def err (n : Int) : Int := if -9223372036854775808 ≤ n ∧ n ≤ 9223372036854775807 then 0 else 10

theorem two_eq {v v' e e' : Int} (h : v = v') (h' : e = e') : Ending.returned (.tuple #[.int .i64 v, .int .i64 e]) = .returned (.tuple #[.int .i64 v', .int .i64 e']) := by
  subst h h'; rfl

theorem answer_any (n : Int) (fits : Bool) (v c : Int) (hv : v = if fits = true then n else 0) (hc : c = if fits = true then 0 else 10) (w : World) :
    Calls Try.prog 21 #[.int .i64 n, .bool fits] w fun e w' => e = .returned (.tuple #[.int .i64 v, .int .i64 c]) ∧ w = w' := by
  cases fits
  · simp at hv hc
    subst hv hc
    go_enter Try.func21, Try.ntmps21
    go_wp2
    go_ret2
    exact ⟨rfl, rfl⟩
  · simp at hv hc
    subst hv hc
    go_enter Try.func21, Try.ntmps21
    go_wp2
    go_ret2
    exact ⟨rfl, rfl⟩

theorem add_any (a b : Int) (w : World) :
    Calls Try.prog 22 #[.int .i64 a, .int .i64 b] w fun e w' => e = .returned (.tuple #[.int .i64 (wrap64 (a + b)), .bool (decide (wrap64 (a + b) < a) == decide (b < 0))]) ∧ w = w' := by
  go_enter Try.func22, Try.ntmps22
  go_wp2
  go_ret2
  exact ⟨rfl, rfl⟩

theorem size_any (a : Int) (h0 : -9223372036854775808 ≤ a) (h1 : a ≤ 9223372036854775807) (w : World) :
    Calls Try.prog 23 #[.int .i64 a] w fun e w' => e = .returned (.int .u64 (mag a)) ∧ w = w' := by
  by_cases c : a < 0
  · go_enter Try.func23, Try.ntmps23
    go_wp2
    go_ret
    refine ⟨congrArg (fun z => Ending.returned (Value.int IntKind.u64 z)) (?_ : IntKind.u64.wrap (-IntKind.u64.wrap a) = mag a), rfl⟩
    simp only [IntKind.wrap_u64, mag]
    omega
  · go_enter Try.func23, Try.ntmps23
    go_wp2
    go_ret
    refine ⟨congrArg (fun z => Ending.returned (Value.int IntKind.u64 z)) (?_ : a = mag a), rfl⟩
    simp only [mag]
    omega

theorem signed_any (m : Int) (below : Bool) (h0 : 0 ≤ m) (h1 : m ≤ 18446744073709551615) (w : World) :
    Calls Try.prog 24 #[.int .u64 m, .bool below] w fun e w' => e = .returned (.tuple #[.int .i64 (val (sg m below)), .int .i64 (err (sg m below))]) ∧ w = w' := by
  cases below
  · by_cases c : 9223372036854775808 ≤ m
    · go_enter Try.func24, Try.ntmps24
      go_wp2
      go_ret2
      refine ⟨two_eq ?_ ?_, rfl⟩ <;> (simp only [val, err, sg]; first | omega | (simp; done) | (simp; omega))
    · go_enter Try.func24, Try.ntmps24
      go_wp2
      go_ret2
      refine ⟨two_eq ?_ ?_, rfl⟩ <;> (simp only [val, err, sg]; first | omega | (simp; done) | (simp; omega))
  · by_cases c : 9223372036854775808 < m
    · go_enter Try.func24, Try.ntmps24
      go_wp2
      go_ret2
      refine ⟨two_eq ?_ ?_, rfl⟩ <;> (simp only [val, err, sg]; first | omega | (simp; done) | (simp; omega))
    · go_enter Try.func24, Try.ntmps24
      go_wp2
      go_ret2
      refine ⟨two_eq ?_ ?_, rfl⟩ <;> (simp only [val, err, sg, IntKind.wrap_u64, wrap64]; first | omega | (simp; done) | (simp; omega))

theorem Add_any (a b : Int) (a0 : -9223372036854775808 ≤ a) (a1 : a ≤ 9223372036854775807) (b0 : -9223372036854775808 ≤ b) (b1 : b ≤ 9223372036854775807) (w : World) :
    Calls Try.prog 9 #[.int .i64 a, .int .i64 b] w fun e w' => e = .returned (.tuple #[.int .i64 (val (a + b)), .int .i64 (err (a + b))]) ∧ w = w' := by
  have hv : val (a + b) = if (decide (wrap64 (a + b) < a) == decide (b < 0)) = true then wrap64 (a + b) else 0 := by
    simp only [val, wrap64, beq_iff_eq, decide_eq_decide]
    omega
  have hc : err (a + b) = if (decide (wrap64 (a + b) < a) == decide (b < 0)) = true then 0 else 10 := by
    simp only [err, wrap64, beq_iff_eq, decide_eq_decide]
    omega
  have hans := answer_any _ _ _ _ hv hc
  clear hv hc
  go_enter Try.func9, Try.ntmps9
  go_wp2_with (first
    | (go_at_call 22; refine (add_any _ _ _).mono ?_; rintro e w' ⟨rfl, rfl⟩)
    | (go_at_call 21; refine (hans _).mono ?_; rintro e w' ⟨rfl, rfl⟩))
  go_ret2
  exact ⟨rfl, rfl⟩

theorem Sum2_nn (a b : Int) (a0 : -9223372036854775808 ≤ a) (a1 : a ≤ 9223372036854775807) (b0 : -9223372036854775808 ≤ b) (b1 : b ≤ 9223372036854775807) (ca : a < 0) (cb : b < 0) (w : World) :
    Calls Try.prog 10 #[.int .i64 a, .int .i64 b] w fun e w' => e = .returned (.tuple #[.int .i64 (val (a + b)), .int .i64 (err (a + b))]) ∧ w = w' := by
    have ha : mag a = -a := by simp only [mag]; omega
    have da : decide (a < 0) = true := by simp; omega
    have hb : mag b = -b := by simp only [mag]; omega
    have db : decide (b < 0) = true := by simp; omega
    by_cases cc : -a + -b ≤ 18446744073709551615
    · go_enter Try.func10, Try.ntmps10
      go_wp2_with (first
        | (go_at_call 23; refine (size_any _ ?_ ?_ _).mono ?_; assumption; assumption; rintro e w' ⟨rfl, rfl⟩)
        | (go_at_call 24; refine (signed_any _ _ ?_ ?_ _).mono ?_; omega; omega; rintro e w' ⟨rfl, rfl⟩))
      go_ret2
      refine ⟨two_eq ?_ ?_, rfl⟩ <;> (simp only [val, err, sg]; first | omega | (simp; done) | (simp; omega))
    · have hw : IntKind.u64.wrap (-a + -b) = 0 := by simp only [IntKind.wrap_u64]; omega
      go_enter Try.func10, Try.ntmps10
      go_wp2_with (first
        | (go_at_call 23; refine (size_any _ ?_ ?_ _).mono ?_; assumption; assumption; rintro e w' ⟨rfl, rfl⟩)
        | (go_at_call 24; refine (signed_any _ _ ?_ ?_ _).mono ?_; omega; omega; rintro e w' ⟨rfl, rfl⟩))
      go_ret2
      refine ⟨two_eq ?_ ?_, rfl⟩ <;> (simp only [val, err]; first | omega | (simp; done) | (simp; omega))

theorem Sum2_np (a b : Int) (a0 : -9223372036854775808 ≤ a) (a1 : a ≤ 9223372036854775807) (b0 : -9223372036854775808 ≤ b) (b1 : b ≤ 9223372036854775807) (ca : a < 0) (cb : 0 ≤ b) (w : World) :
    Calls Try.prog 10 #[.int .i64 a, .int .i64 b] w fun e w' => e = .returned (.tuple #[.int .i64 (val (a + b)), .int .i64 (err (a + b))]) ∧ w = w' := by
    have ha : mag a = -a := by simp only [mag]; omega
    have da : decide (a < 0) = true := by simp; omega
    have hb : mag b = b := by simp only [mag]; omega
    have db : decide (b < 0) = false := by simp; omega
    by_cases cc : b ≤ -a
    · go_enter Try.func10, Try.ntmps10
      go_wp2_with (first
        | (go_at_call 23; refine (size_any _ ?_ ?_ _).mono ?_; assumption; assumption; rintro e w' ⟨rfl, rfl⟩)
        | (go_at_call 24; refine (signed_any _ _ ?_ ?_ _).mono ?_; omega; omega; rintro e w' ⟨rfl, rfl⟩))
      go_ret2
      refine ⟨two_eq ?_ ?_, rfl⟩ <;> (simp only [val, err, sg]; first | omega | (simp; done) | (simp; omega))
    · go_enter Try.func10, Try.ntmps10
      go_wp2_with (first
        | (go_at_call 23; refine (size_any _ ?_ ?_ _).mono ?_; assumption; assumption; rintro e w' ⟨rfl, rfl⟩)
        | (go_at_call 24; refine (signed_any _ _ ?_ ?_ _).mono ?_; omega; omega; rintro e w' ⟨rfl, rfl⟩))
      go_ret2
      refine ⟨two_eq ?_ ?_, rfl⟩ <;> (simp only [val, err, sg]; first | omega | (simp; done) | (simp; omega))

theorem Sum2_pn (a b : Int) (a0 : -9223372036854775808 ≤ a) (a1 : a ≤ 9223372036854775807) (b0 : -9223372036854775808 ≤ b) (b1 : b ≤ 9223372036854775807) (ca : 0 ≤ a) (cb : b < 0) (w : World) :
    Calls Try.prog 10 #[.int .i64 a, .int .i64 b] w fun e w' => e = .returned (.tuple #[.int .i64 (val (a + b)), .int .i64 (err (a + b))]) ∧ w = w' := by
    have ha : mag a = a := by simp only [mag]; omega
    have da : decide (a < 0) = false := by simp; omega
    have hb : mag b = -b := by simp only [mag]; omega
    have db : decide (b < 0) = true := by simp; omega
    by_cases cc : -b ≤ a
    · go_enter Try.func10, Try.ntmps10
      go_wp2_with (first
        | (go_at_call 23; refine (size_any _ ?_ ?_ _).mono ?_; assumption; assumption; rintro e w' ⟨rfl, rfl⟩)
        | (go_at_call 24; refine (signed_any _ _ ?_ ?_ _).mono ?_; omega; omega; rintro e w' ⟨rfl, rfl⟩))
      go_ret2
      refine ⟨two_eq ?_ ?_, rfl⟩ <;> (simp only [val, err, sg]; first | omega | (simp; done) | (simp; omega))
    · go_enter Try.func10, Try.ntmps10
      go_wp2_with (first
        | (go_at_call 23; refine (size_any _ ?_ ?_ _).mono ?_; assumption; assumption; rintro e w' ⟨rfl, rfl⟩)
        | (go_at_call 24; refine (signed_any _ _ ?_ ?_ _).mono ?_; omega; omega; rintro e w' ⟨rfl, rfl⟩))
      go_ret2
      refine ⟨two_eq ?_ ?_, rfl⟩ <;> (simp only [val, err, sg]; first | omega | (simp; done) | (simp; omega))

theorem Sum2_pp (a b : Int) (a0 : -9223372036854775808 ≤ a) (a1 : a ≤ 9223372036854775807) (b0 : -9223372036854775808 ≤ b) (b1 : b ≤ 9223372036854775807) (ca : 0 ≤ a) (cb : 0 ≤ b) (w : World) :
    Calls Try.prog 10 #[.int .i64 a, .int .i64 b] w fun e w' => e = .returned (.tuple #[.int .i64 (val (a + b)), .int .i64 (err (a + b))]) ∧ w = w' := by
    have ha : mag a = a := by simp only [mag]; omega
    have da : decide (a < 0) = false := by simp; omega
    have hb : mag b = b := by simp only [mag]; omega
    have db : decide (b < 0) = false := by simp; omega
    by_cases cc : a + b ≤ 18446744073709551615
    · go_enter Try.func10, Try.ntmps10
      go_wp2_with (first
        | (go_at_call 23; refine (size_any _ ?_ ?_ _).mono ?_; assumption; assumption; rintro e w' ⟨rfl, rfl⟩)
        | (go_at_call 24; refine (signed_any _ _ ?_ ?_ _).mono ?_; omega; omega; rintro e w' ⟨rfl, rfl⟩))
      go_ret2
      refine ⟨two_eq ?_ ?_, rfl⟩ <;> (simp only [val, err, sg]; first | omega | (simp; done) | (simp; omega))
    · omega

theorem Sum2_any (a b : Int) (a0 : -9223372036854775808 ≤ a) (a1 : a ≤ 9223372036854775807) (b0 : -9223372036854775808 ≤ b) (b1 : b ≤ 9223372036854775807) (w : World) :
    Calls Try.prog 10 #[.int .i64 a, .int .i64 b] w fun e w' => e = .returned (.tuple #[.int .i64 (val (a + b)), .int .i64 (err (a + b))]) ∧ w = w' := by
  by_cases ca : a < 0
  · by_cases cb : b < 0
    · exact Sum2_nn a b a0 a1 b0 b1 ca cb w
    · exact Sum2_np a b a0 a1 b0 b1 ca (by omega) w
  · by_cases cb : b < 0
    · exact Sum2_pn a b a0 a1 b0 b1 (by omega) cb w
    · exact Sum2_pp a b a0 a1 b0 b1 (by omega) (by omega) w

theorem Minus2_nn (a b : Int) (a0 : -9223372036854775808 ≤ a) (a1 : a ≤ 9223372036854775807) (b0 : -9223372036854775808 ≤ b) (b1 : b ≤ 9223372036854775807) (ca : a < 0) (cb : b < 0) (w : World) :
    Calls Try.prog 12 #[.int .i64 a, .int .i64 b] w fun e w' => e = .returned (.tuple #[.int .i64 (val (a - b)), .int .i64 (err (a - b))]) ∧ w = w' := by
    have ha : mag a = -a := by simp only [mag]; omega
    have da : decide (a < 0) = true := by simp; omega
    have hb : mag b = -b := by simp only [mag]; omega
    have db : decide (b < 0) = true := by simp; omega
    by_cases cc : -b ≤ -a
    · go_enter Try.func12, Try.ntmps12
      go_wp2_with (first
        | (go_at_call 23; refine (size_any _ ?_ ?_ _).mono ?_; assumption; assumption; rintro e w' ⟨rfl, rfl⟩)
        | (go_at_call 24; refine (signed_any _ _ ?_ ?_ _).mono ?_; omega; omega; rintro e w' ⟨rfl, rfl⟩))
      go_ret2
      refine ⟨two_eq ?_ ?_, rfl⟩ <;> (simp only [val, err, sg]; first | omega | (simp; done) | (simp; omega))
    · go_enter Try.func12, Try.ntmps12
      go_wp2_with (first
        | (go_at_call 23; refine (size_any _ ?_ ?_ _).mono ?_; assumption; assumption; rintro e w' ⟨rfl, rfl⟩)
        | (go_at_call 24; refine (signed_any _ _ ?_ ?_ _).mono ?_; omega; omega; rintro e w' ⟨rfl, rfl⟩))
      go_ret2
      refine ⟨two_eq ?_ ?_, rfl⟩ <;> (simp only [val, err, sg]; first | omega | (simp; done) | (simp; omega))

theorem Minus2_np (a b : Int) (a0 : -9223372036854775808 ≤ a) (a1 : a ≤ 9223372036854775807) (b0 : -9223372036854775808 ≤ b) (b1 : b ≤ 9223372036854775807) (ca : a < 0) (cb : 0 ≤ b) (w : World) :
    Calls Try.prog 12 #[.int .i64 a, .int .i64 b] w fun e w' => e = .returned (.tuple #[.int .i64 (val (a - b)), .int .i64 (err (a - b))]) ∧ w = w' := by
    have ha : mag a = -a := by simp only [mag]; omega
    have da : decide (a < 0) = true := by simp; omega
    have hb : mag b = b := by simp only [mag]; omega
    have db : decide (b < 0) = false := by simp; omega
    by_cases cc : -a + b ≤ 18446744073709551615
    · go_enter Try.func12, Try.ntmps12
      go_wp2_with (first
        | (go_at_call 23; refine (size_any _ ?_ ?_ _).mono ?_; assumption; assumption; rintro e w' ⟨rfl, rfl⟩)
        | (go_at_call 24; refine (signed_any _ _ ?_ ?_ _).mono ?_; omega; omega; rintro e w' ⟨rfl, rfl⟩))
      go_ret2
      refine ⟨two_eq ?_ ?_, rfl⟩ <;> (simp only [val, err, sg]; first | omega | (simp; done) | (simp; omega))
    · omega

theorem Minus2_pn (a b : Int) (a0 : -9223372036854775808 ≤ a) (a1 : a ≤ 9223372036854775807) (b0 : -9223372036854775808 ≤ b) (b1 : b ≤ 9223372036854775807) (ca : 0 ≤ a) (cb : b < 0) (w : World) :
    Calls Try.prog 12 #[.int .i64 a, .int .i64 b] w fun e w' => e = .returned (.tuple #[.int .i64 (val (a - b)), .int .i64 (err (a - b))]) ∧ w = w' := by
    have ha : mag a = a := by simp only [mag]; omega
    have da : decide (a < 0) = false := by simp; omega
    have hb : mag b = -b := by simp only [mag]; omega
    have db : decide (b < 0) = true := by simp; omega
    by_cases cc : a + -b ≤ 18446744073709551615
    · go_enter Try.func12, Try.ntmps12
      go_wp2_with (first
        | (go_at_call 23; refine (size_any _ ?_ ?_ _).mono ?_; assumption; assumption; rintro e w' ⟨rfl, rfl⟩)
        | (go_at_call 24; refine (signed_any _ _ ?_ ?_ _).mono ?_; omega; omega; rintro e w' ⟨rfl, rfl⟩))
      go_ret2
      refine ⟨two_eq ?_ ?_, rfl⟩ <;> (simp only [val, err, sg]; first | omega | (simp; done) | (simp; omega))
    · omega

theorem Minus2_pp (a b : Int) (a0 : -9223372036854775808 ≤ a) (a1 : a ≤ 9223372036854775807) (b0 : -9223372036854775808 ≤ b) (b1 : b ≤ 9223372036854775807) (ca : 0 ≤ a) (cb : 0 ≤ b) (w : World) :
    Calls Try.prog 12 #[.int .i64 a, .int .i64 b] w fun e w' => e = .returned (.tuple #[.int .i64 (val (a - b)), .int .i64 (err (a - b))]) ∧ w = w' := by
    have ha : mag a = a := by simp only [mag]; omega
    have da : decide (a < 0) = false := by simp; omega
    have hb : mag b = b := by simp only [mag]; omega
    have db : decide (b < 0) = false := by simp; omega
    by_cases cc : b ≤ a
    · go_enter Try.func12, Try.ntmps12
      go_wp2_with (first
        | (go_at_call 23; refine (size_any _ ?_ ?_ _).mono ?_; assumption; assumption; rintro e w' ⟨rfl, rfl⟩)
        | (go_at_call 24; refine (signed_any _ _ ?_ ?_ _).mono ?_; omega; omega; rintro e w' ⟨rfl, rfl⟩))
      go_ret2
      refine ⟨two_eq ?_ ?_, rfl⟩ <;> (simp only [val, err, sg]; first | omega | (simp; done) | (simp; omega))
    · go_enter Try.func12, Try.ntmps12
      go_wp2_with (first
        | (go_at_call 23; refine (size_any _ ?_ ?_ _).mono ?_; assumption; assumption; rintro e w' ⟨rfl, rfl⟩)
        | (go_at_call 24; refine (signed_any _ _ ?_ ?_ _).mono ?_; omega; omega; rintro e w' ⟨rfl, rfl⟩))
      go_ret2
      refine ⟨two_eq ?_ ?_, rfl⟩ <;> (simp only [val, err, sg]; first | omega | (simp; done) | (simp; omega))

theorem Minus2_any (a b : Int) (a0 : -9223372036854775808 ≤ a) (a1 : a ≤ 9223372036854775807) (b0 : -9223372036854775808 ≤ b) (b1 : b ≤ 9223372036854775807) (w : World) :
    Calls Try.prog 12 #[.int .i64 a, .int .i64 b] w fun e w' => e = .returned (.tuple #[.int .i64 (val (a - b)), .int .i64 (err (a - b))]) ∧ w = w' := by
  by_cases ca : a < 0
  · by_cases cb : b < 0
    · exact Minus2_nn a b a0 a1 b0 b1 ca cb w
    · exact Minus2_np a b a0 a1 b0 b1 ca (by omega) w
  · by_cases cb : b < 0
    · exact Minus2_pn a b a0 a1 b0 b1 (by omega) cb w
    · exact Minus2_pp a b a0 a1 b0 b1 (by omega) (by omega) w

theorem Sub_any (a b : Int) (a0 : -9223372036854775808 ≤ a) (a1 : a ≤ 9223372036854775807) (b0 : -9223372036854775808 ≤ b) (b1 : b ≤ 9223372036854775807) (w : World) :
    Calls Try.prog 11 #[.int .i64 a, .int .i64 b] w fun e w' => e = .returned (.tuple #[.int .i64 (val (a - b)), .int .i64 (err (a - b))]) ∧ w = w' := by
  have hv : val (a - b) = if (decide (a < wrap64 (a - b)) == decide (b < 0)) = true then wrap64 (a - b) else 0 := by
    simp only [val, wrap64, beq_iff_eq, decide_eq_decide]
    omega
  have hc : err (a - b) = if (decide (a < wrap64 (a - b)) == decide (b < 0)) = true then 0 else 10 := by
    simp only [err, wrap64, beq_iff_eq, decide_eq_decide]
    omega
  have hans := answer_any _ _ _ _ hv hc
  clear hv hc
  go_enter Try.func11, Try.ntmps11
  go_wp2_with (go_at_call 21; refine (hans _).mono ?_; rintro e w' ⟨rfl, rfl⟩)
  go_ret2
  exact ⟨rfl, rfl⟩

theorem Neg_any (a : Int) (a0 : -9223372036854775808 ≤ a) (a1 : a ≤ 9223372036854775807) (w : World) :
    Calls Try.prog 15 #[.int .i64 a] w fun e w' => e = .returned (.tuple #[.int .i64 (val (-a)), .int .i64 (err (-a))]) ∧ w = w' := by
  have h := Sub_any 0 a (by omega) (by omega) a0 a1
  rw [Int.zero_sub] at h
  go_enter Try.func15, Try.ntmps15
  go_wp2_with (go_at_call 11; refine (h _).mono ?_; rintro e w' ⟨rfl, rfl⟩)
  go_ret2
  exact ⟨rfl, rfl⟩

theorem Minus1_any (a : Int) (a0 : -9223372036854775808 ≤ a) (a1 : a ≤ 9223372036854775807) (w : World) :
    Calls Try.prog 16 #[.int .i64 a] w fun e w' => e = .returned (.tuple #[.int .i64 (val (-a)), .int .i64 (err (-a))]) ∧ w = w' := by
  have h0 : 0 ≤ mag a := by simp only [mag]; omega
  have h1 : mag a ≤ 18446744073709551615 := by simp only [mag]; omega
  have e1 : sg (mag a) (decide (0 < a)) = -a := by simp only [sg, mag, decide_eq_true_eq]; omega
  have h := signed_any (mag a) (decide (0 < a)) h0 h1
  rw [e1] at h
  clear e1
  go_enter Try.func16, Try.ntmps16
  go_wp2_with (first
    | (go_at_call 23; refine (size_any _ ?_ ?_ _).mono ?_; assumption; assumption; rintro e w' ⟨rfl, rfl⟩)
    | (go_at_call 24; refine (h _).mono ?_; rintro e w' ⟨rfl, rfl⟩))
  go_ret2
  exact ⟨rfl, rfl⟩
end Go.Proofs.Ytbdliggncindkaa
