/- For every pair of whole numbers of 64 bits the law DivWhole returns true (quotient and rest make the whole) and its arguments read as before; no condition. -/
import Derived.Test.YtbdliggncindkabRows
import Derived.Test.YtbdliggncindkabNumOwn
import Derived.Test.YtbdliggncindkabNumBelow
import Derived.WalkKit
import Derived.ProofKit
import Derived.OpenShut
namespace Go.Proofs.Ytbdliggncindkab.divWhole
open Go.ChangeShapes Go.WideShapes Go.ChangeAt Go.RowKit
set_option linter.unusedVariables false      -- a walk need not use every 'w<i>' (that an integer argument fits its kind)

theorem own : ownKnob Try.prog.godebug = none := by kernel_rfl

/-! ### STEP 1: THE WALK: the Go text returns true. 'Grown w w'': the world has at most new blocks (Derived/RowKit3.lean). Part the cases AHEAD of 'go_enter' where a test parts the walk; take each callee by a contract of your own. -/
theorem walk (a0 : Int) (a1 : Int) (w0 : (Lit.int .i64 a0).wf = true) (w1 : (Lit.int .i64 a1).wf = true) (w : World) :
    Calls Try.prog 5 #[.int .i64 a0, .int .i64 a1] w fun e w' => e = .returned (.bool true) ∧ Grown w w' := by
  have b0 := bounds_i64 w0
  have b1 := bounds_i64 w1
  by_cases zb : a1 = 0
  · have v1 : dv a0 a1 = 0 := by simp [dv, zb]
    have e1 : de a0 a1 = 11 := by simp [de, zb]
    have v2 : mv a0 a1 = 0 := by simp [mv, zb]
    have e2 : me a1 = 11 := by simp [me, zb]
    have gb : (a1 == 0) = true := by simp [zb]
    clear zb
    go_enter Try.func5, Try.ntmps5
    go_wp2_with (first
      | (go_at_call 11; refine (Div_any _ _ ?_ ?_ _).mono ?_; omega; omega; rintro e w' ⟨rfl, rfl⟩)
      | (go_at_call 12; refine (Mod_any _ _ ?_ ?_ _).mono ?_; omega; omega; rintro e w' ⟨rfl, rfl⟩)
      | (go_at_call 13; refine (below_any _ ?_ ?_ _).mono ?_; omega; omega; rintro e w' ⟨rfl, rfl⟩)
      | (go_at_call 10; refine (Mul_any _ _ ?_ ?_ ?_ ?_ _).mono ?_; omega; omega; omega; omega; rintro e w' ⟨rfl, rfl⟩)
      | (go_at_call 8; refine (Add_any _ _ ?_ ?_ ?_ ?_ _).mono ?_; omega; omega; omega; omega; rintro e w' ⟨rfl, rfl⟩))
    go_ret
    exact ⟨rfl, Grown.refl _⟩
  · have gb : (a1 == 0) = false := by simp [zb]
    have e2 : me a1 = 0 := by simp [me, zb]
    have v2 : mv a0 a1 = a0.tmod a1 := by simp [mv, zb]
    obtain ⟨hw, hb, hs⟩ := whole a0 a1 zb
    have hbel : decide (bel (a0.tmod a1) ≤ bel a1) = false := by simp only [decide_eq_false_iff_not]; omega
    have fr := tmod_fits a0 a1 b1.1 b1.2 zb
    by_cases ov : a0 = -9223372036854775808 ∧ a1 = -1
    · have hq : a0.tdiv a1 = 9223372036854775808 := by rw [ov.1, ov.2]; rfl
      have hr : a0.tmod a1 = 0 := by rw [ov.1, ov.2]; rfl
      have v1 : dv a0 a1 = 0 := by simp [dv, zb, hq, val]
      have e1 : de a0 a1 = 10 := by simp [de, zb, hq, err]
      have gm : (a1 == -1) = true := by simp [ov.2]
      rw [hr] at v2 hbel
      clear zb hq hr hw hb hs fr ov
      go_enter Try.func5, Try.ntmps5
      go_wp2_with (first
        | (go_at_call 11; refine (Div_any _ _ ?_ ?_ _).mono ?_; omega; omega; rintro e w' ⟨rfl, rfl⟩)
        | (go_at_call 12; refine (Mod_any _ _ ?_ ?_ _).mono ?_; omega; omega; rintro e w' ⟨rfl, rfl⟩)
        | (go_at_call 13; refine (below_any _ ?_ ?_ _).mono ?_; omega; omega; rintro e w' ⟨rfl, rfl⟩)
        | (go_at_call 10; refine (Mul_any _ _ ?_ ?_ ?_ ?_ _).mono ?_; omega; omega; omega; omega; rintro e w' ⟨rfl, rfl⟩)
        | (go_at_call 8; refine (Add_any _ _ ?_ ?_ ?_ ?_ _).mono ?_; omega; omega; omega; omega; rintro e w' ⟨rfl, rfl⟩))
      go_ret
      exact ⟨rfl, Grown.refl _⟩
    · have fq : -9223372036854775808 ≤ a0.tdiv a1 ∧ a0.tdiv a1 ≤ 9223372036854775807 := whole_fits a0 a1 b0.1 b0.2 ov
      have v1 : dv a0 a1 = a0.tdiv a1 := by simp only [dv, zb, if_false, val]; omega
      have e1 : de a0 a1 = 0 := by simp only [de, zb, if_false, err]; omega
      obtain ⟨q, hq⟩ : ∃ q, q = a0.tdiv a1 := ⟨_, rfl⟩
      obtain ⟨r, hr⟩ : ∃ r, r = a0.tmod a1 := ⟨_, rfl⟩
      rw [← hq] at v1 hw fq
      rw [← hr] at v2 hw hs fr hbel
      have f3 : -9223372036854775808 ≤ q * a1 ∧ q * a1 ≤ 9223372036854775807 := by omega
      have v3 : val (q * a1) = q * a1 := by simp only [val]; omega
      have e3 : err (q * a1) = 0 := by simp only [err]; omega
      have v4 : val (q * a1 + r) = a0 := by rw [hw]; simp only [val]; omega
      have e4 : err (q * a1 + r) = 0 := by rw [hw]; simp only [err]; omega
      clear hq hr zb ov
      by_cases zr : r = 0
      · subst zr
        rw [Int.add_zero] at hw v4 e4
        have v5 : val a0 = a0 := by rw [hw] at v4; exact v4
        have e5 : err a0 = 0 := by rw [hw] at e4; exact e4
        clear v3 e3 hs
        go_enter Try.func5, Try.ntmps5
        go_wp2_with (first
          | (go_at_call 11; refine (Div_any _ _ ?_ ?_ _).mono ?_; omega; omega; rintro e w' ⟨rfl, rfl⟩)
          | (go_at_call 12; refine (Mod_any _ _ ?_ ?_ _).mono ?_; omega; omega; rintro e w' ⟨rfl, rfl⟩)
          | (go_at_call 13; refine (below_any _ ?_ ?_ _).mono ?_; omega; omega; rintro e w' ⟨rfl, rfl⟩)
          | (go_at_call 10; refine (Mul_any _ _ ?_ ?_ ?_ ?_ _).mono ?_; omega; omega; omega; omega; rintro e w' ⟨rfl, rfl⟩)
          | (go_at_call 8; refine (Add_any _ _ ?_ ?_ ?_ ?_ _).mono ?_; omega; omega; omega; omega; rintro e w' ⟨rfl, rfl⟩))
        go_ret
        exact ⟨rfl, Grown.refl _⟩
      · have gr : (r == 0) = false := by simp [zr]
        clear hw
        by_cases ca : a0 < 0
        · have da : decide (a0 < 0) = true := by simp [ca]
          have dr : decide (r < 0) = true := by simp; omega
          go_enter Try.func5, Try.ntmps5
          go_wp2_with (first
            | (go_at_call 11; refine (Div_any _ _ ?_ ?_ _).mono ?_; omega; omega; rintro e w' ⟨rfl, rfl⟩)
            | (go_at_call 12; refine (Mod_any _ _ ?_ ?_ _).mono ?_; omega; omega; rintro e w' ⟨rfl, rfl⟩)
            | (go_at_call 13; refine (below_any _ ?_ ?_ _).mono ?_; omega; omega; rintro e w' ⟨rfl, rfl⟩)
            | (go_at_call 10; refine (Mul_any _ _ ?_ ?_ ?_ ?_ _).mono ?_; omega; omega; omega; omega; rintro e w' ⟨rfl, rfl⟩)
            | (go_at_call 8; refine (Add_any _ _ ?_ ?_ ?_ ?_ _).mono ?_; omega; omega; omega; omega; rintro e w' ⟨rfl, rfl⟩))
          go_ret
          exact ⟨rfl, Grown.refl _⟩
        · have da : decide (a0 < 0) = false := by simp; omega
          have dr : decide (r < 0) = false := by simp; omega
          go_enter Try.func5, Try.ntmps5
          go_wp2_with (first
            | (go_at_call 11; refine (Div_any _ _ ?_ ?_ _).mono ?_; omega; omega; rintro e w' ⟨rfl, rfl⟩)
            | (go_at_call 12; refine (Mod_any _ _ ?_ ?_ _).mono ?_; omega; omega; rintro e w' ⟨rfl, rfl⟩)
            | (go_at_call 13; refine (below_any _ ?_ ?_ _).mono ?_; omega; omega; rintro e w' ⟨rfl, rfl⟩)
            | (go_at_call 10; refine (Mul_any _ _ ?_ ?_ ?_ ?_ _).mono ?_; omega; omega; omega; omega; rintro e w' ⟨rfl, rfl⟩)
            | (go_at_call 8; refine (Add_any _ _ ?_ ?_ ?_ ?_ _).mono ?_; omega; omega; omega; omega; rintro e w' ⟨rfl, rfl⟩))
          go_ret
          exact ⟨rfl, Grown.refl _⟩

/-! ### THE ROW's STEP: WRITTEN OUT: LEAVE IT -/
set_option maxRecDepth 100000 in
theorem lifted (os : Os) (started : os.Started) (H : Type) (enc : TypeId × Value → H) :
    ReturnsInHanded {} Try.checked os 5 .any (Rows.divWholeSpec.pre6 enc Try.prog Try.f5 Rows.divWholeRow.domain false) (Rows.divWholeSpec.post enc Try.prog Try.f5 false true false false) := by
  refine returnsInHanded_of_change (C := Try.checked) own started (by kernel_rfl) Try.func5
    (ChangeSpec.witness6 (enc := enc) (C := Try.checked) false ⟨#[], #[.int .i64 0, .int .i64 0], []⟩ 8 (by kernel_rfl) (by kernel_rfl) (by kernel_rfl) (by kernel_rfl)) ?_
  intro W base args ds gs before hval0 hW hcnd _
  have hval : ∀ (j : Nat) t v, Try.f5.params[j]? = some t → args[j]? = some v → Value.okWide Try.prog W .any base t v := hval0
  have hW' := hW
  obtain ⟨p, q, hA0, hV, rfl, hfz, hnd⟩ := hW
  have hA : DataW.TrodAll enc Try.prog W 0 (fun _ => true) true Try.f5.params.toList args.toList ds p := hA0
  rw [Try.params5] at hA hval
  obtain ⟨v0, vs0, d0, ds0, p0, q0, hargs, rfl, rfl, h0, r0⟩ := trodAll_cons hA
  obtain ⟨v1, vs1, d1, ds1, p1, q1, rfl, rfl, rfl, h1, r1⟩ := trodAll_cons r0
  obtain ⟨rfl, rfl, rfl⟩ := trodAll_nil r1
  obtain rfl : args = #[v0, v1] := by cases args; simp_all
  obtain ⟨rfl, rfl⟩ := trodVars_none hV
  obtain ⟨a0, rfl, rfl, rfl, w0⟩ := open_int Try.underlying3 (hval 0 3 v0 rfl rfl) h0
  obtain ⟨a1, rfl, rfl, rfl, w1⟩ := open_int Try.underlying3 (hval 1 3 v1 rfl rfl) h1
  clear hA0 hval0
  simp only [List.append_nil] at hW'
  refine (walk a0 a1 w0 w1 W).mono fun e W' ⟨he, hg⟩ => ?_
  subst he
  exact ⟨_, rfl, post_of_same (pa := []) (pv := []) hW' (fun _ _ _ => (trodAll_cons_mk (shut_bool Try.underlying4 _) trodAll_mk0)) (fun sp _ => (trodAll_cons_mk (shut_int Try.underlying3 w0) (trodAll_cons_mk (shut_int Try.underlying3 w1) trodAll_mk0))) (fun _ _ => rfl) rfl
    (hg.frame _) hg.2.1 (ok_one (by kernel_rfl) rfl (okWide_bool_mk Try.underlying4 _))⟩

theorem over : Rows.divWholeRow.holds Try.pinned (OpenSpec.ofChange Rows.divWholeSpec) :=
  OpenClaim.holds_of_wide 5 Try.f5 rfl rfl rfl rfl rfl rfl rfl ⟨rfl, rfl, rfl, rfl, rfl⟩ rfl rfl rfl rfl rfl (by kernel_rfl) Try.func5 (by kernel_rfl)
    (of_decide_eq_true (by kernel_rfl)) (by unfold Func.isWrapper; first | (rw [if_pos (by decide +kernel)]; kernel_rfl) | (rw [if_neg (by decide +kernel)]; exact ⟨rfl, rfl⟩))
    (fun os started H enc _ => lifted os started H enc)

/-- ████ THE STATEMENT ████ -/
theorem proved : Rows.DivWholeSaid :=
  over
end Go.Proofs.Ytbdliggncindkab.divWhole
namespace Go.Proofs.Ytbdliggncindkab
theorem divWhole_holds : Rows.DivWholeSaid := divWhole.proved
end Go.Proofs.Ytbdliggncindkab
