/- However many noughts stand ahead, the greatest number of 64 bits is cut as one Number and the next one is refused as over. -/
import Derived.Test.YtogkghifpocgmabDoorRows
import Derived.Test.YtogkghifpocgmabDoorOverTabs
import Derived.Test.YtogkghifpocgmabDoorPicked
import Derived.Test.YtogkghifpocgmabDoorPinLaid
import Derived.WalkKit
import Derived.ProofKit
import Derived.OpenShut
import Derived.Below
import Derived.LaidMore
import Derived.MakeChecks
import Derived.SevenTiedAt
import Derived.Test.YtogkghifpocgmabDoorCards
import Derived.Test.YtogkghifpocgmabDoorTie
namespace Go.Proofs.YtogkghifpocgmabDoor.lexOver
open Go.ChangeShapes Go.WideShapes Go.ChangeAt Go.RowKit
set_option linter.unusedVariables false      -- a walk need not use every 'w<i>' (that an integer argument fits its kind)

theorem own : ownKnob Tryd.prog.godebug = none := by kernel_rfl

/-! ### STEP 1: THE WALK: the Go text returns true. 'Grown w w'': the world has at most new blocks (Derived/RowKit3.lean). Part the cases AHEAD of 'go_enter' where a test parts the walk; take each callee by a contract of your own. -/
set_option maxHeartbeats 4000000 in
theorem walk (a0 : Int) (w0 : (Lit.int .i64 a0).wf = true) (w : World) (tab : LexTabs w) :
    Calls Tryd.prog 4 #[.int .i64 a0] w fun e w' => e = .returned (.bool true) ∧ Below w.heap.size w w' := by
  obtain ⟨n, hn⟩ : ∃ n : Nat, a0 % 500 = (n : Int) := ⟨(a0 % 500).toNat, by omega⟩
  have hn5 : n < 500 := by omega
  have cP := Picked_any a0 500 (by decide) (by decide)
  rw [hn] at cP
  clear hn
  obtain ⟨d1, hd1⟩ : ∃ d : ByteArray, d = ⟨#[57, 50, 50, 51, 51, 55, 50, 48, 51, 54, 56, 53, 52, 55, 55, 53, 56, 48, 55]⟩ := ⟨_, rfl⟩
  obtain ⟨d2, hd2⟩ : ∃ d : ByteArray, d = ⟨#[57, 50, 50, 51, 51, 55, 50, 48, 51, 54, 56, 53, 52, 55, 55, 53, 56, 48, 56]⟩ := ⟨_, rfl⟩
  have HS : Hid (d1.size = 19 ∧ d2.size = 19) := by rw [hd1, hd2]; exact ⟨rfl, rfl⟩
  have key : ∀ z : ByteArray, bts z = List.replicate n 48 → CutIs (bts (z ++ d1)) [⟨2, 9223372036854775807, []⟩] 0 0 ∧ CutIs (bts (z ++ d2)) [] 0 10 := by
    intro z hz
    have e1 : bts (z ++ d1) = List.replicate n 48 ++ [57, 50, 50, 51, 51, 55, 50, 48, 51, 54, 56, 53, 52, 55, 55, 53, 56, 48, 55] := by rw [bts_append, hz, hd1]; rfl
    have e2 : bts (z ++ d2) = List.replicate n 48 ++ [57, 50, 50, 51, 51, 55, 50, 48, 51, 54, 56, 53, 52, 55, 55, 53, 56, 48, 56] := by rw [bts_append, hz, hd2]; rfl
    rw [e1, e2]
    have k1 := (digits_cut (u := List.replicate n 48 ++ [57, 50, 50, 51, 51, 55, 50, 48, 51, 54, 56, 53, 52, 55, 55, 53, 56, 48, 55]) (by simp) (zeros_digits n _ (by decide)) (by simp; omega)).1
    have k2 := (digits_cut (u := List.replicate n 48 ++ [57, 50, 50, 51, 51, 55, 50, 48, 51, 54, 56, 53, 52, 55, 55, 53, 56, 48, 56]) (by simp) (zeros_digits n _ (by decide)) (by simp; omega)).2
    rw [num_zeros] at k1 k2
    exact ⟨k1 (by decide), k2 (by decide)⟩
  have cA : ∀ (z : ByteArray) (W : World), Hid (bts z = List.replicate n 48) → Hid (Below w.heap.size w W) → Calls Tryd.prog 8 #[.string (z ++ d1)] W fun e W' => ∃ g cap, e = .returned (.tuple #[.slice (some ⟨g, 0, none⟩) 1 cap, .int .i64 0, .int .i64 0]) ∧ Hid (g < W'.heap.size ∧ Below w.heap.size w W') ∧ W'.cell? ⟨g, 0, none⟩ = some (.int .i64 2) ∧ W'.cell? ⟨g, 1, none⟩ = some (.int .i64 9223372036854775807) := by
    intro z W hz hW
    refine (Cut_is (z ++ d1) W (tab.later hW.out) (key z hz.out).1).mono fun e W' ⟨ao, cap, h1, h2, h3⟩ => ?_
    obtain ⟨g, rfl, g1, g2, g3, g4, g5⟩ := row_one h2
    exact ⟨g, cap, h1, ⟨g1, hW.out.trans (h3.mono hW.out.size)⟩, g3, g4⟩
  have cB : ∀ (z : ByteArray) (W : World) (g : Nat), Hid (bts z = List.replicate n 48) → Hid (g < W.heap.size ∧ Below w.heap.size w W) → W.cell? ⟨g, 0, none⟩ = some (.int .i64 2) → W.cell? ⟨g, 1, none⟩ = some (.int .i64 9223372036854775807) →
      Calls Tryd.prog 8 #[.string (z ++ d2)] W fun e W' => ∃ ao cap, e = .returned (.tuple #[.slice ao 0 cap, .int .i64 0, .int .i64 10]) ∧ Hid (Below w.heap.size w W') ∧ W'.cell? ⟨g, 0, none⟩ = some (.int .i64 2) ∧ W'.cell? ⟨g, 1, none⟩ = some (.int .i64 9223372036854775807) := by
    intro z W g hz hW c0 c1
    refine (Cut_is (z ++ d2) W (tab.later hW.out.2) (key z hz.out).2).mono fun e W' ⟨ao, cap, h1, h2, h3⟩ => ?_
    exact ⟨ao, cap, h1, hW.out.2.trans (h3.mono hW.out.2.size), (h3.cell hW.out.1).trans c0, (h3.cell hW.out.1).trans c1⟩
  have HA := hidden cA
  have HB := hidden cB
  have s1 : d1.size = 19 := HS.out.1
  have s2 : d2.size = 19 := HS.out.2
  clear cA cB key tab HS
  go_enter Tryd.func4, Tryd.ntmps4
  rw [← hd1, ← hd2]
  clear hd1 hd2
  go_wp2
  go_loopw [3, 4] (fun v x wr => ∃ (k : Nat) (z : ByteArray), k ≤ n ∧ v = .string z ∧ x = .int .i64 (k : Int) ∧ wr = w ∧ z.size = k ∧ Hid (bts z = List.replicate k 48)) (fun _ x _ => n - (intOf x).toNat)
  case atStart => exact ⟨0, ⟨#[]⟩, Nat.zero_le _, rfl, rfl, rfl, rfl, rfl⟩
  case round =>
    obtain ⟨k, z, hk, rfl, rfl, rfl, hz, HZ⟩ := hrel
    by_cases hlt : k < n
    · have hlt1 : (k : Int) < (n : Int) := by omega
      go_wp2_with (go_at_call 7; refine (cP _).mono ?_; rintro e w' ⟨rfl, rfl⟩)
      go_roundw
      case rel => exact ⟨k + 1, z ++ ⟨#[48]⟩, by omega, rfl, by go_num, by trivial, by rw [ByteArray.size_append, hz]; rfl, by
        show bts (z ++ ⟨#[48]⟩) = _
        rw [bts_append, HZ.out, List.replicate_succ']
        rfl⟩
      case measure => simp [intOf]; omega
    · have hlt1 : ¬ (k : Int) < (n : Int) := by omega
      have hkn : k = n := by omega
      subst hkn
      have W0 : Hid (Below wr.heap.size wr wr) := Below.refl _ _
      go_wp2_with (first
        | (go_at_call 7; refine (cP _).mono ?_; rintro e w' ⟨rfl, rfl⟩)
        | (go_at_call 8; with_reducible refine (HA.out z _ HZ W0).mono ?_; rintro e w1 ⟨g, cap, rfl, b1, m0, m1⟩)
        | (go_at_call 8; with_reducible refine (HB.out z _ g HZ b1 m0 m1).mono ?_; rintro e w2 ⟨ao, cap2, rfl, b2, l0, l1⟩))
      go_ret
      exact ⟨rfl, b2.out⟩

/-! ### THE ROW's STEP: WRITTEN OUT: LEAVE IT -/
set_option maxRecDepth 100000 in
theorem lifted (os : Os) (started : os.Started) (H : Type) (enc : TypeId × Value → H) :
    ReturnsInHanded {} Tryd.checked os 4 .any (fun w args => (Rows.lexOverSpec.pre enc Tryd.prog Tryd.f4 [] false w args ∧ laidMetH Tryd.prog [("math/bits.deBruijn32tab", Rows.laid_math_bits_deBruijn32tab), ("math/bits.deBruijn64tab", Rows.laid_math_bits_deBruijn64tab), ("internal/strconv.uint64pow10", Rows.laid_internal_strconv_uint64pow10), ("unicode/utf8.acceptRanges", Rows.laid_unicode_utf8_acceptRanges), ("strconv.ErrRange", Rows.laid_strconv_ErrRange), ("strconv.ErrSyntax", Rows.laid_strconv_ErrSyntax), ("commonhold/lex.marks", Rows.laid_commonhold_lex_marks), ("unicode/utf8.first", Rows.laid_unicode_utf8_first)] w) ∧ sizedMet enc Tryd.prog Tryd.f4 (OpenSpec.ofChange Rows.lexOverSpec) false w args) (Rows.lexOverSpec.post enc Tryd.prog Tryd.f4 false true false false) := by
  refine returnsInHanded_of_change_and (C := Tryd.checked) (X := fun w _ => laidMetH Tryd.prog [("math/bits.deBruijn32tab", Rows.laid_math_bits_deBruijn32tab), ("math/bits.deBruijn64tab", Rows.laid_math_bits_deBruijn64tab), ("internal/strconv.uint64pow10", Rows.laid_internal_strconv_uint64pow10), ("unicode/utf8.acceptRanges", Rows.laid_unicode_utf8_acceptRanges), ("strconv.ErrRange", Rows.laid_strconv_ErrRange), ("strconv.ErrSyntax", Rows.laid_strconv_ErrSyntax), ("commonhold/lex.marks", Rows.laid_commonhold_lex_marks), ("unicode/utf8.first", Rows.laid_unicode_utf8_first)] w) (fun _ _ _ hh h => h.of_heap hh) own started (by kernel_rfl) Tryd.func4
    (ChangeSpec.witness_shaped (enc := enc) (C := Tryd.checked) (os := os) (X := fun w _ => laidMetH Tryd.prog [("math/bits.deBruijn32tab", Rows.laid_math_bits_deBruijn32tab), ("math/bits.deBruijn64tab", Rows.laid_math_bits_deBruijn64tab), ("internal/strconv.uint64pow10", Rows.laid_internal_strconv_uint64pow10), ("unicode/utf8.acceptRanges", Rows.laid_unicode_utf8_acceptRanges), ("strconv.ErrRange", Rows.laid_strconv_ErrRange), ("strconv.ErrSyntax", Rows.laid_strconv_ErrSyntax), ("commonhold/lex.marks", Rows.laid_commonhold_lex_marks), ("unicode/utf8.first", Rows.laid_unicode_utf8_first)] w) false (pinLaid 77 os) #[.int .i64 0] 8 rfl (World.shaped_of_RefB (by kernel_rfl) (by kernel_rfl)) (by kernel_rfl) (by kernel_rfl) (by kernel_rfl) (laidMetH_of_parts3 (fuel := 8) (laidMet_of_run' 8 (by kernel_rfl) (by kernel_rfl)) (by kernel_rfl) (by kernel_rfl))) ?_
  intro W base args ds gs before hval0 hW hcnd _ hL _
  have hval : ∀ (j : Nat) t v, Tryd.f4.params[j]? = some t → args[j]? = some v → Value.okWide Tryd.prog W .any base t v := hval0
  have hW' := hW
  obtain ⟨p, q, hA0, hV, rfl, hfz, hnd⟩ := hW
  have hA : DataW.TrodAll enc Tryd.prog W 0 (fun _ => true) true Tryd.f4.params.toList args.toList ds p := hA0
  rw [Tryd.params4] at hA hval
  obtain ⟨v0, vs0, d0, ds0, p0, q0, hargs, rfl, rfl, h0, r0⟩ := trodAll_cons hA
  obtain ⟨rfl, rfl, rfl⟩ := trodAll_nil r0
  obtain rfl : args = #[v0] := by cases args; simp_all
  obtain ⟨rfl, rfl⟩ := trodVars_none hV
  obtain ⟨a0, rfl, rfl, rfl, w0⟩ := open_int Tryd.underlying3 (hval 0 3 v0 rfl rfl) h0
  clear hA0 hval0
  simp only [List.append_nil] at hW'
  refine (walk a0 w0 W (over_tabs hL)).mono fun e W' ⟨he, bel⟩ => ?_
  subst he
  exact ⟨_, rfl, _, _, _, [], _, [], hW', trodAll_mk1 (shut_bool Tryd.underlying4 _), (trodAll_cons_mk (shut_int Tryd.underlying3 w0) trodAll_mk0), rfl, bel.frame _, fun h => by cases h⟩

theorem over : Rows.lexOverRow.holds Tryd.pinned (OpenSpec.ofChange Rows.lexOverSpec) :=
  OpenClaim.holds_of_wide 4 Tryd.f4 rfl rfl rfl rfl rfl rfl rfl ⟨rfl, rfl, rfl, rfl, rfl⟩ rfl rfl rfl rfl rfl (by kernel_rfl) Tryd.func4 (by kernel_rfl)
    (of_decide_eq_true (by kernel_rfl)) (by unfold Func.isWrapper; first | (rw [if_pos (by decide +kernel)]; kernel_rfl) | (rw [if_neg (by decide +kernel)]; exact ⟨rfl, rfl⟩))
    (fun os started H enc _ => lifted os started H enc)

/-- ████ THE STATEMENT ████ -/
theorem proved : Rows.LexOverSaid :=
  over
/-- THE CARD: the row with its listed variable tied to the program's text. -/
theorem carded : Rows.LexOverCardSaid :=
  Claim7.holds_tied_plain_at .later [] [.data, .data, .data, .data, .sentinel, .sentinel, .data, .pinned] true (true, "023585f1a753c5aa5751f9f1a2cf439316cfa93a99ec2186cceaf6116fadca59") true
    proved (fun _ h => by cases h) (by kernel_rfl) (fun _ h => by cases h) lexOver_row_tie rfl ⟨rfl, rfl⟩ (by kernel_rfl) rfl
    (fun f fn hf hfn => by
      obtain rfl : f = 4 := Option.some.inj ((show Tryd.prog.funcNamed "commonhold/commonholdkeep.LexOver" = some 4 by kernel_rfl).symm.trans hf) |>.symm
      obtain rfl : fn = Tryd.f4 := (Option.some.inj (Tryd.func4.symm.trans hfn)).symm
      exact ⟨by kernel_rfl, fun j t ht => by
        rw [Tryd.params4] at ht
        rcases j with _ | j
        all_goals first | (simp at ht; done) | (simp at ht; subst ht; kernel_rfl)⟩)
    (by kernel_rfl)
end Go.Proofs.YtogkghifpocgmabDoor.lexOver
namespace Go.Proofs.YtogkghifpocgmabDoor
theorem lexOver_holds : Rows.LexOverCardSaid := lexOver.carded
end Go.Proofs.YtogkghifpocgmabDoor
