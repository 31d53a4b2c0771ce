/- Capital letters are small ones, but in quotes. -/
import Derived.Test.YtogkghifpocgmaaDoorRows
import Derived.Test.YtogkghifpocgmaaDoorCaseLaid
import Derived.Test.YtogkghifpocgmaaDoorBadTabs
import Derived.Test.YtogkghifpocgmaaDoorLexCasePlain
import Derived.Test.YtogkghifpocgmaaDoorSameToks
import Derived.Test.YtogkghifpocgmaaDoorKeepText
import Derived.Test.YtogkghifpocgmaaDoorPinLaid
import Derived.WalkKit
import Derived.ProofKit
import Derived.OpenShut
import Derived.Below
import Derived.LaidMore
import Derived.MakeChecks
import Derived.SevenTiedAt
import Derived.Test.YtogkghifpocgmaaDoorCards
import Derived.Test.YtogkghifpocgmaaDoorTie
import Derived.ShutString
namespace Go.Proofs.YtogkghifpocgmaaDoor.lexCase
open Go.ChangeShapes Go.WideShapes Go.ChangeAt Go.RowKit
open Go.ChangeMaps (open_string shut_string)
set_option linter.unusedVariables false      -- a walk need not use every 'w<i>' (that an integer argument fits its kind)

theorem own : ownKnob Tryd.prog.godebug = none := by kernel_rfl

/-! ### STEP 1: THE WALK: the Go text returns true. 'Grown w w'': the world has at most new blocks (Derived/RowKit3.lean). Part the cases AHEAD of 'go_enter' where a test parts the walk; take each callee by a contract of your own. -/
set_option maxHeartbeats 8000000 in
theorem walk (a0 : ByteArray) (a1 : ByteArray) (w0 : a0.size ≤ maxLen) (w1 : a1.size ≤ maxLen) (w : World) (tab : AllTabs w) :
    Calls Tryd.prog 8 #[.string a0, .string a1] w fun e w' => e = .returned (.bool true) ∧ Below w.heap.size w w' := by
  have hs0 : a0.size ≤ 9223372036854775807 := by have h := w0; unfold maxLen at h; exact h
  have hs1 : a1.size ≤ 9223372036854775807 := by have h := w1; unfold maxLen at h; exact h
  have cW : Calls Tryd.prog 19 #[.string a0] w fun e W => ∃ u : ByteArray, e = .returned (.string u) ∧ u.size ≤ 12 ∧ Hid (Wordish (bts u)) ∧ Hid (Below w.heap.size w W) := (WordOf_any a0 hs0 w).mono fun e W ⟨u, h1, h2, h3, h4⟩ => ⟨str u, h1, by rw [str_size]; exact h3, by rw [bts_str]; exact h2, h4⟩
  have HC : Hid (∀ W : World, Hid (Below w.heap.size w W) → Calls Tryd.prog 20 #[.string a1, .int .i64 10] W fun e W' => ∃ t : ByteArray, e = .returned (.string t) ∧ t.size ≤ 10 ∧ Hid (signs (bts t) = true) ∧ Hid (Below w.heap.size w W')) := fun W hW => (Clean_any a1 10 (by omega) hs1 W).mono fun e W' ⟨u, h1, h2, h3, h4⟩ => ⟨str u, h1, by rw [str_size]; exact h3, by rw [bts_str]; exact h2, hW.out.trans (h4.mono hW.out.size)⟩
  have enc : Hid (∀ x : Fin 128, bts (Utf8.encode ((x.val : Nat) : Int)) = [UInt8.ofNat x.val]) := by
    have : ∀ x : Fin 128, bts (Utf8.encode ((x.val : Nat) : Int)) = [UInt8.ofNat x.val] := by decide +kernel
    exact this
  have HJ : Hid (∀ (t : ByteArray) (W : World) (ty : TypeId), t.size ≤ 10 → Hid (signs (bts t) = true) → Hid (Below w.heap.size w W) → Calls Tryd.prog 14 #[.slice (some ⟨W.heap.size, 0, none⟩) 1 1] (W.alloc (.cells #[.int .i64 3, .int .i64 0, .string t] ty)) fun e W' => ∃ z : ByteArray, e = .returned (.tuple #[.string z, .int .i64 0]) ∧ z.size ≤ 1992 ∧ Hid (bts z = joined [⟨3, 0, bts t⟩]) ∧ Hid (Below w.heap.size w W')) := by
    intro t W ty ht hs hW
    have hT : Toks (W.alloc (.cells #[.int .i64 3, .int .i64 0, .string t] ty)) (some ⟨W.heap.size, 0, none⟩) 1 [⟨3, 0, bts t⟩] := by
      refine ⟨Nat.le_refl _, by simp, .inr ⟨W.heap.size, 0, rfl, by simp, fun i hi => ?_⟩⟩
      have : i = 0 := by simpa using hi
      subst this
      simp [str_bts]
    have hb : Below w.heap.size w (W.alloc (.cells #[.int .i64 3, .int .i64 0, .string t] ty)) := hW.out.alloc hW.out.size _
    have := Join_made (some ⟨W.heap.size, 0, none⟩) 1 [⟨3, 0, bts t⟩] (quote_may hs.out (by rw [← size_bytes]; exact ht)) (by simp) hb tab hT
    exact this.mono fun e W' ⟨z, h1, h2, h3, h4⟩ => ⟨z, h1, h2, h3, h4.out.1⟩
  have HA : Hid (∀ (u v t z : ByteArray) (W : World), Hid (isWord (bts u) = true ∧ (bts v).map low = bts u ∧ ∀ c ∈ bts v, wordy c = true) → t.size ≤ 10 → Hid (signs (bts t) = true) → Hid (bts z = joined [⟨3, 0, bts t⟩]) → Hid (Below w.heap.size w W) → Calls Tryd.prog 11 #[.string (v ++ ⟨#[32]⟩ ++ z)] W fun e W' => ∃ b off cap, e = .returned (.tuple #[.slice (some ⟨b, off, none⟩) 2 cap, .int .i64 0, .int .i64 0]) ∧ Hid (Below w.heap.size w W' ∧ Below W.heap.size W W' ∧ Toks W' (some ⟨b, off, none⟩) cap [⟨1, 0, bts u⟩, ⟨3, 0, bts t⟩])) := by
    intro u v t z W hu ht hs hz hW
    have e : bts (v ++ ⟨#[32]⟩ ++ z) = bts v ++ 32 :: joined [⟨3, 0, bts t⟩] := by
      rw [bts_append, bts_append, hz.out]
      show bts v ++ [32] ++ joined [⟨3, 0, bts t⟩] = _
      simp
    have := Cut_tokens (v ++ ⟨#[32]⟩ ++ z) hW.out tab (ts := [⟨1, 0, bts u⟩, ⟨3, 0, bts t⟩]) (by simp) (by rw [e]; exact case_cut hu.out.1 hu.out.2.1 hu.out.2.2 hs.out (by rw [← size_bytes]; exact ht))
    refine this.mono fun e W' ⟨ao, cap, h1, h2, h3⟩ => ?_
    rcases h3.out.2.2.2 with h | ⟨b, off, rfl, _, _⟩
    · cases h
    · exact ⟨b, off, cap, h1, h3.out.1, h2.out, h3.out.2⟩
  have HB : Hid (∀ (u v t z : ByteArray) (W : World) (aq : Option Addr) (cq : Nat) (W0 : World), Hid (isWord (bts u) = true ∧ (bts v).map low = bts u ∧ ∀ c ∈ bts v, wordy c = true) → t.size ≤ 10 → Hid (signs (bts t) = true) → Hid (bts z = joined [⟨3, 0, bts t⟩]) → Hid (Below w.heap.size w W ∧ Below W0.heap.size W0 W ∧ Toks W aq cq [⟨1, 0, bts u⟩, ⟨3, 0, bts t⟩]) → Calls Tryd.prog 11 #[.string (v ++ ⟨#[32]⟩ ++ z)] W fun e W' => ∃ b off cap, e = .returned (.tuple #[.slice (some ⟨b, off, none⟩) 2 cap, .int .i64 0, .int .i64 0]) ∧ Hid (Below w.heap.size w W' ∧ Toks W' aq cq [⟨1, 0, bts u⟩, ⟨3, 0, bts t⟩] ∧ Toks W' (some ⟨b, off, none⟩) cap [⟨1, 0, bts u⟩, ⟨3, 0, bts t⟩])) := by
    intro u v t z W aq cq W0 hu ht hs hz hW
    exact (HA.out u v t z W hu ht hs hz hW.out.1).mono fun e W' ⟨b, off, cap, h1, h2⟩ => ⟨b, off, cap, h1, h2.out.1, hW.out.2.2.later h2.out.2.1, h2.out.2.2⟩
  have HS : Hid (∀ (u t : ByteArray) (W : World) (b off cq : Nat) (ar : Option Addr) (cr : Nat), Hid (Below w.heap.size w W ∧ Toks W (some ⟨b, off, none⟩) cq [⟨1, 0, bts u⟩, ⟨3, 0, bts t⟩] ∧ Toks W ar cr [⟨1, 0, bts u⟩, ⟨3, 0, bts t⟩]) → Calls Tryd.prog 17 #[.slice (some ⟨b, off, none⟩) 2 cq, .slice ar 2 cr] W fun e W' => e = .returned (.bool true) ∧ Hid (Below w.heap.size w W') ∧ W'.cell? ⟨b, off, none⟩ = some (.int .i64 1) ∧ W'.cell? ⟨b, off + 1, none⟩ = some (.int .i64 0) ∧ W'.cell? ⟨b, off + 2, none⟩ = some (.string u) ∧ W'.cell? ⟨b, off + 3, none⟩ = some (.int .i64 3) ∧ W'.cell? ⟨b, off + 4, none⟩ = some (.int .i64 0) ∧ W'.cell? ⟨b, off + 5, none⟩ = some (.string t)) := by
    intro u t W b off cq ar cr hW
    have := sameTokens_same (some ⟨b, off, none⟩) ar cq cr [⟨1, 0, bts u⟩, ⟨3, 0, bts t⟩] (by simp) W hW.out.2.1 hW.out.2.2
    refine this.mono fun e W' ⟨h1, h2⟩ => ⟨h1, hW.out.1.trans (h2.mono hW.out.1.size), ?_⟩
    have hT := hW.out.2.1.later h2
    rcases hT.2.2 with h | ⟨b', off', h3, _, h4⟩
    · cases h
    · cases h3
      have c0 := h4 0 (by simp)
      have c1 := h4 1 (by simp)
      simp only [List.getElem_cons_zero, List.getElem_cons_succ, str_bts, Nat.zero_mul, Nat.one_mul, Nat.add_zero] at c0 c1
      exact ⟨c0.1, c0.2.1, c0.2.2, c1.1, c1.2.1, c1.2.2⟩
  clear tab
  go_enter Tryd.func8, Tryd.ntmps8
  go_wp2_with (go_at_call 19; with_reducible refine cW.mono ?_; rintro e w2 ⟨u, rfl, hu, HU, b1⟩)
  clear cW
  go_loopw [6, 7] (fun v x wr => ∃ (k : Nat) (q : ByteArray), k ≤ u.size ∧ v = .string q ∧ x = .int .i64 (k : Int) ∧ q.size = k ∧ Hid (Below w.heap.size w wr) ∧ Hid (bts q = ((bts u).take k).map up)) (fun _ x _ => u.size - (intOf x).toNat)
  case atStart => exact ⟨0, ⟨#[]⟩, by omega, rfl, rfl, rfl, b1, rfl⟩
  case round =>
    obtain ⟨k, q, hk, rfl, rfl, hq, b2, HQ⟩ := hrel
    by_cases hlt : k < u.size
    · clear HA HB HC HS HJ
      have hlt1 : (k : Int) < (u.size : Int) := by omega
      have hl : k < (bts u).length := by rw [← size_bytes]; exact hlt
      obtain ⟨x, hx⟩ : ∃ x, (u[k]'hlt).toNat = x := ⟨_, rfl⟩
      have hx3 : x < 256 := by rw [← hx]; exact (u[k]'hlt).toNat_lt
      have hwd := up_ok (HU.out.2.2 (u[k]'hlt) (List.getElem_mem (l := bts u) hl))
      obtain ⟨r, hr⟩ : ∃ r, Utf8.encode (((up (u[k]'hlt)).toNat : Nat) : Int) = r := ⟨_, rfl⟩
      have hrb : bts r = [up (u[k]'hlt)] := by
        have := enc.out ⟨(up (u[k]'hlt)).toNat, hwd.2.2⟩
        simp only [UInt8.ofNat_toNat] at this
        rw [← hr]
        exact this
      have hrs : r.size = 1 := by rw [size_bytes, hrb]; rfl
      have R : Hid (bts (q ++ r) = ((bts u).take (k + 1)).map up) := by
        have e : (bts u)[k] = u[k]'hlt := rfl
        have : bts (q ++ r) = ((bts u).take (k + 1)).map up := by
          rw [bts_append, HQ.out, hrb, List.take_succ_eq_append_getElem hl, List.map_append, e]
          rfl
        exact this
      clear hrb enc HQ hwd
      by_cases hs : 97 ≤ x ∧ x ≤ 122
      · have h97 : (97 : Int) ≤ (x : Int) := by omega
        have h122 : (x : Int) ≤ 122 := by omega
        have hE : Utf8.encode ((x : Int) - 32) = r := by
          rw [← hr]
          refine congrArg Utf8.encode ?_
          unfold up
          rw [hx, if_pos hs, UInt8.toNat_sub_of_le _ _ (by rw [UInt8.le_iff_toNat_le, hx]; exact Nat.le_trans (by decide) hs.1), hx]
          show (x : Int) - 32 = ((x - 32 : Nat) : Int)
          omega
        clear hr
        go_wp2
        go_roundw
        case rel => exact ⟨k + 1, q ++ r, by omega, rfl, by go_num, by rw [ByteArray.size_append, hrs, hq], b2, R⟩
        case measure => simp [intOf]; omega
      · have hE : Utf8.encode (x : Int) = r := by
          rw [← hr]
          refine congrArg Utf8.encode ?_
          unfold up
          rw [hx, if_neg hs, hx]
        clear hr
        rcases (show ¬ (97 : Int) ≤ (x : Int) ∨ ((97 : Int) ≤ (x : Int) ∧ ¬ (x : Int) ≤ 122) by omega) with h1 | ⟨h1, h2⟩
        all_goals
          clear hs
          go_wp2
          go_roundw
          case rel => exact ⟨k + 1, q ++ r, by omega, rfl, by go_num, by rw [ByteArray.size_append, hrs, hq], b2, R⟩
          case measure => simp [intOf]; omega
    · have hlt1 : ¬ (k : Int) < (u.size : Int) := by omega
      have hku : k = (bts u).length := by rw [← size_bytes]; omega
      have HQ2 : bts q = (bts u).map up := by
        rw [HQ.out, hku, List.take_length]
      have HW1 : Hid (isWord (bts u) = true ∧ (bts u).map low = bts u ∧ ∀ c ∈ bts u, wordy c = true) := ⟨HU.out.isWord (by rw [← size_bytes]; exact hu), map_low HU.out.2.2, fun c hc => wordly_wordy (HU.out.2.2 c hc)⟩
      have HW2 : Hid (isWord (bts u) = true ∧ (bts q).map low = bts u ∧ ∀ c ∈ bts q, wordy c = true) := by
        refine ⟨HW1.out.1, by rw [HQ2]; exact low_up HU.out.2.2, ?_⟩
        rw [HQ2]
        intro c hc
        obtain ⟨d, hd, rfl⟩ := List.mem_map.1 hc
        exact (up_ok (HU.out.2.2 d hd)).2.1
      have hq12 : q.size ≤ 12 := by omega
      clear HQ2 HQ HU enc hku hq
      go_wp2_with (first
        | (go_at_call 20; with_reducible refine (HC.out _ b2).mono ?_; rintro e w3 ⟨t, rfl, ht, HT, b3⟩)
        | (go_at_call 14; with_reducible refine (HJ.out t _ _ ht HT b3).mono ?_; rintro e w4 ⟨z, rfl, hz, HZ, b4⟩)
        | (go_at_call 11; with_reducible refine (HA.out u _ t z _ HW1 ht HT HZ b4).mono ?_; rintro e w5 ⟨b, off, cap5, rfl, b5⟩)
        | (go_at_call 11; with_reducible refine (HB.out u _ t z _ _ _ _ HW2 ht HT HZ b5).mono ?_; rintro e w6 ⟨b', off', cap6, rfl, b6⟩)
        | (go_at_call 17; with_reducible refine (HS.out u t _ _ _ _ _ _ b6).mono ?_; rintro e w7 ⟨rfl, b7, c0, c1, c2, c3, c4, c5⟩))
      go_ret
      exact ⟨rfl, b7.out⟩

/-! ### THE ROW's STEP: WRITTEN OUT: LEAVE IT -/
set_option maxRecDepth 100000 in
theorem lifted (os : Os) (started : os.Started) (H : Type) (enc : TypeId × Value → H) :
    ReturnsInHanded {} Tryd.checked os 8 .any (fun w args => (Rows.lexCaseSpec.pre enc Tryd.prog Tryd.f8 [] false w args ∧ laidMetH Tryd.prog [("math/bits.deBruijn32tab", Rows.laid_math_bits_deBruijn32tab), ("math/bits.deBruijn64tab", Rows.laid_math_bits_deBruijn64tab), ("internal/strconv.uint64pow10", Rows.laid_internal_strconv_uint64pow10), ("unicode/utf8.acceptRanges", Rows.laid_unicode_utf8_acceptRanges), ("strconv.ErrRange", Rows.laid_strconv_ErrRange), ("strconv.ErrSyntax", Rows.laid_strconv_ErrSyntax), ("commonhold/lex.marks", Rows.laid_commonhold_lex_marks), ("unicode/utf8.first", Rows.laid_unicode_utf8_first)] w) ∧ sizedMet enc Tryd.prog Tryd.f8 (OpenSpec.ofChange Rows.lexCaseSpec) false w args) (Rows.lexCaseSpec.post enc Tryd.prog Tryd.f8 false true false false) := by
  refine handed_shaped (C := Tryd.checked) (X := fun w _ => laidMetH Tryd.prog [("math/bits.deBruijn32tab", Rows.laid_math_bits_deBruijn32tab), ("math/bits.deBruijn64tab", Rows.laid_math_bits_deBruijn64tab), ("internal/strconv.uint64pow10", Rows.laid_internal_strconv_uint64pow10), ("unicode/utf8.acceptRanges", Rows.laid_unicode_utf8_acceptRanges), ("strconv.ErrRange", Rows.laid_strconv_ErrRange), ("strconv.ErrSyntax", Rows.laid_strconv_ErrSyntax), ("commonhold/lex.marks", Rows.laid_commonhold_lex_marks), ("unicode/utf8.first", Rows.laid_unicode_utf8_first)] w) (fun _ _ _ hh h => h.of_heap hh) own started (by kernel_rfl) Tryd.func8
    (ChangeSpec.witness_shaped (enc := enc) (C := Tryd.checked) (os := os) (X := fun w _ => laidMetH Tryd.prog [("math/bits.deBruijn32tab", Rows.laid_math_bits_deBruijn32tab), ("math/bits.deBruijn64tab", Rows.laid_math_bits_deBruijn64tab), ("internal/strconv.uint64pow10", Rows.laid_internal_strconv_uint64pow10), ("unicode/utf8.acceptRanges", Rows.laid_unicode_utf8_acceptRanges), ("strconv.ErrRange", Rows.laid_strconv_ErrRange), ("strconv.ErrSyntax", Rows.laid_strconv_ErrSyntax), ("commonhold/lex.marks", Rows.laid_commonhold_lex_marks), ("unicode/utf8.first", Rows.laid_unicode_utf8_first)] w) false (pinLaid 77 os) #[.string ByteArray.empty, .string ByteArray.empty] 8 rfl (World.shaped_of_RefB (by kernel_rfl) (by kernel_rfl)) (by kernel_rfl) (by kernel_rfl) (by kernel_rfl) (laidMetH_of_parts3 (fuel := 8) (laidMet_of_run' 8 (by kernel_rfl) (by kernel_rfl)) (by kernel_rfl) (by kernel_rfl))) ?_
  intro W base args ds gs before hval0 hW hcnd _ hL hSh
  have hval : ∀ (j : Nat) t v, Tryd.f8.params[j]? = some t → args[j]? = some v → Value.okWide Tryd.prog W .any base t v := hval0
  have hW' := hW
  obtain ⟨p, q, hA0, hV, rfl, hfz, hnd⟩ := hW
  have hA : DataW.TrodAll enc Tryd.prog W 0 (fun _ => true) true Tryd.f8.params.toList args.toList ds p := hA0
  rw [Tryd.params8] at hA hval
  obtain ⟨v0, vs0, d0, ds0, p0, q0, hargs, rfl, rfl, h0, r0⟩ := trodAll_cons hA
  obtain ⟨v1, vs1, d1, ds1, p1, q1, rfl, rfl, rfl, h1, r1⟩ := trodAll_cons r0
  obtain ⟨rfl, rfl, rfl⟩ := trodAll_nil r1
  obtain rfl : args = #[v0, v1] := by cases args; simp_all
  obtain ⟨rfl, rfl⟩ := trodVars_none hV
  obtain ⟨a0, rfl, rfl, rfl, w0⟩ := open_string Tryd.underlying9 (hval 0 9 v0 rfl rfl) h0
  obtain ⟨a1, rfl, rfl, rfl, w1⟩ := open_string Tryd.underlying9 (hval 1 9 v1 rfl rfl) h1
  clear hA0 hval0
  simp only [List.append_nil] at hW'
  refine (walk a0 a1 w0 w1 W (lexCase_tabs hL hSh)).mono fun e W' ⟨he, bel⟩ => ?_
  subst he
  exact ⟨_, rfl, _, _, _, [], _, [], hW', trodAll_mk1 (shut_bool Tryd.underlying4 _), (trodAll_cons_mk (shut_string Tryd.underlying9 w0) (trodAll_cons_mk (shut_string Tryd.underlying9 w1) trodAll_mk0)), rfl, bel.frame _, fun h => by cases h⟩

theorem over : Rows.lexCaseRow.holds Tryd.pinned (OpenSpec.ofChange Rows.lexCaseSpec) :=
  OpenClaim.holds_of_wide 8 Tryd.f8 rfl rfl rfl rfl rfl rfl rfl ⟨rfl, rfl, rfl, rfl, rfl⟩ rfl rfl rfl rfl rfl (by kernel_rfl) Tryd.func8 (by kernel_rfl)
    (of_decide_eq_true (by kernel_rfl)) (by unfold Func.isWrapper; first | (rw [if_pos (by decide +kernel)]; kernel_rfl) | (rw [if_neg (by decide +kernel)]; exact ⟨rfl, rfl⟩))
    (fun os started H enc _ => lifted os started H enc)

/-- ████ THE STATEMENT ████ -/
theorem proved : Rows.LexCaseSaid :=
  over
/-- THE CARD: the row with its listed variable tied to the program's text. -/
theorem carded : Rows.LexCaseCardSaid :=
  Claim7.holds_tied_plain_at .later [] [.data, .data, .data, .data, .sentinel, .sentinel, .data, .pinned] true (true, "830fa781412c04ff2ac1b92954af91001f2c6b31437abcb73ef15b84613ef267") true
    proved (fun _ h => by cases h) (by kernel_rfl) (fun _ h => by cases h) lexCase_row_tie rfl ⟨rfl, rfl⟩ (by kernel_rfl) rfl
    (fun f fn hf hfn => by
      obtain rfl : f = 8 := Option.some.inj ((show Tryd.prog.funcNamed "commonhold/commonholdkeep.LexCase" = some 8 by kernel_rfl).symm.trans hf) |>.symm
      obtain rfl : fn = Tryd.f8 := (Option.some.inj (Tryd.func8.symm.trans hfn)).symm
      exact ⟨by kernel_rfl, fun j t ht => by
        rw [Tryd.params8] at ht
        rcases j with _ | _ | j
        all_goals first | (simp at ht; done) | (simp at ht; subst ht; kernel_rfl)⟩)
    (by kernel_rfl)
end Go.Proofs.YtogkghifpocgmaaDoor.lexCase
namespace Go.Proofs.YtogkghifpocgmaaDoor
theorem lexCase_holds : Rows.LexCaseCardSaid := lexCase.carded
end Go.Proofs.YtogkghifpocgmaaDoor
