/- What was joined is cut into the tokens that it was joined from. -/
import Derived.Test.YtogkghifpocgmaaDoorRows
import Derived.Test.YtogkghifpocgmaaDoorBackLaid
import Derived.Test.YtogkghifpocgmaaDoorBadTabs
import Derived.Test.YtogkghifpocgmaaDoorSameToks
import Derived.Test.YtogkghifpocgmaaDoorScrArg
import Derived.Test.YtogkghifpocgmaaDoorPinLaid
import Derived.Test.YtogkghifpocgmaaDoorLexMay
import Derived.WalkKit
import Derived.ProofKit
import Derived.OpenShut
import Derived.ShutString
import Derived.ChangeOld
import Derived.Below
import Derived.LaidMore
import Derived.MakeChecks
import Derived.SevenTiedAt
import Derived.Test.YtogkghifpocgmaaDoorCards
import Derived.Test.YtogkghifpocgmaaDoorTie
namespace Go.Proofs.YtogkghifpocgmaaDoor.lexBack
open Go.ChangeShapes Go.WideShapes Go.ChangeAt Go.RowKit
open Go.ChangeMaps (open_string shut_string)
set_option linter.unusedVariables false

theorem own : ownKnob Tryd.prog.godebug = none := by kernel_rfl
theorem laidOut : laidOutB Tryd.prog = true := by kernel_rfl

/-- WHAT THE WALK IS TOLD OF A SLICE OF INTEGERS THAT CAME IN: it is nil; or it leads to a row of 'cap' cells, the numbers 'zs' (the first 'len' are its elements, the rest its spare room), each fitting its kind. -/
def IsRow (k : IntKind) (w : World) (a : Option Addr) (len cap : Nat) (zs : List Int) : Prop :=
  (a = none ∧ len = 0 ∧ cap = 0 ∧ zs = []) ∨
  ∃ x, a = some x ∧ len ≤ cap ∧ cap ≤ maxLen ∧ zs.length = cap ∧ (∀ i, i < zs.length → w.cell? (x.add i) = some (.int k (zs.getD i 0))) ∧ ∀ n ∈ zs, (Lit.int k n).wf = true

/-! ### STEP 1: THE WALK: the Go text returns true, AND WRITES NOTHING THAT WAS THERE: 'Below w.heap.size w w'' (Derived/Below.lean: '.refl', '.alloc', '.drew', '.setCell' at a new block, '.trans'). Open each 'IsRow' by 'rcases' AHEAD of 'go_enter'; part every test ahead of the walk. -/
set_option maxHeartbeats 8000000 in
theorem walk (a0 : Option Addr) (len0 cap0 : Nat) (z0 : List Tok) (w : World) (tab : AllTabs w) (w0 : len0 = z0.length ∧ Scr w a0 cap0 z0 ∧ len0 ≤ 9223372036854775807) :
    Calls Tryd.prog 6 #[.slice a0 len0 cap0] w fun e w' => e = .returned (.bool true) ∧ Below w.heap.size w w' := by
  obtain ⟨rfl, hscr, hlen⟩ := w0
  have cT := TokensOf_made a0 cap0 z0 24 (by omega) (Below.refl _ w) hscr
  have HTab := hidden tab
  clear tab hscr
  go_enter Tryd.func6, Tryd.ntmps6
  go_wp2_with (go_at_call 16; refine cT.mono ?_; rintro e w1 ⟨ts, ao2, cap2, rfl, HT, b1⟩)
  obtain ⟨n, hn⟩ : ∃ n, ts.length = n := ⟨_, rfl⟩
  have HN := hidden hn
  have hn24 : n ≤ 24 := by rw [← hn]; exact HT.out.1
  rw [hn]
  clear hn cT
  go_loopw [4] (fun x wr => ∃ k : Nat, k ≤ n ∧ x = .int .i64 (k : Int) ∧ Hid (Below w1.heap.size w1 wr)) (fun x _ => n - (intOf x).toNat)
  case atStart => exact ⟨0, Nat.zero_le _, rfl, Below.refl _ _⟩
  case round =>
    obtain ⟨k, hk, rfl, HB⟩ := hrel
    have bw : Hid (Below w.heap.size w wr) := b1.out.trans (HB.out.mono b1.out.size)
    have HTw : Hid (Toks wr ao2 cap2 ts) := HT.out.2.2.later HB.out
    by_cases hlt : k < n
    · have hlt1 : (k : Int) < (n : Int) := by omega
      have hlt2 : k < ts.length := by rw [HN.out]; exact hlt
      obtain ⟨b, off, rfl, hbw, hcell⟩ : ∃ b off, ao2 = some ⟨b, off, none⟩ ∧ b < wr.heap.size ∧ ∀ i (hi : i < ts.length), wr.cell? ⟨b, off + i * 3, none⟩ = some (.int .i64 ts[i].kind) ∧ wr.cell? ⟨b, off + i * 3 + 1, none⟩ = some (.int .i64 ts[i].int) ∧ wr.cell? ⟨b, off + i * 3 + 2, none⟩ = some (.string (str ts[i].text)) := by
        rcases HTw.out.2.2 with h | h
        · rw [h] at hlt2
          cases hlt2
        · exact h
      obtain ⟨c0, c1, c2⟩ := hcell k hlt2
      have hmay := (HT.out.2.1 ts[k] (List.getElem_mem _)).1
      have tb := (HTab.out.later bw.out).join
      have cM := May_any ts[k].kind ts[k].int (str ts[k].text) wr tb.marks tb.u8
      rw [bts_str, show (⟨ts[k].kind, ts[k].int, ts[k].text⟩ : Tok) = ts[k] from rfl, hmay] at cM
      clear hcell hmay tb
      generalize ts[k] = t at c0 c1 c2 cM
      go_wp2_with (go_at_call 9; refine cM.mono ?_; rintro e w2 ⟨rfl, hb2⟩)
      go_roundw
      case rel => exact ⟨k + 1, by omega, by go_num, HB.out.trans (hb2.mono HB.out.size)⟩
      case measure => simp [intOf]; omega
    · have hlt1 : ¬ (k : Int) < (n : Int) := by omega
      have HJ := hidden (Join_made ao2 cap2 ts HT.out.2.1 (by rw [HN.out]; exact hn24) bw.out HTab.out HTw.out)
      rw [HN.out] at HJ
      have HC : Hid (∀ (z : ByteArray) (W : World), Hid (bts z = joined ts) → Hid (Below w.heap.size w W ∧ Toks W ao2 cap2 ts) → Calls Tryd.prog 11 #[.string z] W fun e W' => ∃ ao cap, e = .returned (.tuple #[.slice ao n cap, .int .i64 0, .int .i64 0]) ∧ Hid (Below w.heap.size w W' ∧ Toks W' ao2 cap2 ts ∧ Toks W' ao cap ts)) := by
        intro z W hz hW
        have := Cut_tokens z hW.out.1 HTab.out (fun t ht => (HT.out.2.1 t ht).2) (by rw [hz.out]; exact back_cut HT.out.2.1 HT.out.1)
        rw [HN.out] at this
        exact this.mono fun e W' ⟨ao, cap, h1, h2, h3⟩ => ⟨ao, cap, h1, h3.out.1, hW.out.2.later h2.out, h3.out.2⟩
      have HS : Hid (∀ (W : World) ao cap, Hid (Below w.heap.size w W ∧ Toks W ao2 cap2 ts ∧ Toks W ao cap ts) → Calls Tryd.prog 17 #[.slice ao n cap, .slice ao2 n cap2] W fun e W' => e = .returned (.bool true) ∧ Hid (Below w.heap.size w W')) := by
        intro W ao cap hW
        have := sameTokens_same ao ao2 cap cap2 ts (by rw [HN.out]; omega) W hW.out.2.2 hW.out.2.1
        rw [HN.out] at this
        exact this.mono fun e W' ⟨h1, h2⟩ => ⟨h1, hW.out.1.trans (h2.mono hW.out.1.size)⟩
      have HM : Hid (∀ W : World, Hid (Below w.heap.size w W) → Calls Tryd.prog 9 #[.agg #[.int .i64 4, .int .i64 0, .string ⟨#[60, 62]⟩]] W fun e W' => e = .returned (.bool true) ∧ Below w.heap.size w W') := by
        intro W hW
        have tb := (HTab.out.later hW.out).join
        have := May_any 4 0 ⟨#[60, 62]⟩ W tb.marks tb.u8
        rw [show may ⟨4, 0, bts ⟨#[60, 62]⟩⟩ = true by decide] at this
        exact this.mono fun e W' ⟨h1, h2⟩ => ⟨h1, hW.out.trans (h2.mono hW.out.size)⟩
      clear HTw HB bw HT HTab
      go_wp2_with (first
        | (go_at_call 14; refine HJ.out.mono ?_; rintro e w2 ⟨z, rfl, hz, HZ, b2⟩)
        | (go_at_call 11; refine (HC.out _ _ HZ b2).mono ?_; rintro e w3 ⟨ao, cap, rfl, b3⟩)
        | (go_at_call 17; refine (HS.out _ _ _ b3).mono ?_; rintro e w4 ⟨rfl, b4⟩)
        | (go_at_call 9; refine (HM.out _ b4).mono ?_; rintro e w5 ⟨rfl, b5⟩))
      go_ret
      exact ⟨rfl, b5⟩

/-! ### THE ROW's STEP: WRITTEN OUT: LEAVE IT -/
set_option maxRecDepth 100000 in
theorem lifted (os : Os) (started : os.Started) (H : Type) (enc : TypeId × Value → H) :
    ReturnsInHanded {} Tryd.checked os 6 .any (fun w args => (Rows.lexBackSpec.pre enc Tryd.prog Tryd.f6 [] false w args ∧ laidMetH Tryd.prog [("math/bits.deBruijn32tab", Rows.laid_math_bits_deBruijn32tab), ("math/bits.deBruijn64tab", Rows.laid_math_bits_deBruijn64tab), ("internal/strconv.uint64pow10", Rows.laid_internal_strconv_uint64pow10), ("unicode/utf8.acceptRanges", Rows.laid_unicode_utf8_acceptRanges), ("strconv.ErrRange", Rows.laid_strconv_ErrRange), ("strconv.ErrSyntax", Rows.laid_strconv_ErrSyntax), ("commonhold/lex.marks", Rows.laid_commonhold_lex_marks), ("unicode/utf8.first", Rows.laid_unicode_utf8_first)] w) ∧ sizedMet enc Tryd.prog Tryd.f6 (OpenSpec.ofChange Rows.lexBackSpec) false w args) (Rows.lexBackSpec.post enc Tryd.prog Tryd.f6 false true false false) := by
  refine handed_shaped (C := Tryd.checked) (X := fun w _ => laidMetH Tryd.prog [("math/bits.deBruijn32tab", Rows.laid_math_bits_deBruijn32tab), ("math/bits.deBruijn64tab", Rows.laid_math_bits_deBruijn64tab), ("internal/strconv.uint64pow10", Rows.laid_internal_strconv_uint64pow10), ("unicode/utf8.acceptRanges", Rows.laid_unicode_utf8_acceptRanges), ("strconv.ErrRange", Rows.laid_strconv_ErrRange), ("strconv.ErrSyntax", Rows.laid_strconv_ErrSyntax), ("commonhold/lex.marks", Rows.laid_commonhold_lex_marks), ("unicode/utf8.first", Rows.laid_unicode_utf8_first)] w) (fun _ _ _ hh h => h.of_heap hh) own started (by kernel_rfl) Tryd.func6
    (ChangeSpec.witness_shaped (enc := enc) (C := Tryd.checked) (os := os) (X := fun w _ => laidMetH Tryd.prog [("math/bits.deBruijn32tab", Rows.laid_math_bits_deBruijn32tab), ("math/bits.deBruijn64tab", Rows.laid_math_bits_deBruijn64tab), ("internal/strconv.uint64pow10", Rows.laid_internal_strconv_uint64pow10), ("unicode/utf8.acceptRanges", Rows.laid_unicode_utf8_acceptRanges), ("strconv.ErrRange", Rows.laid_strconv_ErrRange), ("strconv.ErrSyntax", Rows.laid_strconv_ErrSyntax), ("commonhold/lex.marks", Rows.laid_commonhold_lex_marks), ("unicode/utf8.first", Rows.laid_unicode_utf8_first)] w) false (pinLaid 77 os) #[.slice none 0 0] 8 rfl (World.shaped_of_RefB (by kernel_rfl) (by kernel_rfl)) (by kernel_rfl) (by kernel_rfl) (by kernel_rfl) (laidMetH_of_parts3 (fuel := 8) (laidMet_of_run' 8 (by kernel_rfl) (by kernel_rfl)) (by kernel_rfl) (by kernel_rfl))) ?_
  intro W base args ds gs before hval0 hW hcnd _ hL hSh
  have hval : ∀ (j : Nat) t v, Tryd.f6.params[j]? = some t → args[j]? = some v → Value.okWide Tryd.prog W .any base t v := hval0
  have hW' := hW
  obtain ⟨p, q, hA0, hV, rfl, hfz, hnd⟩ := hW
  have hA : DataW.TrodAll enc Tryd.prog W 0 (fun _ => true) true Tryd.f6.params.toList args.toList ds p := hA0
  rw [Tryd.params6] at hA hval
  obtain ⟨v0, vs0, d0, ds0, p0, q0, hargs, rfl, rfl, h0, r0⟩ := trodAll_cons hA
  obtain ⟨rfl, rfl, rfl⟩ := trodAll_nil r0
  obtain rfl : args = #[v0] := by cases args; simp_all
  obtain ⟨rfl, rfl⟩ := trodVars_none hV
  obtain ⟨a0, len0, cap0, rfl⟩ := okWide_slice Tryd.underlying34 (hval 0 34 v0 rfl rfl)
  have k0 := h0
  have lt0 : ∀ x ∈ p0, x.block < W.heap.size := by obtain ⟨m, hm⟩ := k0; exact DataW.trod_lt m _ _ _ hm
  obtain ⟨z0, w0⟩ : ∃ ls : List Tok, len0 = ls.length ∧ Scr W a0 cap0 ls ∧ len0 ≤ 9223372036854775807 := by
    obtain ⟨fuel, hf⟩ := h0
    exact scr_arg (by simp [Value.cells]) hf
  clear hA0 hval0
  refine (walk a0 len0 cap0 z0 W (lexBack_tabs hL hSh) w0).mono fun e W' ⟨he, bel⟩ => ?_
  subst he
  exact ⟨_, rfl, _, _, _, [], _, [], hW', trodAll_mk1 (shut_bool Tryd.underlying4 _), (trodAll_cons_mk (Below.trod laidOut (by kernel_rfl) (of_decide_eq_true (by kernel_rfl)) k0 bel lt0) trodAll_mk0), rfl, bel.frame _, fun h => by cases h⟩

theorem over : Rows.lexBackRow.holds Tryd.pinned (OpenSpec.ofChange Rows.lexBackSpec) :=
  OpenClaim.holds_of_wide 6 Tryd.f6 rfl rfl rfl rfl rfl rfl rfl ⟨rfl, rfl, rfl, rfl, rfl⟩ rfl rfl rfl rfl rfl (by kernel_rfl) Tryd.func6 (by kernel_rfl)
    (of_decide_eq_true (by kernel_rfl)) (by unfold Func.isWrapper; first | (rw [if_pos (by decide +kernel)]; kernel_rfl) | (rw [if_neg (by decide +kernel)]; exact ⟨rfl, rfl⟩))
    (fun os started H enc _ => lifted os started H enc)

/-- ████ THE STATEMENT ████ -/
theorem proved : Rows.LexBackSaid := over
/-- THE CARD: the row with its listed variable tied to the program's text. -/
theorem carded : Rows.LexBackCardSaid :=
  Claim7.holds_tied_plain_at .later [] [.data, .data, .data, .data, .sentinel, .sentinel, .data, .pinned] true (true, "830fa781412c04ff2ac1b92954af91001f2c6b31437abcb73ef15b84613ef267") true
    proved (fun _ h => by cases h) (by kernel_rfl) (fun _ h => by cases h) lexBack_row_tie rfl ⟨rfl, rfl⟩ (by kernel_rfl) rfl
    (fun f fn hf hfn => by
      obtain rfl : f = 6 := Option.some.inj ((show Tryd.prog.funcNamed "commonhold/commonholdkeep.LexBack" = some 6 by kernel_rfl).symm.trans hf) |>.symm
      obtain rfl : fn = Tryd.f6 := (Option.some.inj (Tryd.func6.symm.trans hfn)).symm
      exact ⟨by kernel_rfl, fun j t ht => by
        rw [Tryd.params6] at ht
        rcases j with _ | j
        all_goals first | (simp at ht; done) | (simp at ht; subst ht; kernel_rfl)⟩)
    (by kernel_rfl)
end Go.Proofs.YtogkghifpocgmaaDoor.lexBack
namespace Go.Proofs.YtogkghifpocgmaaDoor
theorem lexBack_holds : Rows.LexBackCardSaid := lexBack.carded
end Go.Proofs.YtogkghifpocgmaaDoor
