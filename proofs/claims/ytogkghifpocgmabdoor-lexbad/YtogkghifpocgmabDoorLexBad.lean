/- Behind joined tokens the first byte that begins nothing is told, at its place. -/
import Derived.Test.YtogkghifpocgmabDoorRows
import Derived.Test.YtogkghifpocgmabDoorBadLaid
import Derived.Test.YtogkghifpocgmabDoorBadTabs
import Derived.Test.YtogkghifpocgmabDoorScrArg
import Derived.Test.YtogkghifpocgmabDoorPicked
import Derived.Test.YtogkghifpocgmabDoorPinLaid
import Derived.WalkKit
import Derived.ProofKit
import Derived.OpenShut
import Derived.ShutString
import Derived.ChangeOld
import Derived.Below
import Derived.LaidMore
import Derived.MakeChecks
import Derived.SevenTiedAt
import Derived.Test.YtogkghifpocgmabDoorCards
import Derived.Test.YtogkghifpocgmabDoorTie
namespace Go.Proofs.YtogkghifpocgmabDoor.lexBad
open Go.ChangeShapes Go.WideShapes Go.ChangeAt Go.RowKit
open Go.ChangeMaps (open_string shut_string)
set_option linter.unusedVariables false

theorem own : ownKnob Tryd.prog.godebug = none := by kernel_rfl
theorem laidOut : laidOutB Tryd.prog = true := by kernel_rfl

/-- WHAT THE WALK IS TOLD OF A SLICE OF INTEGERS THAT CAME IN: it is nil; or it leads to a row of 'cap' cells, the numbers 'zs' (the first 'len' are its elements, the rest its spare room), each fitting its kind. -/
def IsRow (k : IntKind) (w : World) (a : Option Addr) (len cap : Nat) (zs : List Int) : Prop :=
  (a = none ∧ len = 0 ∧ cap = 0 ∧ zs = []) ∨
  ∃ x, a = some x ∧ len ≤ cap ∧ cap ≤ maxLen ∧ zs.length = cap ∧ (∀ i, i < zs.length → w.cell? (x.add i) = some (.int k (zs.getD i 0))) ∧ ∀ n ∈ zs, (Lit.int k n).wf = true

/-! ### STEP 1: THE WALK: the Go text returns true, AND WRITES NOTHING THAT WAS THERE: 'Below w.heap.size w w'' (Derived/Below.lean: '.refl', '.alloc', '.drew', '.setCell' at a new block, '.trans'). Open each 'IsRow' by 'rcases' AHEAD of 'go_enter'; part every test ahead of the walk. -/
set_option maxHeartbeats 8000000 in
theorem walk (a0 : Option Addr) (len0 cap0 : Nat) (z0 : List Tok) (a1 : Int) (w : World) (tab : AllTabs w) (w0 : len0 = z0.length ∧ Scr w a0 cap0 z0 ∧ len0 ≤ 9223372036854775807) (w1 : (Lit.int .i64 a1).wf = true) :
    Calls Tryd.prog 3 #[.slice a0 len0 cap0, .int .i64 a1] w fun e w' => e = .returned (.bool true) ∧ Below w.heap.size w w' := by
  obtain ⟨rfl, hscr, hlen⟩ := w0
  have cT := TokensOf_made a0 cap0 z0 10 (by omega) (Below.refl _ w) hscr
  obtain ⟨m, hm⟩ : ∃ m : Nat, a1 % 15 = (m : Int) := ⟨(a1 % 15).toNat, by omega⟩
  have hm15 : m < 15 := by omega
  have cP := Picked_any a1 15 (by decide) (by decide)
  rw [hm] at cP
  clear hm
  obtain ⟨d, hd⟩ : ∃ d : ByteArray, d = ⟨#[33, 64, 35, 36, 94, 38, 123, 125, 91, 93, 58, 59, 63, 126, 124]⟩ := ⟨_, rfl⟩
  have hds : d.size = 15 := by rw [hd]; rfl
  obtain ⟨y, hy⟩ : ∃ y, d.extract m (m + 1) = y := ⟨_, rfl⟩
  have hbad : ∀ k, k < 15 → one [(bts (⟨#[33, 64, 35, 36, 94, 38, 123, 125, 91, 93, 58, 59, 63, 126, 124]⟩ : ByteArray)).getD k 0, 32, 39] = .bad 4 ∧ gap false [(bts (⟨#[33, 64, 35, 36, 94, 38, 123, 125, 91, 93, 58, 59, 63, 126, 124]⟩ : ByteArray)).getD k 0, 32, 39] = 0 := by
    intro k hk
    rcases (show k = 0 ∨ k = 1 ∨ k = 2 ∨ k = 3 ∨ k = 4 ∨ k = 5 ∨ k = 6 ∨ k = 7 ∨ k = 8 ∨ k = 9 ∨ k = 10 ∨ k = 11 ∨ k = 12 ∨ k = 13 ∨ k = 14 by omega) with rfl | rfl | rfl | rfl | rfl | rfl | rfl | rfl | rfl | rfl | rfl | rfl | rfl | rfl | rfl <;> exact ⟨rfl, rfl⟩
  have hb2 := hbad m hm15
  rw [← hd] at hb2
  have hyb : bts y = [(bts d).getD m 0] := by
    have h : m < (bts d).length := by rw [← size_bytes, hds]; exact hm15
    rw [← hy, bytes_extract, drop_cons h, List.getD_eq_getElem?_getD, List.getElem?_eq_getElem h, show m + 1 - m = 1 by omega]
    rfl
  have hys : y.size = 1 := by rw [size_bytes, hyb]; rfl
  have HA : Hid (∀ (z : ByteArray) (ts : List Tok) (W : World), Hid (bts z = joined ts) → Hid (ts.length ≤ 10 ∧ AllMay ts) → Hid (Below w.heap.size w W) → Calls Tryd.prog 8 #[.string (z ++ ⟨#[32]⟩ ++ y ++ ⟨#[32, 39]⟩)] W fun e W' => ∃ ao cap, e = .returned (.tuple #[.slice ao 0 cap, .int .i64 ((z.size : Int) + 1), .int .i64 4]) ∧ Hid (Below w.heap.size w W')) := by
    intro z ts W hz ht hW
    have e : bts (z ++ ⟨#[32]⟩ ++ y ++ ⟨#[32, 39]⟩) = joined ts ++ 32 :: [(bts d).getD m 0, 32, 39] := by
      rw [bts_append, bts_append, bts_append, hz.out, hyb]
      show joined ts ++ [32] ++ [(bts d).getD m 0] ++ [32, 39] = _
      simp
    have := Cut_refused (z ++ ⟨#[32]⟩ ++ y ++ ⟨#[32, 39]⟩) hW.out tab (by rw [e]; exact cut_bad ht.out.2 (by have := ht.out.1; omega) (by simp) (by simp) hb2.2 hb2.1)
    rw [← hz.out, ← size_bytes] at this
    exact this
  have HB : Hid (∀ (z : ByteArray) (ts : List Tok) (W : World), Hid (bts z = joined ts) → Hid (ts.length ≤ 10 ∧ AllMay ts) → Hid (Below w.heap.size w W) → Calls Tryd.prog 8 #[.string (z ++ ⟨#[32, 39, 97, 39, 39]⟩)] W fun e W' => ∃ ao cap, e = .returned (.tuple #[.slice ao 0 cap, .int .i64 ((z.size : Int) + 1), .int .i64 5]) ∧ Hid (Below w.heap.size w W')) := by
    intro z ts W hz ht hW
    have e : bts (z ++ ⟨#[32, 39, 97, 39, 39]⟩) = joined ts ++ 32 :: [39, 97, 39, 39] := by
      rw [bts_append, hz.out]
      rfl
    have := Cut_refused (z ++ ⟨#[32, 39, 97, 39, 39]⟩) hW.out tab (by rw [e]; exact cut_bad ht.out.2 (by have := ht.out.1; omega) (by simp) (by simp) rfl rfl)
    rw [← hz.out, ← size_bytes] at this
    exact this
  have HJ : Hid (∀ (ts : List Tok) (ao : Option Addr) (cap : Nat) (W : World), Hid (ts.length ≤ 10 ∧ AllMay ts ∧ Toks W ao cap ts) → Hid (Below w.heap.size w W) → Calls Tryd.prog 5 #[.slice ao ts.length cap] W fun e W' => ∃ z : ByteArray, e = .returned (.tuple #[.string z, .int .i64 0]) ∧ z.size ≤ 1992 ∧ Hid (bts z = joined ts) ∧ Hid (ts.length ≤ 10 ∧ AllMay ts) ∧ Hid (Below w.heap.size w W')) := by
    intro ts ao cap W ht hW
    exact (Join_made ao cap ts ht.out.2.1 (by have := ht.out.1; omega) hW.out tab ht.out.2.2).mono fun e W' ⟨z, h1, h2, h3, h4⟩ => ⟨z, h1, h2, h3, ⟨ht.out.1, ht.out.2.1⟩, h4.out.1⟩
  clear tab hscr hb2 hyb hbad
  have hm1 : (m : Int) + 1 ≤ 15 := by omega
  go_enter Tryd.func3, Tryd.ntmps3
  rw [← hd]
  clear hd
  go_wp2_with (first
    | (go_at_call 6; refine cT.mono ?_; rintro e w1 ⟨ts, ao2, cap2, rfl, HT, b1⟩)
    | (go_at_call 5; refine (HJ.out _ _ _ _ HT b1).mono ?_; rintro e w2 ⟨z, rfl, hz, HZ, HM, b2⟩)
    | (go_at_call 7; refine (cP _).mono ?_; rintro e w3 ⟨rfl, rfl⟩)
    | (go_at_call 8; with_reducible refine (HA.out _ ts _ HZ HM b2).mono ?_; rintro e w4 ⟨ao4, cap4, rfl, b4⟩)
    | (go_at_call 8; with_reducible refine (HB.out _ ts _ HZ HM b4).mono ?_; rintro e w5 ⟨ao5, cap5, rfl, b5⟩))
  go_ret
  exact ⟨rfl, b5.out⟩

/-! ### THE ROW's STEP: WRITTEN OUT: LEAVE IT -/
set_option maxRecDepth 100000 in
theorem lifted (os : Os) (started : os.Started) (H : Type) (enc : TypeId × Value → H) :
    ReturnsInHanded {} Tryd.checked os 3 .any (fun w args => (Rows.lexBadSpec.pre enc Tryd.prog Tryd.f3 [] false w args ∧ laidMetH Tryd.prog [("math/bits.deBruijn32tab", Rows.laid_math_bits_deBruijn32tab), ("math/bits.deBruijn64tab", Rows.laid_math_bits_deBruijn64tab), ("internal/strconv.uint64pow10", Rows.laid_internal_strconv_uint64pow10), ("unicode/utf8.acceptRanges", Rows.laid_unicode_utf8_acceptRanges), ("strconv.ErrRange", Rows.laid_strconv_ErrRange), ("strconv.ErrSyntax", Rows.laid_strconv_ErrSyntax), ("commonhold/lex.marks", Rows.laid_commonhold_lex_marks), ("unicode/utf8.first", Rows.laid_unicode_utf8_first)] w) ∧ sizedMet enc Tryd.prog Tryd.f3 (OpenSpec.ofChange Rows.lexBadSpec) false w args) (Rows.lexBadSpec.post enc Tryd.prog Tryd.f3 false true false false) := by
  refine handed_shaped (C := Tryd.checked) (X := fun w _ => laidMetH Tryd.prog [("math/bits.deBruijn32tab", Rows.laid_math_bits_deBruijn32tab), ("math/bits.deBruijn64tab", Rows.laid_math_bits_deBruijn64tab), ("internal/strconv.uint64pow10", Rows.laid_internal_strconv_uint64pow10), ("unicode/utf8.acceptRanges", Rows.laid_unicode_utf8_acceptRanges), ("strconv.ErrRange", Rows.laid_strconv_ErrRange), ("strconv.ErrSyntax", Rows.laid_strconv_ErrSyntax), ("commonhold/lex.marks", Rows.laid_commonhold_lex_marks), ("unicode/utf8.first", Rows.laid_unicode_utf8_first)] w) (fun _ _ _ hh h => h.of_heap hh) own started (by kernel_rfl) Tryd.func3
    (ChangeSpec.witness_shaped (enc := enc) (C := Tryd.checked) (os := os) (X := fun w _ => laidMetH Tryd.prog [("math/bits.deBruijn32tab", Rows.laid_math_bits_deBruijn32tab), ("math/bits.deBruijn64tab", Rows.laid_math_bits_deBruijn64tab), ("internal/strconv.uint64pow10", Rows.laid_internal_strconv_uint64pow10), ("unicode/utf8.acceptRanges", Rows.laid_unicode_utf8_acceptRanges), ("strconv.ErrRange", Rows.laid_strconv_ErrRange), ("strconv.ErrSyntax", Rows.laid_strconv_ErrSyntax), ("commonhold/lex.marks", Rows.laid_commonhold_lex_marks), ("unicode/utf8.first", Rows.laid_unicode_utf8_first)] w) false (pinLaid 77 os) #[.slice none 0 0, .int .i64 0] 8 rfl (World.shaped_of_RefB (by kernel_rfl) (by kernel_rfl)) (by kernel_rfl) (by kernel_rfl) (by kernel_rfl) (laidMetH_of_parts3 (fuel := 8) (laidMet_of_run' 8 (by kernel_rfl) (by kernel_rfl)) (by kernel_rfl) (by kernel_rfl))) ?_
  intro W base args ds gs before hval0 hW hcnd _ hL hSh
  have hval : ∀ (j : Nat) t v, Tryd.f3.params[j]? = some t → args[j]? = some v → Value.okWide Tryd.prog W .any base t v := hval0
  have hW' := hW
  obtain ⟨p, q, hA0, hV, rfl, hfz, hnd⟩ := hW
  have hA : DataW.TrodAll enc Tryd.prog W 0 (fun _ => true) true Tryd.f3.params.toList args.toList ds p := hA0
  rw [Tryd.params3] at hA hval
  obtain ⟨v0, vs0, d0, ds0, p0, q0, hargs, rfl, rfl, h0, r0⟩ := trodAll_cons hA
  obtain ⟨v1, vs1, d1, ds1, p1, q1, rfl, rfl, rfl, h1, r1⟩ := trodAll_cons r0
  obtain ⟨rfl, rfl, rfl⟩ := trodAll_nil r1
  obtain rfl : args = #[v0, v1] := by cases args; simp_all
  obtain ⟨rfl, rfl⟩ := trodVars_none hV
  obtain ⟨a0, len0, cap0, rfl⟩ := okWide_slice Tryd.underlying22 (hval 0 22 v0 rfl rfl)
  have k0 := h0
  have lt0 : ∀ x ∈ p0, x.block < W.heap.size := by obtain ⟨m, hm⟩ := k0; exact DataW.trod_lt m _ _ _ hm
  obtain ⟨z0, w0⟩ : ∃ ls : List Tok, len0 = ls.length ∧ Scr W a0 cap0 ls ∧ len0 ≤ 9223372036854775807 := by
    obtain ⟨fuel, hf⟩ := h0
    exact scr_arg (by simp [Value.cells]) hf
  obtain ⟨a1, rfl, rfl, rfl, w1⟩ := open_int Tryd.underlying3 (hval 1 3 v1 rfl rfl) h1
  clear hA0 hval0
  refine (walk a0 len0 cap0 z0 a1 W (lexBad_tabs hL hSh) w0 w1).mono fun e W' ⟨he, bel⟩ => ?_
  subst he
  exact ⟨_, rfl, _, _, _, [], _, [], hW', trodAll_mk1 (shut_bool Tryd.underlying4 _), (trodAll_cons_mk (Below.trod laidOut (by kernel_rfl) (of_decide_eq_true (by kernel_rfl)) k0 bel lt0) (trodAll_cons_mk (shut_int Tryd.underlying3 w1) trodAll_mk0)), rfl, bel.frame _, fun h => by cases h⟩

theorem over : Rows.lexBadRow.holds Tryd.pinned (OpenSpec.ofChange Rows.lexBadSpec) :=
  OpenClaim.holds_of_wide 3 Tryd.f3 rfl rfl rfl rfl rfl rfl rfl ⟨rfl, rfl, rfl, rfl, rfl⟩ rfl rfl rfl rfl rfl (by kernel_rfl) Tryd.func3 (by kernel_rfl)
    (of_decide_eq_true (by kernel_rfl)) (by unfold Func.isWrapper; first | (rw [if_pos (by decide +kernel)]; kernel_rfl) | (rw [if_neg (by decide +kernel)]; exact ⟨rfl, rfl⟩))
    (fun os started H enc _ => lifted os started H enc)

/-- ████ THE STATEMENT ████ -/
theorem proved : Rows.LexBadSaid := over
/-- THE CARD: the row with its listed variable tied to the program's text. -/
theorem carded : Rows.LexBadCardSaid :=
  Claim7.holds_tied_plain_at .later [] [.data, .data, .data, .data, .sentinel, .sentinel, .data, .pinned] true (true, "023585f1a753c5aa5751f9f1a2cf439316cfa93a99ec2186cceaf6116fadca59") true
    proved (fun _ h => by cases h) (by kernel_rfl) (fun _ h => by cases h) lexBad_row_tie rfl ⟨rfl, rfl⟩ (by kernel_rfl) rfl
    (fun f fn hf hfn => by
      obtain rfl : f = 3 := Option.some.inj ((show Tryd.prog.funcNamed "commonhold/commonholdkeep.LexBad" = some 3 by kernel_rfl).symm.trans hf) |>.symm
      obtain rfl : fn = Tryd.f3 := (Option.some.inj (Tryd.func3.symm.trans hfn)).symm
      exact ⟨by kernel_rfl, fun j t ht => by
        rw [Tryd.params3] at ht
        rcases j with _ | _ | j
        all_goals first | (simp at ht; done) | (simp at ht; subst ht; kernel_rfl)⟩)
    (by kernel_rfl)
end Go.Proofs.YtogkghifpocgmabDoor.lexBad
namespace Go.Proofs.YtogkghifpocgmabDoor
theorem lexBad_holds : Rows.LexBadCardSaid := lexBad.carded
end Go.Proofs.YtogkghifpocgmabDoor
