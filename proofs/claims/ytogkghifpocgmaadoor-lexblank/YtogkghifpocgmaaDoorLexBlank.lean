/- Blanks and remarks between tokens do not matter. -/
import Derived.Test.YtogkghifpocgmaaDoorRows
import Derived.Test.YtogkghifpocgmaaDoorBlankLaid
import Derived.Test.YtogkghifpocgmaaDoorBadTabs
import Derived.Test.YtogkghifpocgmaaDoorLexBlankPlain
import Derived.Test.YtogkghifpocgmaaDoorSameToks
import Derived.Test.YtogkghifpocgmaaDoorScrArg
import Derived.Test.YtogkghifpocgmaaDoorPicked
import Derived.Test.YtogkghifpocgmaaDoorPinLaid
import Derived.WalkKit
import Derived.ProofKit
import Derived.OpenShut
import Derived.ShutString
import Derived.ChangeOld
import Derived.Below
import Derived.LaidMore
import Derived.MakeChecks
import Derived.SevenTiedAt
import Derived.Test.YtogkghifpocgmaaDoorCards
import Derived.Test.YtogkghifpocgmaaDoorTie
namespace Go.Proofs.YtogkghifpocgmaaDoor.lexBlank
open Go.ChangeShapes Go.WideShapes Go.ChangeAt Go.RowKit
open Go.ChangeMaps (open_string shut_string)
set_option linter.unusedVariables false

theorem own : ownKnob Tryd.prog.godebug = none := by kernel_rfl
theorem laidOut : laidOutB Tryd.prog = true := by kernel_rfl

/-- WHAT THE WALK IS TOLD OF A SLICE OF INTEGERS THAT CAME IN: it is nil; or it leads to a row of 'cap' cells, the numbers 'zs' (the first 'len' are its elements, the rest its spare room), each fitting its kind. -/
def IsRow (k : IntKind) (w : World) (a : Option Addr) (len cap : Nat) (zs : List Int) : Prop :=
  (a = none ∧ len = 0 ∧ cap = 0 ∧ zs = []) ∨
  ∃ x, a = some x ∧ len ≤ cap ∧ cap ≤ maxLen ∧ zs.length = cap ∧ (∀ i, i < zs.length → w.cell? (x.add i) = some (.int k (zs.getD i 0))) ∧ ∀ n ∈ zs, (Lit.int k n).wf = true

/-! ### STEP 1: THE WALK: the Go text returns true, AND WRITES NOTHING THAT WAS THERE: 'Below w.heap.size w w'' (Derived/Below.lean: '.refl', '.alloc', '.drew', '.setCell' at a new block, '.trans'). Open each 'IsRow' by 'rcases' AHEAD of 'go_enter'; part every test ahead of the walk. -/
set_option maxHeartbeats 8000000 in
theorem walk (a0 : Option Addr) (len0 cap0 : Nat) (z0 : List Tok) (a1 : Option Addr) (len1 cap1 : Nat) (z1 : List Tok) (a2 : ByteArray) (a3 : Int) (w : World) (tab : AllTabs w) (w0 : len0 = z0.length ∧ Scr w a0 cap0 z0 ∧ len0 ≤ 9223372036854775807) (w1 : len1 = z1.length ∧ Scr w a1 cap1 z1 ∧ len1 ≤ 9223372036854775807) (w2 : a2.size ≤ maxLen) (w3 : (Lit.int .i64 a3).wf = true) :
    Calls Tryd.prog 7 #[.slice a0 len0 cap0, .slice a1 len1 cap1, .string a2, .int .i64 a3] w fun e w' => e = .returned (.bool true) ∧ Below w.heap.size w w' := by
  obtain ⟨rfl, hscr0, hlen0⟩ := w0
  obtain ⟨rfl, hscr1, hlen1⟩ := w1
  have hs2 : a2.size ≤ 9223372036854775807 := by have h := w2; unfold maxLen at h; exact h
  have cT : Calls Tryd.prog 16 #[.slice a0 z0.length cap0, .int .i64 10] w fun e W' => ∃ ts ao2 cap2, e = .returned (.slice ao2 ts.length cap2) ∧ Hid (ts.length ≤ 10 ∧ AllMay ts ∧ Toks W' ao2 cap2 ts) ∧ Hid (Below w.heap.size w W') := TokensOf_made a0 cap0 z0 10 (by omega) (Below.refl _ w) hscr0
  have HU : Hid (∀ W : World, Hid (Below w.heap.size w W) → Calls Tryd.prog 16 #[.slice a1 z1.length cap1, .int .i64 10] W fun e W' => ∃ ts ao2 cap2, e = .returned (.slice ao2 ts.length cap2) ∧ Hid (ts.length ≤ 10 ∧ AllMay ts ∧ Toks W' ao2 cap2 ts) ∧ Hid (Below w.heap.size w W')) := fun W hW => TokensOf_made a1 cap1 z1 10 (by omega) hW.out hscr1
  obtain ⟨m, hm⟩ : ∃ m : Nat, a3 % 6 = (m : Int) := ⟨(a3 % 6).toNat, by omega⟩
  have hm6 : m < 6 := by omega
  have hm1 : (m : Int) < 6 := by omega
  have cP := Picked_any a3 6 (by decide) (by decide)
  rw [hm] at cP
  clear hm
  have HG : Hid (∀ W : World, (W.alloc (.cells #[.string ⟨#[9]⟩, .string ⟨#[10]⟩, .string ⟨#[13]⟩, .string ⟨#[32, 32]⟩, .string ⟨#[10, 9, 32]⟩, .string ⟨#[45, 45, 10]⟩] 9)).cell? ⟨W.heap.size, m, none⟩ = some (.string (str (gapList.getD m [])))) := by
    intro W
    rcases (show m = 0 ∨ m = 1 ∨ m = 2 ∨ m = 3 ∨ m = 4 ∨ m = 5 by omega) with rfl | rfl | rfl | rfl | rfl | rfl <;> simp [gapList, str]
  have hsk := gapList_skipped m hm6
  obtain ⟨g0, hg0⟩ : ∃ g0 : ByteArray, str (gapList.getD m []) = g0 := ⟨_, rfl⟩
  have hg0s : g0.size ≤ 3 := by rw [← hg0, str_size]; exact hsk.2
  obtain ⟨g, hg⟩ : ∃ g : ByteArray, (⟨#[32]⟩ : ByteArray) ++ g0 = g := ⟨_, rfl⟩
  have hgs : g.size ≤ 4 := by
    rw [← hg, ByteArray.size_append]
    show 1 + g0.size ≤ 4
    omega
  have HK : Hid (Skipped (bts g) ∧ (bts g).length ≤ 4) := by
    have e : bts g = 32 :: gapList.getD m [] := by
      rw [← hg, bts_append, ← hg0, bts_str]
      rfl
    rw [e]
    exact ⟨hsk.1, by have := hsk.2; simp only [List.length_cons]; omega⟩
  rw [hg0] at HG
  clear hg0 hsk
  have HJ : Hid (∀ (ts : List Tok) (ao : Option Addr) (cap : Nat) (W : World), Hid (ts.length ≤ 10 ∧ AllMay ts ∧ Toks W ao cap ts) → Hid (Below w.heap.size w W) → Calls Tryd.prog 14 #[.slice ao ts.length cap] W fun e W' => ∃ z : ByteArray, e = .returned (.tuple #[.string z, .int .i64 0]) ∧ z.size ≤ 1992 ∧ Hid (bts z = joined ts) ∧ Hid (ts.length ≤ 10 ∧ AllMay ts) ∧ Hid (Below w.heap.size w W')) := by
    intro ts ao cap W ht hW
    exact (Join_made ao cap ts ht.out.2.1 (by have := ht.out.1; omega) hW.out tab ht.out.2.2).mono fun e W' ⟨z, h1, h2, h3, h4⟩ => ⟨z, h1, h2, h3, ⟨ht.out.1, ht.out.2.1⟩, h4.out.1⟩
  have HA : Hid (∀ (z y : ByteArray) (ts us : List Tok) (n : Nat) (W : World), Hid (bts z = joined ts) → Hid (bts y = joined us) → Hid (ts.length ≤ 10 ∧ AllMay ts) → Hid (us.length ≤ 10 ∧ AllMay us) → Hid ((ts ++ us).length = n) → Hid (Below w.heap.size w W) → Calls Tryd.prog 11 #[.string (z ++ ⟨#[32]⟩ ++ y)] W fun e W' => ∃ ao cap, e = .returned (.tuple #[.slice ao n cap, .int .i64 0, .int .i64 0]) ∧ Hid (Below w.heap.size w W' ∧ Toks W' ao cap (ts ++ us))) := by
    intro z y ts us n W hz hy ht hu hn hW
    have e : bts (z ++ ⟨#[32]⟩ ++ y) = joined ts ++ 32 :: joined us := by
      rw [bts_append, bts_append, hz.out, hy.out]
      show joined ts ++ [32] ++ joined us = _
      simp
    have := Cut_tokens (z ++ ⟨#[32]⟩ ++ y) hW.out tab (fun t h => (allMay_append ht.out.2 hu.out.2 t h).2) (by rw [e]; exact plain_cut ht.out.2 hu.out.2 ht.out.1 hu.out.1)
    rw [hn.out] at this
    exact this.mono fun e W' ⟨ao, cap, h1, h2, h3⟩ => ⟨ao, cap, h1, h3⟩
  have HB : Hid (∀ (z y note : ByteArray) (ts us : List Tok) (n : Nat) (W : World) (aq : Option Addr) (cq : Nat), Hid (bts z = joined ts) → Hid (bts y = joined us) → Hid (ts.length ≤ 10 ∧ AllMay ts) → Hid (us.length ≤ 10 ∧ AllMay us) → Hid ((ts ++ us).length = n) → Hid (∀ c ∈ bts note, ¬ c.toNat = 10) → note.size ≤ 60 → Hid (Below w.heap.size w W ∧ Toks W aq cq (ts ++ us)) → Calls Tryd.prog 11 #[.string (g ++ z ++ g ++ ⟨#[45, 45]⟩ ++ note ++ ⟨#[10]⟩ ++ y ++ g ++ ⟨#[45, 45]⟩ ++ note)] W fun e W' => ∃ ao cap, e = .returned (.tuple #[.slice ao n cap, .int .i64 0, .int .i64 0]) ∧ Hid (Below w.heap.size w W' ∧ Toks W' aq cq (ts ++ us) ∧ Toks W' ao cap (ts ++ us))) := by
    intro z y note ts us n W aq cq hz hy ht hu hn hN hNs hW
    have e : bts (g ++ z ++ g ++ ⟨#[45, 45]⟩ ++ note ++ ⟨#[10]⟩ ++ y ++ g ++ ⟨#[45, 45]⟩ ++ note) = bts g ++ joined ts ++ bts g ++ [45, 45] ++ bts note ++ [10] ++ joined us ++ bts g ++ [45, 45] ++ bts note := by
      simp only [bts_append, hz.out, hy.out]
      rfl
    have := Cut_tokens (g ++ z ++ g ++ ⟨#[45, 45]⟩ ++ note ++ ⟨#[10]⟩ ++ y ++ g ++ ⟨#[45, 45]⟩ ++ note) hW.out.1 tab (fun t h => (allMay_append ht.out.2 hu.out.2 t h).2) (by rw [e]; exact wide_cut ht.out.2 hu.out.2 ht.out.1 hu.out.1 HK.out.1 HK.out.2 hN.out (by rw [← size_bytes]; exact hNs))
    rw [hn.out] at this
    exact this.mono fun e W' ⟨ao, cap, h1, h2, h3⟩ => ⟨ao, cap, h1, h3.out.1, hW.out.2.later h2.out, h3.out.2⟩
  have HO : Hid (∀ (ts : List Tok) (W : World) (aq ar : Option Addr) (cq cr : Nat), Hid (Below w.heap.size w W ∧ Toks W aq cq ts ∧ Toks W ar cr ts) → Calls Tryd.prog 11 #[.string ⟨#[97, 45, 45, 98]⟩] W fun e W' => ∃ ao cap, e = .returned (.tuple #[.slice ao 1 cap, .int .i64 0, .int .i64 0]) ∧ Hid (Below w.heap.size w W' ∧ Toks W' aq cq ts ∧ Toks W' ar cr ts)) := by
    intro ts W aq ar cq cr hW
    have := Cut_tokens ⟨#[97, 45, 45, 98]⟩ hW.out.1 tab (ts := [⟨1, 0, [97]⟩]) (by simp) word_remark
    exact this.mono fun e W' ⟨ao, cap, h1, h2, h3⟩ => ⟨ao, cap, h1, h3.out.1, hW.out.2.1.later h2.out, hW.out.2.2.later h2.out⟩
  have HS : Hid (∀ (ts : List Tok) (n : Nat) (W : World) (aq ar : Option Addr) (cq cr : Nat), n ≤ 20 → Hid (ts.length = n) → Hid (Below w.heap.size w W ∧ Toks W aq cq ts ∧ Toks W ar cr ts) → Calls Tryd.prog 17 #[.slice aq n cq, .slice ar n cr] W fun e W' => e = .returned (.bool true) ∧ Hid (Below w.heap.size w W')) := by
    intro ts n W aq ar cq cr hn20 hn hW
    have := sameTokens_same aq ar cq cr ts (by rw [hn.out]; omega) W hW.out.2.1 hW.out.2.2
    rw [hn.out] at this
    exact this.mono fun e W' ⟨h1, h2⟩ => ⟨h1, hW.out.1.trans (h2.mono hW.out.1.size)⟩
  clear tab hscr0 hscr1 HK
  go_enter Tryd.func7, Tryd.ntmps7
  go_wp2_with (first
    | (go_at_call 16; with_reducible refine cT.mono ?_; rintro e w1 ⟨ts, ao2, cap2, rfl, HT, b1⟩)
    | (go_at_call 14; with_reducible refine (HJ.out _ _ _ _ HT b1).mono ?_; rintro e w2 ⟨z, rfl, hz, HZ, HM, b2⟩)
    | (go_at_call 16; with_reducible refine (HU.out _ b2).mono ?_; rintro e w3 ⟨us, ao3, cap3, rfl, HV, b3⟩)
    | (go_at_call 14; with_reducible refine (HJ.out _ _ _ _ HV b3).mono ?_; rintro e w4 ⟨y, rfl, hy, HY, HN, b4⟩; have hcell := HG.out w4)
    | (go_at_call 18; refine (cP _).mono ?_; rintro e w5 ⟨rfl, rfl⟩))
  obtain ⟨n, hn⟩ : ∃ n, (ts ++ us).length = n := ⟨_, rfl⟩
  have hn20 : n ≤ 20 := by
    have h1 := HM.out.1
    have h2 := HN.out.1
    rw [← hn, List.length_append]
    omega
  have HL := hidden hn
  have b5 : Hid (Below w.heap.size w (w4.alloc (.cells #[.string ⟨#[9]⟩, .string ⟨#[10]⟩, .string ⟨#[13]⟩, .string ⟨#[32, 32]⟩, .string ⟨#[10, 9, 32]⟩, .string ⟨#[45, 45, 10]⟩] 9))) := b4.out.alloc b4.out.size _
  clear hn hcell cT cP HG HU HJ HT HV b1 b2 b3 b4
  go_loopw [15, 16] (fun v x wr => ∃ (k : Nat) (q : ByteArray), k ≤ 60 ∧ (k : Int) ≤ (a2.size : Int) ∧ v = .string q ∧ x = .int .i64 (k : Int) ∧ q.size ≤ k ∧ Hid (Below w.heap.size w wr) ∧ Hid (∀ c ∈ bts q, ¬ c.toNat = 10)) (fun _ x _ => 60 - (intOf x).toNat)
  case atStart => exact ⟨0, ⟨#[]⟩, by omega, by omega, rfl, rfl, Nat.le_refl _, b5, fun c hc => by cases hc⟩
  case round =>
    obtain ⟨k, q, hk, hks, rfl, rfl, hq, b6, HQ⟩ := hrel
    clear b5 hg hg0s hm1 hm6 hlen0 hlen1 w2 w3
    by_cases hin : (k : Int) < (a2.size : Int) ∧ (k : Int) < 60
    · clear HA HB HO HS HZ HY HM HN HL hz hy hgs
      obtain ⟨h1, h2⟩ := hin
      have hlt : k < a2.size := by omega
      have hk1 : (k : Int) + 1 ≤ (a2.size : Int) := by omega
      obtain ⟨x, hx⟩ : ∃ x, (a2[k]'hlt).toNat = x := ⟨_, rfl⟩
      have hx3 : x < 256 := by rw [← hx]; exact (a2[k]'hlt).toNat_lt
      obtain ⟨r, hr⟩ : ∃ r, a2.extract k (k + 1) = r := ⟨_, rfl⟩
      have hrs : r.size = 1 := by rw [← hr, ByteArray.size_extract]; omega
      by_cases h10 : x = 10
      · have h10' : (x : Int) = 10 := by omega
        clear hr hrs
        go_wp2
        go_roundw
        case rel => exact ⟨k + 1, q, by omega, by omega, rfl, by go_num, by omega, b6, HQ⟩
        case measure => simp [intOf]; omega
      · have h10' : ¬ (x : Int) = 10 := by omega
        have R : Hid (∀ c ∈ bts (q ++ r), ¬ c.toNat = 10) := by
          intro c hc
          rw [bts_append] at hc
          rcases List.mem_append.1 hc with h | h
          · exact HQ.out c h
          · have hl : k < (bts a2).length := by rw [← size_bytes]; exact hlt
            have e : bts r = [a2[k]'hlt] := by
              rw [← hr, bytes_extract, drop_cons hl, show k + 1 - k = 1 by omega]
              rfl
            rw [e] at h
            rw [List.mem_singleton.1 h, hx]
            exact h10
        clear HQ
        go_wp2
        go_roundw
        case rel => exact ⟨k + 1, q ++ r, by omega, by omega, rfl, by go_num, by rw [ByteArray.size_append, hrs]; omega, b6, R⟩
        case measure => simp [intOf]; omega
    · have hq60 : q.size ≤ 60 := by omega
      rcases (show (¬ (k : Int) < (a2.size : Int)) ∨ ((k : Int) < (a2.size : Int) ∧ ¬ (k : Int) < 60) by omega) with h1 | ⟨h1, h2⟩
      all_goals
        clear hin
        go_wp2_with (first
          | (go_at_call 11; with_reducible refine (HA.out _ _ ts us n _ HZ HY HM HN HL b6).mono ?_; rintro e w7 ⟨ao7, cap7, rfl, b7⟩)
          | (go_at_call 11; with_reducible refine (HB.out _ _ _ ts us n _ _ _ HZ HY HM HN HL HQ hq60 b7).mono ?_; rintro e w8 ⟨ao8, cap8, rfl, b8⟩)
          | (go_at_call 11; with_reducible refine (HO.out _ _ _ _ _ _ b8).mono ?_; rintro e w9 ⟨ao9, cap9, rfl, b9⟩)
          | (go_at_call 17; with_reducible refine (HS.out _ _ _ _ _ _ _ hn20 HL b9).mono ?_; rintro e w10 ⟨rfl, b10⟩))
        go_ret
        exact ⟨rfl, b10.out⟩

/-! ### THE ROW's STEP: WRITTEN OUT: LEAVE IT -/
set_option maxRecDepth 100000 in
theorem lifted (os : Os) (started : os.Started) (H : Type) (enc : TypeId × Value → H) :
    ReturnsInHanded {} Tryd.checked os 7 .any (fun w args => (Rows.lexBlankSpec.pre enc Tryd.prog Tryd.f7 [] false w args ∧ laidMetH Tryd.prog [("math/bits.deBruijn32tab", Rows.laid_math_bits_deBruijn32tab), ("math/bits.deBruijn64tab", Rows.laid_math_bits_deBruijn64tab), ("internal/strconv.uint64pow10", Rows.laid_internal_strconv_uint64pow10), ("unicode/utf8.acceptRanges", Rows.laid_unicode_utf8_acceptRanges), ("strconv.ErrRange", Rows.laid_strconv_ErrRange), ("strconv.ErrSyntax", Rows.laid_strconv_ErrSyntax), ("commonhold/lex.marks", Rows.laid_commonhold_lex_marks), ("unicode/utf8.first", Rows.laid_unicode_utf8_first)] w) ∧ sizedMet enc Tryd.prog Tryd.f7 (OpenSpec.ofChange Rows.lexBlankSpec) false w args) (Rows.lexBlankSpec.post enc Tryd.prog Tryd.f7 false true false false) := by
  refine handed_shaped (C := Tryd.checked) (X := fun w _ => laidMetH Tryd.prog [("math/bits.deBruijn32tab", Rows.laid_math_bits_deBruijn32tab), ("math/bits.deBruijn64tab", Rows.laid_math_bits_deBruijn64tab), ("internal/strconv.uint64pow10", Rows.laid_internal_strconv_uint64pow10), ("unicode/utf8.acceptRanges", Rows.laid_unicode_utf8_acceptRanges), ("strconv.ErrRange", Rows.laid_strconv_ErrRange), ("strconv.ErrSyntax", Rows.laid_strconv_ErrSyntax), ("commonhold/lex.marks", Rows.laid_commonhold_lex_marks), ("unicode/utf8.first", Rows.laid_unicode_utf8_first)] w) (fun _ _ _ hh h => h.of_heap hh) own started (by kernel_rfl) Tryd.func7
    (ChangeSpec.witness_shaped (enc := enc) (C := Tryd.checked) (os := os) (X := fun w _ => laidMetH Tryd.prog [("math/bits.deBruijn32tab", Rows.laid_math_bits_deBruijn32tab), ("math/bits.deBruijn64tab", Rows.laid_math_bits_deBruijn64tab), ("internal/strconv.uint64pow10", Rows.laid_internal_strconv_uint64pow10), ("unicode/utf8.acceptRanges", Rows.laid_unicode_utf8_acceptRanges), ("strconv.ErrRange", Rows.laid_strconv_ErrRange), ("strconv.ErrSyntax", Rows.laid_strconv_ErrSyntax), ("commonhold/lex.marks", Rows.laid_commonhold_lex_marks), ("unicode/utf8.first", Rows.laid_unicode_utf8_first)] w) false (pinLaid 77 os) #[.slice none 0 0, .slice none 0 0, .string ByteArray.empty, .int .i64 0] 8 rfl (World.shaped_of_RefB (by kernel_rfl) (by kernel_rfl)) (by kernel_rfl) (by kernel_rfl) (by kernel_rfl) (laidMetH_of_parts3 (fuel := 8) (laidMet_of_run' 8 (by kernel_rfl) (by kernel_rfl)) (by kernel_rfl) (by kernel_rfl))) ?_
  intro W base args ds gs before hval0 hW hcnd _ hL hSh
  have hval : ∀ (j : Nat) t v, Tryd.f7.params[j]? = some t → args[j]? = some v → Value.okWide Tryd.prog W .any base t v := hval0
  have hW' := hW
  obtain ⟨p, q, hA0, hV, rfl, hfz, hnd⟩ := hW
  have hA : DataW.TrodAll enc Tryd.prog W 0 (fun _ => true) true Tryd.f7.params.toList args.toList ds p := hA0
  rw [Tryd.params7] at hA hval
  obtain ⟨v0, vs0, d0, ds0, p0, q0, hargs, rfl, rfl, h0, r0⟩ := trodAll_cons hA
  obtain ⟨v1, vs1, d1, ds1, p1, q1, rfl, rfl, rfl, h1, r1⟩ := trodAll_cons r0
  obtain ⟨v2, vs2, d2, ds2, p2, q2, rfl, rfl, rfl, h2, r2⟩ := trodAll_cons r1
  obtain ⟨v3, vs3, d3, ds3, p3, q3, rfl, rfl, rfl, h3, r3⟩ := trodAll_cons r2
  obtain ⟨rfl, rfl, rfl⟩ := trodAll_nil r3
  obtain rfl : args = #[v0, v1, v2, v3] := by cases args; simp_all
  obtain ⟨rfl, rfl⟩ := trodVars_none hV
  obtain ⟨a0, len0, cap0, rfl⟩ := okWide_slice Tryd.underlying34 (hval 0 34 v0 rfl rfl)
  have k0 := h0
  have lt0 : ∀ x ∈ p0, x.block < W.heap.size := by obtain ⟨m, hm⟩ := k0; exact DataW.trod_lt m _ _ _ hm
  obtain ⟨z0, w0⟩ : ∃ ls : List Tok, len0 = ls.length ∧ Scr W a0 cap0 ls ∧ len0 ≤ 9223372036854775807 := by
    obtain ⟨fuel, hf⟩ := h0
    exact scr_arg (by simp [Value.cells]) hf
  obtain ⟨a1, len1, cap1, rfl⟩ := okWide_slice Tryd.underlying34 (hval 1 34 v1 rfl rfl)
  have k1 := h1
  have lt1 : ∀ x ∈ p1, x.block < W.heap.size := by obtain ⟨m, hm⟩ := k1; exact DataW.trod_lt m _ _ _ hm
  obtain ⟨z1, w1⟩ : ∃ ls : List Tok, len1 = ls.length ∧ Scr W a1 cap1 ls ∧ len1 ≤ 9223372036854775807 := by
    obtain ⟨fuel, hf⟩ := h1
    exact scr_arg (by simp [Value.cells]) hf
  obtain ⟨a2, rfl, rfl, rfl, w2⟩ := open_string Tryd.underlying9 (hval 2 9 v2 rfl rfl) h2
  obtain ⟨a3, rfl, rfl, rfl, w3⟩ := open_int Tryd.underlying3 (hval 3 3 v3 rfl rfl) h3
  clear hA0 hval0
  refine (walk a0 len0 cap0 z0 a1 len1 cap1 z1 a2 a3 W (lexBlank_tabs hL hSh) w0 w1 w2 w3).mono fun e W' ⟨he, bel⟩ => ?_
  subst he
  exact ⟨_, rfl, _, _, _, [], _, [], hW', trodAll_mk1 (shut_bool Tryd.underlying4 _), (trodAll_cons_mk (Below.trod laidOut (by kernel_rfl) (of_decide_eq_true (by kernel_rfl)) k0 bel lt0) (trodAll_cons_mk (Below.trod laidOut (by kernel_rfl) (of_decide_eq_true (by kernel_rfl)) k1 bel lt1) (trodAll_cons_mk (shut_string Tryd.underlying9 w2) (trodAll_cons_mk (shut_int Tryd.underlying3 w3) trodAll_mk0)))), rfl, bel.frame _, fun h => by cases h⟩

theorem over : Rows.lexBlankRow.holds Tryd.pinned (OpenSpec.ofChange Rows.lexBlankSpec) :=
  OpenClaim.holds_of_wide 7 Tryd.f7 rfl rfl rfl rfl rfl rfl rfl ⟨rfl, rfl, rfl, rfl, rfl⟩ rfl rfl rfl rfl rfl (by kernel_rfl) Tryd.func7 (by kernel_rfl)
    (of_decide_eq_true (by kernel_rfl)) (by unfold Func.isWrapper; first | (rw [if_pos (by decide +kernel)]; kernel_rfl) | (rw [if_neg (by decide +kernel)]; exact ⟨rfl, rfl⟩))
    (fun os started H enc _ => lifted os started H enc)

/-- ████ THE STATEMENT ████ -/
theorem proved : Rows.LexBlankSaid := over
/-- THE CARD: the row with its listed variable tied to the program's text. -/
theorem carded : Rows.LexBlankCardSaid :=
  Claim7.holds_tied_plain_at .later [] [.data, .data, .data, .data, .sentinel, .sentinel, .data, .pinned] true (true, "830fa781412c04ff2ac1b92954af91001f2c6b31437abcb73ef15b84613ef267") true
    proved (fun _ h => by cases h) (by kernel_rfl) (fun _ h => by cases h) lexBlank_row_tie rfl ⟨rfl, rfl⟩ (by kernel_rfl) rfl
    (fun f fn hf hfn => by
      obtain rfl : f = 7 := Option.some.inj ((show Tryd.prog.funcNamed "commonhold/commonholdkeep.LexBlank" = some 7 by kernel_rfl).symm.trans hf) |>.symm
      obtain rfl : fn = Tryd.f7 := (Option.some.inj (Tryd.func7.symm.trans hfn)).symm
      exact ⟨by kernel_rfl, fun j t ht => by
        rw [Tryd.params7] at ht
        rcases j with _ | _ | _ | _ | j
        all_goals first | (simp at ht; done) | (simp at ht; subst ht; kernel_rfl)⟩)
    (by kernel_rfl)
end Go.Proofs.YtogkghifpocgmaaDoor.lexBlank
namespace Go.Proofs.YtogkghifpocgmaaDoor
theorem lexBlank_holds : Rows.LexBlankCardSaid := lexBlank.carded
end Go.Proofs.YtogkghifpocgmaaDoor
