/- Join answers what the chapter says, whatever tokens come in. -/
import Derived.Test.YtogkghifpocgmaaDoorRows
import Derived.Test.YtogkghifpocgmaaDoorJoinsLaid
import Derived.Test.YtogkghifpocgmaaDoorToksArg
import Derived.Test.YtogkghifpocgmaaDoorLexRefJoin
import Derived.Test.YtogkghifpocgmaaDoorPinLaid
import Derived.WalkKit
import Derived.ProofKit
import Derived.OpenShut
import Derived.ShutString
import Derived.ChangeOld
import Derived.Below
import Derived.LaidMore
import Derived.MakeChecks
import Derived.SevenTiedAt
import Derived.Test.YtogkghifpocgmaaDoorCards
import Derived.Test.YtogkghifpocgmaaDoorTie
import Derived.SizedLaws
namespace Go.Proofs.YtogkghifpocgmaaDoor.lexJoins
open Go.ChangeShapes Go.WideShapes Go.ChangeAt Go.RowKit
open Go.ChangeMaps (open_string shut_string)
set_option linter.unusedVariables false

theorem own : ownKnob Tryd.prog.godebug = none := by kernel_rfl
theorem laidOut : laidOutB Tryd.prog = true := by kernel_rfl

/-- WHAT THE WALK IS TOLD OF A SLICE OF INTEGERS THAT CAME IN: it is nil; or it leads to a row of 'cap' cells, the numbers 'zs' (the first 'len' are its elements, the rest its spare room), each fitting its kind. -/
def IsRow (k : IntKind) (w : World) (a : Option Addr) (len cap : Nat) (zs : List Int) : Prop :=
  (a = none ∧ len = 0 ∧ cap = 0 ∧ zs = []) ∨
  ∃ x, a = some x ∧ len ≤ cap ∧ cap ≤ maxLen ∧ zs.length = cap ∧ (∀ i, i < zs.length → w.cell? (x.add i) = some (.int k (zs.getD i 0))) ∧ ∀ n ∈ zs, (Lit.int k n).wf = true

/-! ### STEP 1: THE WALK: the Go text returns true, AND WRITES NOTHING THAT WAS THERE: 'Below w.heap.size w w'' (Derived/Below.lean: '.refl', '.alloc', '.drew', '.setCell' at a new block, '.trans'). Open each 'IsRow' by 'rcases' AHEAD of 'go_enter'; part every test ahead of the walk. -/
set_option maxHeartbeats 8000000 in
theorem walk (a0 : Option Addr) (len0 cap0 : Nat) (z0 : List Tok) (w : World) (tab : JoinTabs w) (w0 : len0 = z0.length ∧ Scr w a0 cap0 z0 ∧ len0 * 32 ≤ 140737488351232 ∧ (a0 = none → cap0 = 0)) :
    Calls Tryd.prog 5 #[.slice a0 len0 cap0] w fun e w' => e = .returned (.bool true) ∧ Below w.heap.size w w' := by
  obtain ⟨rfl, hscr, hlen, hnil⟩ := w0
  have HJ : Hid (∀ (ao : Option Addr) (cap : Nat) (W : World), Hid (Toks W ao cap z0 ∧ Below w.heap.size w W) → Calls Tryd.prog 14 #[.slice ao z0.length cap] W fun e W' => e = .returned (.tuple #[.string (str (joinAns z0).1), .int .i64 (joinAns z0).2]) ∧ Hid (Below w.heap.size w W')) := by
    intro ao cap W hW
    exact (Join_any ao cap z0 W (tab.later hW.out.2) hW.out.1).mono fun e W' ⟨h1, h2⟩ => ⟨h1, hW.out.2.trans (h2.mono hW.out.2.size)⟩
  have HR : Hid (∀ W : World, Hid (Below w.heap.size w W) → Calls Tryd.prog 15 #[.slice a0 z0.length cap0] W fun e W' => e = .returned (.tuple #[.string (str (joinAns z0).1), .int .i64 (joinAns z0).2]) ∧ Hid (Below w.heap.size w W')) := by
    intro W hW
    exact (Joined_any a0 cap0 z0 W (hscr.toks.later hW.out)).mono fun e W' ⟨h1, h2⟩ => ⟨h1, hW.out.trans (h2.mono hW.out.size)⟩
  have HS := hidden hscr
  have HL := hidden hlen
  have HN := hidden hnil
  obtain ⟨n, hn⟩ : ∃ n, z0.length = n := ⟨_, rfl⟩
  have HM := hidden hn.symm
  rw [hn] at HJ HR HL
  obtain ⟨p, hp⟩ : ∃ p, (joinAns z0).1 = p := ⟨_, rfl⟩
  obtain ⟨q, hq⟩ : ∃ q, (joinAns z0).2 = q := ⟨_, rfl⟩
  rw [hp, hq] at HJ HR
  obtain ⟨s, hs⟩ : ∃ s, str p = s := ⟨_, rfl⟩
  rw [hs] at HJ HR
  rw [hn]
  clear tab hscr hlen hnil hn hp hq hs
  go_enter Tryd.func5, Tryd.ntmps5
  go_wp2_with (first
    | (at_builtin; refine wpList_append_toks rfl _ _ rfl rfl a0 cap0 n z0 rfl HM.out HS.out HL.out HN.out ?_; intro ao1 cap1 w1 ht1 hb1; have H1 : Hid (Toks w1 ao1 cap1 z0 ∧ Below w.heap.size w w1) := ⟨ht1, hb1⟩; clear ht1 hb1)
    | (go_at_call 14; with_reducible refine (HJ.out _ _ _ H1).mono ?_; rintro e w2 ⟨rfl, b2⟩)
    | (go_at_call 15; with_reducible refine (HR.out _ b2).mono ?_; rintro e w3 ⟨rfl, b3⟩))
  go_ret
  exact ⟨rfl, b3.out⟩

/-! ### THE ROW's STEP: WRITTEN OUT: LEAVE IT -/
set_option maxRecDepth 100000 in
theorem lifted (os : Os) (started : os.Started) (H : Type) (enc : TypeId × Value → H) :
    ReturnsInHanded {} Tryd.checked os 5 .any (fun w args => (Rows.lexJoinsSpec.pre enc Tryd.prog Tryd.f5 [] false w args ∧ laidMetH Tryd.prog [("math/bits.deBruijn32tab", Rows.laid_math_bits_deBruijn32tab), ("math/bits.deBruijn64tab", Rows.laid_math_bits_deBruijn64tab), ("internal/strconv.uint64pow10", Rows.laid_internal_strconv_uint64pow10), ("unicode/utf8.acceptRanges", Rows.laid_unicode_utf8_acceptRanges), ("commonhold/lex.marks", Rows.laid_commonhold_lex_marks), ("unicode/utf8.first", Rows.laid_unicode_utf8_first)] w) ∧ sizedMet enc Tryd.prog Tryd.f5 (OpenSpec.ofChange Rows.lexJoinsSpec) false w args) (Rows.lexJoinsSpec.post enc Tryd.prog Tryd.f5 false true false false) := by
  refine handed_shaped (C := Tryd.checked) (X := fun w _ => laidMetH Tryd.prog [("math/bits.deBruijn32tab", Rows.laid_math_bits_deBruijn32tab), ("math/bits.deBruijn64tab", Rows.laid_math_bits_deBruijn64tab), ("internal/strconv.uint64pow10", Rows.laid_internal_strconv_uint64pow10), ("unicode/utf8.acceptRanges", Rows.laid_unicode_utf8_acceptRanges), ("commonhold/lex.marks", Rows.laid_commonhold_lex_marks), ("unicode/utf8.first", Rows.laid_unicode_utf8_first)] w) (fun _ _ _ hh h => h.of_heap hh) own started (by kernel_rfl) Tryd.func5
    (ChangeSpec.witness_shaped (enc := enc) (C := Tryd.checked) (os := os) (X := fun w _ => laidMetH Tryd.prog [("math/bits.deBruijn32tab", Rows.laid_math_bits_deBruijn32tab), ("math/bits.deBruijn64tab", Rows.laid_math_bits_deBruijn64tab), ("internal/strconv.uint64pow10", Rows.laid_internal_strconv_uint64pow10), ("unicode/utf8.acceptRanges", Rows.laid_unicode_utf8_acceptRanges), ("commonhold/lex.marks", Rows.laid_commonhold_lex_marks), ("unicode/utf8.first", Rows.laid_unicode_utf8_first)] w) false (pinLaid 77 os) #[.slice none 0 0] 8 rfl (World.shaped_of_RefB (by kernel_rfl) (by kernel_rfl)) (by kernel_rfl) (by kernel_rfl) (by kernel_rfl) (laidMetH_of_parts3 (fuel := 8) (laidMet_of_run' 8 (by kernel_rfl) (by kernel_rfl)) (by kernel_rfl) (by kernel_rfl))) ?_
  intro W base args ds gs before hval0 hW hcnd hsz0 hL hSh
  have hval : ∀ (j : Nat) t v, Tryd.f5.params[j]? = some t → args[j]? = some v → Value.okWide Tryd.prog W .any base t v := hval0
  have hW' := hW
  obtain ⟨p, q, hA0, hV, rfl, hfz, hnd⟩ := hW
  have hA : DataW.TrodAll enc Tryd.prog W 0 (fun _ => true) true Tryd.f5.params.toList args.toList ds p := hA0
  have hsz : (DataW.weightsEach Tryd.prog (Tryd.f5.params.toList ++ Rows.lexJoinsSpec.plain.varTypes Tryd.prog) (ds ++ gs)).all (· ≤ reachBytes) = true := hsz0
  clear hsz0
  rw [Tryd.params5] at hA hval hsz
  obtain ⟨v0, vs0, d0, ds0, p0, q0, hargs, rfl, rfl, h0, r0⟩ := trodAll_cons hA
  obtain ⟨rfl, rfl, rfl⟩ := trodAll_nil r0
  obtain rfl : args = #[v0] := by cases args; simp_all
  obtain ⟨rfl, rfl⟩ := trodVars_none hV
  obtain ⟨a0, len0, cap0, rfl⟩ := okWide_slice Tryd.underlying25 (hval 0 25 v0 rfl rfl)
  have k0 := h0
  have lt0 : ∀ x ∈ p0, x.block < W.heap.size := by obtain ⟨m, hm⟩ := k0; exact DataW.trod_lt m _ _ _ hm
  obtain ⟨z0, w0⟩ : ∃ ls : List Tok, len0 = ls.length ∧ Scr W a0 cap0 ls ∧ len0 * 32 ≤ 140737488351232 ∧ (a0 = none → cap0 = 0) := by
    obtain ⟨fuel, hf⟩ := h0
    exact toks_arg hsz (j := 0) rfl rfl (by simp [Value.cells]) hf
  clear hA0 hval0
  refine (walk a0 len0 cap0 z0 W (lexJoins_tabs hL hSh) w0).mono fun e W' ⟨he, bel⟩ => ?_
  subst he
  exact ⟨_, rfl, _, _, _, [], _, [], hW', trodAll_mk1 (shut_bool Tryd.underlying4 _), (trodAll_cons_mk (Below.trod laidOut (by kernel_rfl) (of_decide_eq_true (by kernel_rfl)) k0 bel lt0) trodAll_mk0), rfl, bel.frame _, fun h => by cases h⟩

theorem over : Rows.lexJoinsRow.holds Tryd.pinned (OpenSpec.ofChange Rows.lexJoinsSpec) :=
  OpenClaim.holds_of_wide 5 Tryd.f5 rfl rfl rfl rfl rfl rfl rfl ⟨rfl, rfl, rfl, rfl, rfl⟩ rfl rfl rfl rfl rfl (by kernel_rfl) Tryd.func5 (by kernel_rfl)
    (of_decide_eq_true (by kernel_rfl)) (by unfold Func.isWrapper; first | (rw [if_pos (by decide +kernel)]; kernel_rfl) | (rw [if_neg (by decide +kernel)]; exact ⟨rfl, rfl⟩))
    (fun os started H enc _ => lifted os started H enc)

/-- ████ THE STATEMENT ████ -/
theorem proved : Rows.LexJoinsSaid := over
/-- THE CARD: the row with its listed variable tied to the program's text. -/
theorem carded : Rows.LexJoinsCardSaid :=
  Claim7.holds_tied_plain_at .later [] [.data, .data, .data, .data, .data, .pinned] true (true, "830fa781412c04ff2ac1b92954af91001f2c6b31437abcb73ef15b84613ef267") true
    proved (fun _ h => by cases h) (by kernel_rfl) (fun _ h => by cases h) lexJoins_row_tie rfl ⟨rfl, rfl⟩ (by kernel_rfl) rfl
    (fun f fn hf hfn => by
      obtain rfl : f = 5 := Option.some.inj ((show Tryd.prog.funcNamed "commonhold/commonholdlaw.LexJoins" = some 5 by kernel_rfl).symm.trans hf) |>.symm
      obtain rfl : fn = Tryd.f5 := (Option.some.inj (Tryd.func5.symm.trans hfn)).symm
      exact ⟨by kernel_rfl, fun j t ht => by
        rw [Tryd.params5] at ht
        rcases j with _ | j
        all_goals first | (simp at ht; done) | (simp at ht; subst ht; kernel_rfl)⟩)
    (by kernel_rfl)
end Go.Proofs.YtogkghifpocgmaaDoor.lexJoins
namespace Go.Proofs.YtogkghifpocgmaaDoor
theorem lexJoins_holds : Rows.LexJoinsCardSaid := lexJoins.carded
end Go.Proofs.YtogkghifpocgmaaDoor
