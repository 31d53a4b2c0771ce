/- parse.Parse answers what P7.2 to P7.5 say, at every list of tokens: the statement, or the place of the token that is refused and why. -/
import Derived.Test.YtedinkoapieakaaDoorRows
import Derived.Test.YtedinkoapieakaaDoorNamesTabs
import Derived.Test.YtedinkoapieakaaDoorParsesW
import Derived.Test.YtedinkoapieakaaDoorPinLaid
import Derived.WalkKit
import Derived.ProofKit
import Derived.OpenShut
import Derived.ShutString
import Derived.ChangeOld
import Derived.Below
import Derived.LaidMore
import Derived.MakeChecks
import Derived.SevenTiedAt
import Derived.Test.YtedinkoapieakaaDoorCards
import Derived.Test.YtedinkoapieakaaDoorTie
import Derived.SizedLaws
namespace Go.Proofs.YtedinkoapieakaaDoor.parseParses
open Go.ChangeShapes Go.WideShapes Go.ChangeAt Go.RowKit
open Go.ChangeMaps (open_string shut_string)
set_option linter.unusedVariables false

theorem own : ownKnob Tryd.prog.godebug = none := by kernel_rfl
theorem laidOut : laidOutB Tryd.prog = true := by kernel_rfl

/-- WHAT THE WALK IS TOLD OF A SLICE OF INTEGERS THAT CAME IN: it is nil; or it leads to a row of 'cap' cells, the numbers 'zs' (the first 'len' are its elements, the rest its spare room), each fitting its kind. -/
def IsRow (k : IntKind) (w : World) (a : Option Addr) (len cap : Nat) (zs : List Int) : Prop :=
  (a = none ∧ len = 0 ∧ cap = 0 ∧ zs = []) ∨
  ∃ x, a = some x ∧ len ≤ cap ∧ cap ≤ maxLen ∧ zs.length = cap ∧ (∀ i, i < zs.length → w.cell? (x.add i) = some (.int k (zs.getD i 0))) ∧ ∀ n ∈ zs, (Lit.int k n).wf = true

/-! ### STEP 1: THE WALK: the Go text returns true, AND WRITES NOTHING THAT WAS THERE: 'Below w.heap.size w w'' (Derived/Below.lean: '.refl', '.alloc', '.drew', '.setCell' at a new block, '.trans'). Open each 'IsRow' by 'rcases' AHEAD of 'go_enter'; part every test ahead of the walk. -/
set_option maxHeartbeats 8000000 in
theorem walk (a0 : Option Addr) (len0 cap0 : Nat) (z0 : List Tok) (w : World) (tab : NamesTabs w) (w0 : len0 = z0.length ∧ Scr w a0 cap0 z0 ∧ len0 * 32 ≤ 140737488351232 ∧ (a0 = none → cap0 = 0) ∧ ∀ x, a0 = some x → x.block < w.heap.size) :
    Calls Tryd.prog 4 #[.slice a0 len0 cap0] w fun e w' => e = .returned (.bool true) ∧ Below w.heap.size w w' := by
  obtain ⟨rfl, hscr, hlen, hnil, hin⟩ := w0
  have HP : Hid (∀ (ao : Option Addr) (cap : Nat) (W : World), Hid ((Toks W ao cap z0 ∧ ∀ x, ao = some x → x.block < W.heap.size) ∧ Below w.heap.size w W) → Calls Tryd.prog 8 #[.slice ao z0.length cap] W fun e W' => ∃ x : SD, e = .returned (.tuple #[stmval x, .int .i64 ((parseP z0).2.1 : Int), .int .i64 (parseP z0).2.2]) ∧ Hid (Below W.heap.size W W' ∧ IsStm W.heap.size W' (parseP z0).1 x)) := by
    intro ao cap W hW
    have t := tab.later hW.out.2
    exact Parse_any ao cap z0 W hW.out.1.1 hW.out.1.2 t.may.1 t.may.2 t.op
  have HR : Hid (∀ W : World, Hid (Below w.heap.size w W) → Calls Tryd.prog 9 #[.slice a0 z0.length cap0] W fun e W' => ∃ x : SD, e = .returned (.tuple #[stmval x, .int .i64 ((parseP z0).2.1 : Int), .int .i64 (parseP z0).2.2]) ∧ Hid (Below W.heap.size W W' ∧ IsStm W.heap.size W' (parseP z0).1 x)) := by
    intro W hW
    exact Parsed_any a0 cap0 z0 W (hscr.toks.later hW.out) (fun x hx => Nat.lt_of_lt_of_le (hin x hx) hW.out.size)
  have HS := hide hscr
  have HL := hide hlen
  have HN := hide hnil
  obtain ⟨n, hn⟩ : ∃ n, z0.length = n := ⟨_, rfl⟩
  have HM := hide hn.symm
  rw [hn] at HP HR HL
  obtain ⟨p, hp⟩ : ∃ p : Int, ((parseP z0).2.1 : Int) = p := ⟨_, rfl⟩
  obtain ⟨c, hc⟩ : ∃ c, (parseP z0).2.2 = c := ⟨_, rfl⟩
  obtain ⟨T, hT⟩ : ∃ T, (parseP z0).1 = T := ⟨_, rfl⟩
  rw [hp, hc, hT] at HP HR
  rw [hn]
  clear tab hscr hlen hnil hin hn hp hc hT
  go_enter Tryd.func4, Tryd.ntmps4
  go_wp2_with (first
    | (at_builtin; refine wpList_append_toks rfl _ _ rfl rfl a0 cap0 n z0 rfl HM.out HS.out HL.out HN.out ?_; intro ao1 cap1 w1 ht1 hb1; have H1 : Hid ((Toks w1 ao1 cap1 z0 ∧ ∀ x, ao1 = some x → x.block < w1.heap.size) ∧ Below w.heap.size w w1) := ⟨ht1, hb1⟩; clear ht1 hb1)
    | (go_at_call 8; (with_reducible refine (HP.out _ _ _ H1).mono ?_); rintro e w2 ⟨x, rfl, h2⟩)
    | (refine wpList_store_mid rfl 38 (.tmp 3) (.tmp 13) rfl w2.heap.size 0 (stmCells x).toArray rfl rfl (parse_there (Below.refl _ _) _) (stm_size _) (stm_one _) ?_; obtain ⟨w3, e3, v3, b3⟩ := stm_stored w2 x; rw [e3]; have B3 : Hid (Below w.heap.size w w3) := (H1.out.2.trans (h2.out.1.mono H1.out.2.size)).trans (b3.out.mono (H1.out.2.trans (h2.out.1.mono H1.out.2.size)).size))
    | (go_at_call 9; (with_reducible refine (HR.out _ B3).mono ?_); rintro e w4 ⟨y, rfl, h4⟩)
    | (refine wpList_store_mid rfl 38 (.tmp 6) (.tmp 19) rfl w4.heap.size 0 (stmCells y).toArray rfl rfl (parse_there (Below.refl _ _) _) (stm_size _) (stm_one _) ?_; obtain ⟨w5, e5, v5, b5⟩ := stm_stored w4 y; rw [e5]; have v5x : Hid (StmAt w5 w2.heap.size x) := (v3.out.later h4.out.1).later b5.out; have B5 : Hid (Below w.heap.size w w5) := (B3.out.trans (h4.out.1.mono B3.out.size)).trans (b5.out.mono (B3.out.trans (h4.out.1.mono B3.out.size)).size); have cS := hide (sameStatement_same T x y w5 (((h2.out.2.later b3.out).later h4.out.1).later b5.out) (h4.out.2.later b5.out)))
    | (refine wpList_load_mid rfl 38 (.tmp 3) rfl w2.heap.size 0 rfl (stmCells x) _ v5x.out.range Tryd.underlying38 rfl (stm_length _) ?_)
    | (refine wpList_load_mid rfl 38 (.tmp 6) rfl w4.heap.size 0 rfl (stmCells y) _ v5.out.range Tryd.underlying38 rfl (stm_length _) ?_)
    | (go_at_call 10; refine cS.out.mono ?_; rintro e w6 ⟨rfl, b6⟩))
  go_ret
  exact ⟨by simp, B5.out.trans (b6.mono B5.out.size)⟩

/-! ### THE ROW's STEP: WRITTEN OUT: LEAVE IT -/
set_option maxRecDepth 100000 in
theorem lifted (os : Os) (started : os.Started) (H : Type) (enc : TypeId × Value → H) :
    ReturnsInHanded {} Tryd.checked os 4 .any (fun w args => (Rows.parseParsesSpec.pre enc Tryd.prog Tryd.f4 [] false w args ∧ laidMetH Tryd.prog [("unicode/utf8.acceptRanges", Rows.laid_unicode_utf8_acceptRanges), ("commonhold/lex.marks", Rows.laid_commonhold_lex_marks), ("commonhold/parse.operators", Rows.laid_commonhold_parse_operators), ("unicode/utf8.first", Rows.laid_unicode_utf8_first)] w) ∧ sizedMet enc Tryd.prog Tryd.f4 (OpenSpec.ofChange Rows.parseParsesSpec) false w args) (Rows.parseParsesSpec.post enc Tryd.prog Tryd.f4 false true false false) := by
  refine returnsInHanded_of_change_and (C := Tryd.checked) (X := fun w _ => laidMetH Tryd.prog [("unicode/utf8.acceptRanges", Rows.laid_unicode_utf8_acceptRanges), ("commonhold/lex.marks", Rows.laid_commonhold_lex_marks), ("commonhold/parse.operators", Rows.laid_commonhold_parse_operators), ("unicode/utf8.first", Rows.laid_unicode_utf8_first)] w) (fun _ _ _ hh h => h.of_heap hh) own started (by kernel_rfl) Tryd.func4
    (ChangeSpec.witness_shaped (enc := enc) (C := Tryd.checked) (os := os) (X := fun w _ => laidMetH Tryd.prog [("unicode/utf8.acceptRanges", Rows.laid_unicode_utf8_acceptRanges), ("commonhold/lex.marks", Rows.laid_commonhold_lex_marks), ("commonhold/parse.operators", Rows.laid_commonhold_parse_operators), ("unicode/utf8.first", Rows.laid_unicode_utf8_first)] w) false (pinLaid 95 os) #[.slice none 0 0] 8 rfl (World.shaped_of_RefB (by kernel_rfl) (by kernel_rfl)) (by kernel_rfl) (by kernel_rfl) (by kernel_rfl) (laidMetH_of_parts3 (fuel := 8) (laidMet_of_run' 8 (by kernel_rfl) (by kernel_rfl)) (by kernel_rfl) (by kernel_rfl))) ?_
  intro W base args ds gs before hval0 hW hcnd hsz0 hL _
  have hval : ∀ (j : Nat) t v, Tryd.f4.params[j]? = some t → args[j]? = some v → Value.okWide Tryd.prog W .any base t v := hval0
  have hW' := hW
  obtain ⟨p, q, hA0, hV, rfl, hfz, hnd⟩ := hW
  have hA : DataW.TrodAll enc Tryd.prog W 0 (fun _ => true) true Tryd.f4.params.toList args.toList ds p := hA0
  have hsz : (DataW.weightsEach Tryd.prog (Tryd.f4.params.toList ++ Rows.parseParsesSpec.plain.varTypes Tryd.prog) (ds ++ gs)).all (· ≤ reachBytes) = true := hsz0
  clear hsz0
  rw [Tryd.params4] at hA hval hsz
  obtain ⟨v0, vs0, d0, ds0, p0, q0, hargs, rfl, rfl, h0, r0⟩ := trodAll_cons hA
  obtain ⟨rfl, rfl, rfl⟩ := trodAll_nil r0
  obtain rfl : args = #[v0] := by cases args; simp_all
  obtain ⟨rfl, rfl⟩ := trodVars_none hV
  obtain ⟨a0, len0, cap0, rfl⟩ := okWide_slice Tryd.underlying22 (hval 0 22 v0 rfl rfl)
  have k0 := h0
  have lt0 : ∀ x ∈ p0, x.block < W.heap.size := by obtain ⟨m, hm⟩ := k0; exact DataW.trod_lt m _ _ _ hm
  obtain ⟨z0, w0⟩ : ∃ ls : List Tok, len0 = ls.length ∧ Scr W a0 cap0 ls ∧ len0 * 32 ≤ 140737488351232 ∧ (a0 = none → cap0 = 0) ∧ ∀ x, a0 = some x → x.block < W.heap.size := by
    obtain ⟨fuel, hf⟩ := h0
    obtain ⟨ls, e1, e2, e3, e4⟩ := toks_arg (a := a0) (len := len0) (cap := cap0) hsz (j := 0) rfl rfl (by simp [Value.cells]) hf
    exact ⟨ls, e1, e2, e3, e4, fun x hx => slice_in Tryd.underlying22 (by have := hval 0 22 _ rfl rfl; rw [hx] at this; exact this)⟩
  clear hA0 hval0
  refine (walk a0 len0 cap0 z0 W (parseParses_tabs hL) w0).mono fun e W' ⟨he, bel⟩ => ?_
  subst he
  exact ⟨_, rfl, _, _, _, [], _, [], hW', trodAll_mk1 (shut_bool Tryd.underlying4 _), (trodAll_cons_mk (Below.trod laidOut (by kernel_rfl) (of_decide_eq_true (by kernel_rfl)) k0 bel lt0) trodAll_mk0), rfl, bel.frame _, fun h => by cases h⟩

theorem over : Rows.parseParsesRow.holds Tryd.pinned (OpenSpec.ofChange Rows.parseParsesSpec) :=
  OpenClaim.holds_of_wide 4 Tryd.f4 rfl rfl rfl rfl rfl rfl rfl ⟨rfl, rfl, rfl, rfl, rfl⟩ rfl rfl rfl rfl rfl (by kernel_rfl) Tryd.func4 (by kernel_rfl)
    (of_decide_eq_true (by kernel_rfl)) (by unfold Func.isWrapper; first | (rw [if_pos (by decide +kernel)]; kernel_rfl) | (rw [if_neg (by decide +kernel)]; exact ⟨rfl, rfl⟩))
    (fun os started H enc _ => lifted os started H enc)

/-- ████ THE STATEMENT ████ -/
theorem proved : Rows.ParseParsesSaid := over
/-- THE CARD: the row with its listed variable tied to the program's text. -/
theorem carded : Rows.ParseParsesCardSaid :=
  Claim7.holds_tied_plain_at .later [] [.data, .data, .data, .pinned] true (true, "b35900d36b20bf552f2bd0ac65b3434a706ede8b97700a01f90ce5d6c8232099") true
    proved (fun _ h => by cases h) (by kernel_rfl) (fun _ h => by cases h) parseParses_row_tie rfl ⟨rfl, rfl⟩ (by kernel_rfl) rfl
    (fun f fn hf hfn => by
      obtain rfl : f = 4 := Option.some.inj ((show Tryd.prog.funcNamed "commonhold/commonholdlaw.ParseParses" = some 4 by kernel_rfl).symm.trans hf) |>.symm
      obtain rfl : fn = Tryd.f4 := (Option.some.inj (Tryd.func4.symm.trans hfn)).symm
      exact ⟨by kernel_rfl, fun j t ht => by
        rw [Tryd.params4] at ht
        rcases j with _ | j
        all_goals first | (simp at ht; done) | (simp at ht; subst ht; kernel_rfl)⟩)
    (by kernel_rfl)
end Go.Proofs.YtedinkoapieakaaDoor.parseParses
namespace Go.Proofs.YtedinkoapieakaaDoor
theorem parseParses_holds : Rows.ParseParsesCardSaid := parseParses.carded
end Go.Proofs.YtedinkoapieakaaDoor
