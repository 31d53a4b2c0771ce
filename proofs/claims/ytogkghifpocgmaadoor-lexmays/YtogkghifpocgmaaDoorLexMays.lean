/- For every token lex.May answers what the reference answers. -/
import Derived.Test.YtogkghifpocgmaaDoorRows
import Derived.Test.YtogkghifpocgmaaDoorTokArg
import Derived.Test.YtogkghifpocgmaaDoorLexTabs
import Derived.Test.YtogkghifpocgmaaDoorLexMay
import Derived.Test.YtogkghifpocgmaaDoorLexRefTok
import Derived.Test.YtogkghifpocgmaaDoorMaysTabs
import Derived.Test.YtogkghifpocgmaaDoorPinLaid
import Derived.WalkKit
import Derived.ProofKit
import Derived.OpenShut
import Derived.Below
import Derived.LaidMore
import Derived.MakeChecks
import Derived.SevenTiedAt
import Derived.Test.YtogkghifpocgmaaDoorCards
import Derived.Test.YtogkghifpocgmaaDoorTie
import Derived.ShutString
namespace Go.Proofs.YtogkghifpocgmaaDoor.lexMays
open Go.ChangeShapes Go.WideShapes Go.ChangeAt Go.RowKit
open Go.ChangeMaps (open_string shut_string)
set_option linter.unusedVariables false      -- a walk need not use every 'w<i>' (that an integer argument fits its kind)

theorem own : ownKnob Tryd.prog.godebug = none := by kernel_rfl

/-! ### STEP 1: THE WALK: the Go text returns true. 'Grown w w'': the world has at most new blocks (Derived/RowKit3.lean). Part the cases AHEAD of 'go_enter' where a test parts the walk; take each callee by a contract of your own. -/
set_option maxHeartbeats 4000000 in
theorem walk (k0 n0 : Int) (a0 : ByteArray) (wk0 : (Lit.int .i64 k0).wf = true) (wn0 : (Lit.int .i64 n0).wf = true) (w0 : a0.size ≤ maxLen) (w : World) (tab : MayTabs w) :
    Calls Tryd.prog 3 #[.agg #[.int .i64 k0, .int .i64 n0, .string a0]] w fun e w' => e = .returned (.bool true) ∧ Below w.heap.size w w' := by
  obtain ⟨b, hb⟩ : ∃ b, may ⟨k0, n0, bts a0⟩ = b := ⟨_, rfl⟩
  obtain ⟨B, hB⟩ : ∃ B, B = w.heap.size := ⟨_, rfl⟩
  have keep : ∀ (W W' : World), B < W.heap.size → Below W.heap.size W W' → Below w.heap.size w W → W.cell? ⟨B, 0, none⟩ = some (.int .i64 k0) → W.cell? ⟨B, 1, none⟩ = some (.int .i64 n0) → W.cell? ⟨B, 2, none⟩ = some (.string a0) →
      B < W'.heap.size ∧ Below w.heap.size w W' ∧ W'.cell? ⟨B, 0, none⟩ = some (.int .i64 k0) ∧ W'.cell? ⟨B, 1, none⟩ = some (.int .i64 n0) ∧ W'.cell? ⟨B, 2, none⟩ = some (.string a0) := by
    intro W W' hlt h1 h2 c0 c1 c2
    exact ⟨Nat.lt_of_lt_of_le hlt h1.size, h2.trans (h1.mono h2.size), (h1.cell hlt).trans c0, (h1.cell hlt).trans c1, (h1.cell hlt).trans c2⟩
  have cM : ∀ (W : World), B < W.heap.size → Below w.heap.size w W → W.cell? ⟨B, 0, none⟩ = some (.int .i64 k0) → W.cell? ⟨B, 1, none⟩ = some (.int .i64 n0) → W.cell? ⟨B, 2, none⟩ = some (.string a0) →
      Calls Tryd.prog 9 #[.agg #[.int .i64 k0, .int .i64 n0, .string a0]] W fun e W' => e = .returned (.bool b) ∧ B < W'.heap.size ∧ Below w.heap.size w W' ∧ W'.cell? ⟨B, 0, none⟩ = some (.int .i64 k0) ∧ W'.cell? ⟨B, 1, none⟩ = some (.int .i64 n0) ∧ W'.cell? ⟨B, 2, none⟩ = some (.string a0) := by
    intro W hlt h2 c0 c1 c2
    have := May_any k0 n0 a0 W (tab.1.later h2) (tab.2.later h2)
    rw [hb] at this
    exact this.mono fun e W' h => ⟨h.1, keep W W' hlt h.2 h2 c0 c1 c2⟩
  have cT : ∀ (W : World), B < W.heap.size → Below w.heap.size w W → W.cell? ⟨B, 0, none⟩ = some (.int .i64 k0) → W.cell? ⟨B, 1, none⟩ = some (.int .i64 n0) → W.cell? ⟨B, 2, none⟩ = some (.string a0) →
      Calls Tryd.prog 10 #[.agg #[.int .i64 k0, .int .i64 n0, .string a0]] W fun e W' => e = .returned (.bool b) ∧ B < W'.heap.size ∧ Below w.heap.size w W' ∧ W'.cell? ⟨B, 0, none⟩ = some (.int .i64 k0) ∧ W'.cell? ⟨B, 1, none⟩ = some (.int .i64 n0) ∧ W'.cell? ⟨B, 2, none⟩ = some (.string a0) := by
    intro W hlt h2 c0 c1 c2
    have := TokenMay_any k0 n0 a0 W
    rw [hb] at this
    exact this.mono fun e W' h => ⟨h.1, keep W W' hlt h.2 h2 c0 c1 c2⟩
  clear tab hb keep
  go_enter Tryd.func3, Tryd.ntmps3
  go_wp2
  have s1 : B < (w.alloc (Obj.cells #[Value.int IntKind.i64 k0, Value.int IntKind.i64 n0, Value.string a0] 23)).heap.size := by rw [hB]; simp
  have s2 : Below w.heap.size w (w.alloc (Obj.cells #[Value.int IntKind.i64 k0, Value.int IntKind.i64 n0, Value.string a0] 23)) := (Below.refl _ w).alloc (Nat.le_refl _) _
  have s3 : (w.alloc (Obj.cells #[Value.int IntKind.i64 k0, Value.int IntKind.i64 n0, Value.string a0] 23)).cell? ⟨B, 0, none⟩ = some (.int .i64 k0) := by rw [hB]; simp
  have s4 : (w.alloc (Obj.cells #[Value.int IntKind.i64 k0, Value.int IntKind.i64 n0, Value.string a0] 23)).cell? ⟨B, 1, none⟩ = some (.int .i64 n0) := by rw [hB]; simp
  have s5 : (w.alloc (Obj.cells #[Value.int IntKind.i64 k0, Value.int IntKind.i64 n0, Value.string a0] 23)).cell? ⟨B, 2, none⟩ = some (.string a0) := by rw [hB]; simp
  generalize (w.alloc (Obj.cells #[Value.int IntKind.i64 k0, Value.int IntKind.i64 n0, Value.string a0] 23)) = W0 at s1 s2 s3 s4 s5 ⊢
  rw [← hB]
  clear hB
  have u1 : B < W0.drew.heap.size := s1
  have u2 : Below w.heap.size w W0.drew := s2.drew
  have u3 : W0.drew.cell? ⟨B, 0, none⟩ = some (.int .i64 k0) := s3
  have u4 : W0.drew.cell? ⟨B, 1, none⟩ = some (.int .i64 n0) := s4
  have u5 : W0.drew.cell? ⟨B, 2, none⟩ = some (.string a0) := s5
  have d1 := cM _ u1 u2 u3 u4 u5
  have d2 := cT _ u1 u2 u3 u4 u5
  clear u1 u2 u3 u4 u5 s1 s2
  go_region_with (first
    | (go_at_call 9; (with_reducible refine d1.mono ?_); rintro e w' ⟨rfl, t1, t2, t3, t4, t5⟩)
    | (go_at_call 9; (with_reducible refine (cM _ (by assumption) (by assumption) (by assumption) (by assumption) (by assumption)).mono ?_); rintro e w' ⟨rfl, t1, t2, t3, t4, t5⟩)
    | (go_at_call 10; (with_reducible refine d2.mono ?_); rintro e w' ⟨rfl, t1, t2, t3, t4, t5⟩)
    | (go_at_call 10; (with_reducible refine (cT _ (by assumption) (by assumption) (by assumption) (by assumption) (by assumption)).mono ?_); rintro e w' ⟨rfl, t1, t2, t3, t4, t5⟩))
  all_goals
    go_wp2
    go_ret
    refine ⟨?_, ?_⟩
    · cases b <;> rfl
    · exact t2

/-! ### THE ROW's STEP: WRITTEN OUT: LEAVE IT -/
set_option maxRecDepth 100000 in
theorem lifted (os : Os) (started : os.Started) (H : Type) (enc : TypeId × Value → H) :
    ReturnsInHanded {} Tryd.checked os 3 .any (fun w args => (Rows.lexMaysSpec.pre enc Tryd.prog Tryd.f3 [] false w args ∧ laidMetH Tryd.prog [("unicode/utf8.acceptRanges", Rows.laid_unicode_utf8_acceptRanges), ("commonhold/lex.marks", Rows.laid_commonhold_lex_marks), ("unicode/utf8.first", Rows.laid_unicode_utf8_first)] w) ∧ sizedMet enc Tryd.prog Tryd.f3 (OpenSpec.ofChange Rows.lexMaysSpec) false w args) (Rows.lexMaysSpec.post enc Tryd.prog Tryd.f3 false true false false) := by
  refine returnsInHanded_of_change_and (C := Tryd.checked) (X := fun w _ => laidMetH Tryd.prog [("unicode/utf8.acceptRanges", Rows.laid_unicode_utf8_acceptRanges), ("commonhold/lex.marks", Rows.laid_commonhold_lex_marks), ("unicode/utf8.first", Rows.laid_unicode_utf8_first)] w) (fun _ _ _ hh h => h.of_heap hh) own started (by kernel_rfl) Tryd.func3
    (ChangeSpec.witness_shaped (enc := enc) (C := Tryd.checked) (os := os) (X := fun w _ => laidMetH Tryd.prog [("unicode/utf8.acceptRanges", Rows.laid_unicode_utf8_acceptRanges), ("commonhold/lex.marks", Rows.laid_commonhold_lex_marks), ("unicode/utf8.first", Rows.laid_unicode_utf8_first)] w) false (pinLaid 77 os) #[.agg #[.int .i64 0, .int .i64 0, .string ByteArray.empty]] 8 rfl (World.shaped_of_RefB (by kernel_rfl) (by kernel_rfl)) (by kernel_rfl) (by kernel_rfl) (by kernel_rfl) (laidMetH_of_parts3 (fuel := 8) (laidMet_of_run' 8 (by kernel_rfl) (by kernel_rfl)) (by kernel_rfl) (by kernel_rfl))) ?_
  intro W base args ds gs before hval0 hW hcnd _ hL _
  have hval : ∀ (j : Nat) t v, Tryd.f3.params[j]? = some t → args[j]? = some v → Value.okWide Tryd.prog W .any base t v := hval0
  have hW' := hW
  obtain ⟨p, q, hA0, hV, rfl, hfz, hnd⟩ := hW
  have hA : DataW.TrodAll enc Tryd.prog W 0 (fun _ => true) true Tryd.f3.params.toList args.toList ds p := hA0
  rw [Tryd.params3] at hA hval
  obtain ⟨v0, vs0, d0, ds0, p0, q0, hargs, rfl, rfl, h0, r0⟩ := trodAll_cons hA
  obtain ⟨rfl, rfl, rfl⟩ := trodAll_nil r0
  obtain rfl : args = #[v0] := by cases args; simp_all
  obtain ⟨rfl, rfl⟩ := trodVars_none hV
  obtain ⟨k0, n0, a0, rfl, rfl, rfl, wk0, wn0, w0⟩ := open_tok (hval 0 23 v0 rfl rfl) h0
  clear hA0 hval0
  simp only [List.append_nil] at hW'
  refine (walk k0 n0 a0 wk0 wn0 w0 W (mays_tabs hL)).mono fun e W' ⟨he, bel⟩ => ?_
  subst he
  exact ⟨_, rfl, _, _, _, [], _, [], hW', trodAll_mk1 (shut_bool Tryd.underlying4 _), (trodAll_cons_mk (shut_tok wk0 wn0 w0) trodAll_mk0), rfl, bel.frame _, fun h => by cases h⟩

theorem over : Rows.lexMaysRow.holds Tryd.pinned (OpenSpec.ofChange Rows.lexMaysSpec) :=
  OpenClaim.holds_of_wide 3 Tryd.f3 rfl rfl rfl rfl rfl rfl rfl ⟨rfl, rfl, rfl, rfl, rfl⟩ rfl rfl rfl rfl rfl (by kernel_rfl) Tryd.func3 (by kernel_rfl)
    (of_decide_eq_true (by kernel_rfl)) (by unfold Func.isWrapper; first | (rw [if_pos (by decide +kernel)]; kernel_rfl) | (rw [if_neg (by decide +kernel)]; exact ⟨rfl, rfl⟩))
    (fun os started H enc _ => lifted os started H enc)

/-- ████ THE STATEMENT ████ -/
theorem proved : Rows.LexMaysSaid :=
  over
/-- THE CARD: the row with its listed variable tied to the program's text. -/
theorem carded : Rows.LexMaysCardSaid :=
  Claim7.holds_tied_plain_at .later [] [.data, .data, .pinned] true (true, "830fa781412c04ff2ac1b92954af91001f2c6b31437abcb73ef15b84613ef267") true
    proved (fun _ h => by cases h) (by kernel_rfl) (fun _ h => by cases h) lexMays_row_tie rfl ⟨rfl, rfl⟩ (by kernel_rfl) rfl
    (fun f fn hf hfn => by
      obtain rfl : f = 3 := Option.some.inj ((show Tryd.prog.funcNamed "commonhold/commonholdlaw.LexMays" = some 3 by kernel_rfl).symm.trans hf) |>.symm
      obtain rfl : fn = Tryd.f3 := (Option.some.inj (Tryd.func3.symm.trans hfn)).symm
      exact ⟨by kernel_rfl, fun j t ht => by
        rw [Tryd.params3] at ht
        rcases j with _ | j
        all_goals first | (simp at ht; done) | (simp at ht; subst ht; kernel_rfl)⟩)
    (by kernel_rfl)
end Go.Proofs.YtogkghifpocgmaaDoor.lexMays
namespace Go.Proofs.YtogkghifpocgmaaDoor
theorem lexMays_holds : Rows.LexMaysCardSaid := lexMays.carded
end Go.Proofs.YtogkghifpocgmaaDoor
