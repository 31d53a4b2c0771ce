/- Whatever entries and writes are handed in, exec.Apply answers the entries and the code that the document asks for (P16.1); no condition. -/
import Derived.Test.YtifagjhblngmmaaRows
import Derived.Test.YtifagjhblngmmaaApApplied
import Derived.Test.YtifagjhblngmmaaRtSameL
import Derived.WalkKit
import Derived.ProofKit
import Derived.OpenShut
import Derived.ShutString
import Derived.ChangeOld
import Derived.Below
import Derived.SizedLaws
namespace Go.Proofs.Ytifagjhblngmmaa.execApplies
open Go.ChangeShapes Go.WideShapes Go.ChangeAt Go.RowKit
open Go.ChangeMaps (open_string shut_string)
set_option linter.unusedVariables false

theorem own : ownKnob Try.prog.godebug = none := by kernel_rfl
theorem laidOut : laidOutB Try.prog = true := by kernel_rfl

/-- WHAT THE WALK IS TOLD OF A SLICE OF INTEGERS THAT CAME IN: it is nil; or it leads to a row of 'cap' cells, the numbers 'zs' (the first 'len' are its elements, the rest its spare room), each fitting its kind. -/
def IsRow (k : IntKind) (w : World) (a : Option Addr) (len cap : Nat) (zs : List Int) : Prop :=
  (a = none ∧ len = 0 ∧ cap = 0 ∧ zs = []) ∨
  ∃ x, a = some x ∧ len ≤ cap ∧ cap ≤ maxLen ∧ zs.length = cap ∧ (∀ i, i < zs.length → w.cell? (x.add i) = some (.int k (zs.getD i 0))) ∧ ∀ n ∈ zs, (Lit.int k n).wf = true

/-! ### STEP 1: THE WALK: the Go text returns true, AND WRITES NOTHING THAT WAS THERE: 'Below w.heap.size w w'' (Derived/Below.lean: '.refl', '.alloc', '.drew', '.setCell' at a new block, '.trans'). Open each 'IsRow' by 'rcases' AHEAD of 'go_enter'; part every test ahead of the walk. -/
set_option maxHeartbeats 4000000 in
theorem walk (a0 : Option Addr) (len0 cap0 : Nat) (z0 : List Ent) (a1 : Option Addr) (len1 cap1 : Nat) (z1 : List Write1) (w : World) (w0 : len0 = z0.length ∧ Lies kEnt (fun _ => True) w a0 cap0 z0) (w1 : len1 = z1.length ∧ Lies kWr (fun _ => True) w a1 cap1 z1) :
    Calls Try.prog 3 #[.slice a0 len0 cap0, .slice a1 len1 cap1] w fun e w' => e = .returned (.bool true) ∧ Below w.heap.size w w' := by
  obtain ⟨hl, hL⟩ := w0
  obtain ⟨hm, hM⟩ := w1
  have cP : Hid (Calls Try.prog 4 #[.slice a0 len0 cap0, .slice a1 len1 cap1] w fun e w' => ∃ (code : Int) (a : Option Addr) (n c : Nat), e = .returned (.tuple #[.slice a n c, .int .i64 code]) ∧ Hid (∃ out, AnsIs z0 z1 out code ∧ n = out.length ∧ Lies kEnt (fun _ => True) w' a c out ∧ Below w.heap.size w w')) := by
    rw [hl, hm]
    by_cases h : 200 < z0.length ∨ 400 < z1.length
    · refine (apply_size z0 z1 h a0 a1 cap0 cap1 w).mono ?_
      rintro e w' ⟨out, code, a, n, c, rfl, h1, h2, h3, h4⟩
      exact ⟨code, a, n, c, rfl, out, h1, h2, h3, h4⟩
    · refine (apply_any z0 z1 (by omega) (by omega) a0 a1 cap0 cap1 w hL hM).mono ?_
      rintro e w' ⟨out, code, a, n, c, rfl, h1, h2, h3, h4⟩
      exact ⟨code, a, n, c, rfl, out, h1, h2, h3, h4⟩
  have cR : Hid (∀ (W : World) (code : Int) (a : Option Addr) (n c : Nat), (∃ out, AnsIs z0 z1 out code ∧ n = out.length ∧ Lies kEnt (fun _ => True) W a c out ∧ Below w.heap.size w W) → Calls Try.prog 5 #[.slice a0 len0 cap0, .slice a1 len1 cap1] W fun e w' => ∃ (a' : Option Addr) (n' c' : Nat), e = .returned (.tuple #[.slice a' n' c', .int .i64 code]) ∧ Hid (∃ out, out.length ≤ 200 ∧ (n = out.length ∧ Lies kEnt (fun _ => True) w' a c out) ∧ (n' = out.length ∧ Lies kEnt (fun _ => True) w' a' c' out) ∧ Below w.heap.size w w')) := fun W code a n c ⟨out, g0, g1, g2, g3⟩ => by
    have hh : Calls Try.prog 5 #[.slice a0 len0 cap0, .slice a1 len1 cap1] W fun e w' => APost z0 z1 W e w' := by
      rw [hl, hm]
      by_cases h : 200 < z0.length ∨ 400 < z1.length
      · exact applied_size z0 z1 h a0 a1 cap0 cap1 W
      · exact applied_any z0 z1 (by omega) (by omega) a0 a1 cap0 cap1 W (hL.later g3) (hM.later g3)
    refine hh.mono ?_
    rintro e w' ⟨out', code', a', n', c', rfl, h1, h2, h3, h4⟩
    obtain ⟨rfl, rfl⟩ := g0.one h1
    exact ⟨a', n', c', rfl, out, g0.few, ⟨g1, g2.later h4⟩, ⟨h2, h3⟩, g3.trans (h4.mono g3.size)⟩
  have cS : Hid (∀ (W : World) (a : Option Addr) (n c : Nat) (a' : Option Addr) (n' c' : Nat), (∃ out, out.length ≤ 200 ∧ (n = out.length ∧ Lies kEnt (fun _ => True) W a c out) ∧ (n' = out.length ∧ Lies kEnt (fun _ => True) W a' c' out) ∧ Below w.heap.size w W) → Calls Try.prog 6 #[.slice a n c, .slice a' n' c'] W fun e w' => e = .returned (.bool true) ∧ Hid (Below w.heap.size w w')) := fun W a n c a' n' c' ⟨out, g0, ⟨g1, g2⟩, ⟨g3, g4⟩, g5⟩ => by
    subst g1 g3
    refine (sameEntriesL_q _ _ out out (by omega) a a' c c' W g2 g4).mono ?_
    rintro e w' ⟨rfl, j, rfl⟩
    exact ⟨by simp, g5.trans ((drawn_below (Below.refl _ W) j).mono g5.size)⟩
  clear hl hL hm hM
  go_enter Try.func3, Try.ntmps3
  go_wp2_with (first
    | (go_at_call 4; refine cP.out.mono ?_; clear cP; rintro e w1 ⟨code, a, n, c, rfl, H1⟩)
    | (go_at_call 5; refine (cR.out _ _ _ _ _ H1.out).mono ?_; clear cR; rintro e w2 ⟨a', n', c', rfl, H2⟩)
    | (go_at_call 6; refine (cS.out _ _ _ _ _ _ _ H2.out).mono ?_; clear cS; rintro e w3 ⟨rfl, H3⟩))
  go_ret
  exact ⟨rfl, H3.out⟩

/-! ### THE ROW's STEP: WRITTEN OUT: LEAVE IT -/
set_option maxRecDepth 100000 in
theorem lifted (os : Os) (started : os.Started) (H : Type) (enc : TypeId × Value → H) :
    ReturnsInHanded {} Try.checked os 3 .any (Rows.execAppliesSpec.pre6 enc Try.prog Try.f3 Rows.execAppliesRow.domain false) (Rows.execAppliesSpec.post enc Try.prog Try.f3 false true false false) := by
  refine returnsInHanded_of_change_sized (C := Try.checked) own started (by kernel_rfl) Try.func3
    (ChangeSpec.witness6 (enc := enc) (C := Try.checked) false ⟨#[], #[.slice none 0 0, .slice none 0 0], []⟩ 8 (by kernel_rfl) (by kernel_rfl) (by kernel_rfl) (by kernel_rfl)) ?_
  intro W base args ds gs before hval0 hW hcnd hsz0 _
  have hval : ∀ (j : Nat) t v, Try.f3.params[j]? = some t → args[j]? = some v → Value.okWide Try.prog W .any base t v := hval0
  have hW' := hW
  obtain ⟨p, q, hA0, hV, rfl, hfz, hnd⟩ := hW
  have hA : DataW.TrodAll enc Try.prog W 0 (fun _ => true) true Try.f3.params.toList args.toList ds p := hA0
  have hsz : (DataW.weightsEach Try.prog (Try.f3.params.toList ++ Rows.execAppliesSpec.plain.varTypes Try.prog) (ds ++ gs)).all (· ≤ reachBytes) = true := hsz0
  clear hsz0
  rw [Try.params3] at hA hval hsz
  obtain ⟨v0, vs0, d0, ds0, p0, q0, hargs, rfl, rfl, h0, r0⟩ := trodAll_cons hA
  obtain ⟨v1, vs1, d1, ds1, p1, q1, rfl, rfl, rfl, h1, r1⟩ := trodAll_cons r0
  obtain ⟨rfl, rfl, rfl⟩ := trodAll_nil r1
  obtain rfl : args = #[v0, v1] := by cases args; simp_all
  obtain ⟨rfl, rfl⟩ := trodVars_none hV
  obtain ⟨a0, len0, cap0, rfl⟩ := okWide_slice Try.underlying22 (hval 0 22 v0 rfl rfl)
  have k0 := h0
  have lt0 : ∀ x ∈ p0, x.block < W.heap.size := by obtain ⟨m, hm⟩ := k0; exact DataW.trod_lt m _ _ _ hm
  obtain ⟨z0, w0⟩ : ∃ ls : List Ent, len0 = ls.length ∧ Lies kEnt (fun _ => True) W a0 cap0 ls := by
    obtain ⟨fuel, hf⟩ := h0
    exact ents_arg hsz (j := 0) rfl rfl (by simp [Value.cells]) hf
  obtain ⟨a1, len1, cap1, rfl⟩ := okWide_slice Try.underlying23 (hval 1 23 v1 rfl rfl)
  have k1 := h1
  have lt1 : ∀ x ∈ p1, x.block < W.heap.size := by obtain ⟨m, hm⟩ := k1; exact DataW.trod_lt m _ _ _ hm
  obtain ⟨z1, w1⟩ : ∃ ls : List Write1, len1 = ls.length ∧ Lies kWr (fun _ => True) W a1 cap1 ls := by
    obtain ⟨fuel, hf⟩ := h1
    exact writes_arg hsz (j := 1) rfl rfl (by simp [Value.cells]) hf
  clear hA0 hval0
  refine (walk a0 len0 cap0 z0 a1 len1 cap1 z1 W w0 w1).mono fun e W' ⟨he, bel⟩ => ?_
  subst he
  exact ⟨_, rfl, _, _, _, [], _, [], hW', trodAll_mk1 (shut_bool Try.underlying4 _), (trodAll_cons_mk (Below.trod laidOut (by kernel_rfl) (of_decide_eq_true (by kernel_rfl)) k0 bel lt0) (trodAll_cons_mk (Below.trod laidOut (by kernel_rfl) (of_decide_eq_true (by kernel_rfl)) k1 bel lt1) trodAll_mk0)), rfl, bel.frame _, fun h => by cases h⟩

theorem over : Rows.execAppliesRow.holds Try.pinned (OpenSpec.ofChange Rows.execAppliesSpec) :=
  OpenClaim.holds_of_wide 3 Try.f3 rfl rfl rfl rfl rfl rfl rfl ⟨rfl, rfl, rfl, rfl, rfl⟩ rfl rfl rfl rfl rfl (by kernel_rfl) Try.func3 (by kernel_rfl)
    (of_decide_eq_true (by kernel_rfl)) (by unfold Func.isWrapper; first | (rw [if_pos (by decide +kernel)]; kernel_rfl) | (rw [if_neg (by decide +kernel)]; exact ⟨rfl, rfl⟩))
    (fun os started H enc _ => lifted os started H enc)

/-- ████ THE STATEMENT ████ -/
theorem proved : Rows.ExecAppliesSaid := over
end Go.Proofs.Ytifagjhblngmmaa.execApplies
namespace Go.Proofs.Ytifagjhblngmmaa
theorem execApplies_holds : Rows.ExecAppliesSaid := execApplies.proved
end Go.Proofs.Ytifagjhblngmmaa
