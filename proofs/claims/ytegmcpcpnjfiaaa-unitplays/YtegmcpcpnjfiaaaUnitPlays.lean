/- A unit of slots answers what its chapter says of every row of jobs. -/
import Derived.Test.YtegmcpcpnjfiaaaRows
import Derived.Test.YtegmcpcpnjfiaaaJobArg
import Derived.Test.YtegmcpcpnjfiaaaUnRun
import Derived.Test.YtegmcpcpnjfiaaaUnRefRun
import Derived.Test.YtegmcpcpnjfiaaaUnSame
import Derived.WalkKit
import Derived.ProofKit
import Derived.OpenShut
import Derived.ShutString
import Derived.ChangeOld
import Derived.Below
import Derived.SizedLaws
namespace Go.Proofs.Ytegmcpcpnjfiaaa.unitPlays
open Go.ChangeShapes Go.WideShapes Go.ChangeAt Go.RowKit
open Go.ChangeMaps (open_string shut_string)
set_option linter.unusedVariables false

theorem own : ownKnob Try.prog.godebug = none := by kernel_rfl
theorem laidOut : laidOutB Try.prog = true := by kernel_rfl

/-- WHAT THE WALK IS TOLD OF A SLICE OF INTEGERS THAT CAME IN: it is nil; or it leads to a row of 'cap' cells, the numbers 'zs' (the first 'len' are its elements, the rest its spare room), each fitting its kind. -/
def IsRow (k : IntKind) (w : World) (a : Option Addr) (len cap : Nat) (zs : List Int) : Prop :=
  (a = none ∧ len = 0 ∧ cap = 0 ∧ zs = []) ∨
  ∃ x, a = some x ∧ len ≤ cap ∧ cap ≤ maxLen ∧ zs.length = cap ∧ (∀ i, i < zs.length → w.cell? (x.add i) = some (.int k (zs.getD i 0))) ∧ ∀ n ∈ zs, (Lit.int k n).wf = true

/-! ### STEP 1: THE WALK: the Go text returns true, AND WRITES NOTHING THAT WAS THERE: 'Below w.heap.size w w'' (Derived/Below.lean: '.refl', '.alloc', '.drew', '.setCell' at a new block, '.trans'). Open each 'IsRow' by 'rcases' AHEAD of 'go_enter'; part every test ahead of the walk. -/
set_option maxHeartbeats 4000000 in
theorem walk (a0 : Option Addr) (len0 cap0 : Nat) (z0 : List Jb) (w : World) (w0 : len0 = z0.length ∧ Lies kJb (fun _ => True) w a0 cap0 z0) :
    Calls Try.prog 3 #[.slice a0 len0 cap0] w fun e w' => e = .returned (.bool true) ∧ Below w.heap.size w w' := by
  obtain ⟨hl, hL⟩ := w0
  by_cases h4 : len0 ≤ 400
  · have cP : Hid (Calls Try.prog 9 #[.slice a0 len0 cap0] w fun e w' => ∃ (a : Option Addr) (n c : Nat), e = .returned (.tuple #[.slice a n c, .int .i64 0]) ∧ Hid (n = (playU unit0 z0).1.length ∧ Lies kRp (fun _ => True) w' a c (playU unit0 z0).1 ∧ Below w.heap.size w w')) := by
      rw [hl]
      refine (Play_any _ z0 (by omega) a0 cap0 w hL).mono ?_
      rintro e w' ⟨a, n, c, rfl, h1, h2, -, h3⟩
      exact ⟨a, n, c, rfl, by rw [h1, playU_length], h2, h3⟩
    have cR : Hid (∀ (W : World) (a : Option Addr) (n c : Nat), (n = (playU unit0 z0).1.length ∧ Lies kRp (fun _ => True) W a c (playU unit0 z0).1 ∧ Below w.heap.size w W) → Calls Try.prog 10 #[.slice a0 len0 cap0] W fun e w' => ∃ (a' : Option Addr) (n' c' : Nat), e = .returned (.tuple #[.slice a' n' c', .int .i64 0]) ∧ Hid ((n = (playU unit0 z0).1.length ∧ Lies kRp (fun _ => True) w' a c (playU unit0 z0).1) ∧ (n' = (playU unit0 z0).1.length ∧ Lies kRp (fun _ => True) w' a' c' (playU unit0 z0).1) ∧ Below w.heap.size w w')) := fun W a n c ⟨g1, g2, g3⟩ => by
      rw [hl]
      refine (UnitPlayed_any _ z0 (by omega) a0 cap0 W (hL.later g3)).mono ?_
      rintro e w' ⟨a', n', c', rfl, h1, h2, -, h3⟩
      exact ⟨a', n', c', rfl, ⟨g1, g2.later h3⟩, ⟨by rw [h1, playU_length], h2⟩, g3.trans (h3.mono g3.size)⟩
    have cS : Hid (∀ (W : World) (a : Option Addr) (n c : Nat) (a' : Option Addr) (n' c' : Nat), ((n = (playU unit0 z0).1.length ∧ Lies kRp (fun _ => True) W a c (playU unit0 z0).1) ∧ (n' = (playU unit0 z0).1.length ∧ Lies kRp (fun _ => True) W a' c' (playU unit0 z0).1) ∧ Below w.heap.size w W) → Calls Try.prog 11 #[.slice a n c, .slice a' n' c'] W fun e w' => e = .returned (.bool true) ∧ Hid (Below w.heap.size w w')) := fun W a n c a' n' c' ⟨⟨g1, g2⟩, ⟨g3, g4⟩, g5⟩ => by
      subst g1 g3
      refine (sameReplies_eq _ _ _ (by rw [playU_length]; omega) a a' c c' W g2 g4).mono ?_
      rintro e w' ⟨rfl, j, rfl⟩
      exact ⟨rfl, g5.trans ((belowN (Below.refl _ W) j).mono g5.size)⟩
    clear hl hL h4
    go_enter Try.func3, Try.ntmps3
    go_wp2_with (first
      | (go_at_call 9; refine cP.out.mono ?_; clear cP; rintro e w1 ⟨a, n, c, rfl, H1⟩)
      | (go_at_call 10; refine (cR.out _ _ _ _ H1.out).mono ?_; clear cR; rintro e w2 ⟨a', n', c', rfl, H2⟩)
      | (go_at_call 11; refine (cS.out _ _ _ _ _ _ _ H2.out).mono ?_; clear cS; rintro e w3 ⟨rfl, H3⟩))
    go_ret
    exact ⟨rfl, H3.out⟩
  · have h5 : 400 < len0 := by omega
    have cP : Hid (∀ W, Calls Try.prog 9 #[.slice a0 len0 cap0] W fun e w' => e = .returned (.tuple #[.slice none 0 0, .int .i64 1]) ∧ w' = W) := fun W => Play_many len0 h5 a0 cap0 W
    have cR : Hid (∀ W, Calls Try.prog 10 #[.slice a0 len0 cap0] W fun e w' => e = .returned (.tuple #[.slice none 0 0, .int .i64 1]) ∧ w' = W) := fun W => UnitPlayed_many len0 h5 a0 cap0 W
    have cS : Hid (∀ W, Calls Try.prog 11 #[.slice none 0 0, .slice none 0 0] W fun e w' => e = .returned (.bool true) ∧ Hid (Below W.heap.size W w')) := fun W => by
      refine (sameReplies_eq (fun _ => True) (fun _ => True) [] (by simp) none none 0 0 W (Lies.nil _ _ _ (fun _ => rfl)) (Lies.nil _ _ _ (fun _ => rfl))).mono ?_
      rintro e w' ⟨rfl, j, rfl⟩
      exact ⟨rfl, belowN (Below.refl _ W) j⟩
    clear hl hL h4 h5
    go_enter Try.func3, Try.ntmps3
    go_wp2_with (first
      | (go_at_call 9; refine (cP.out _).mono ?_; clear cP; rintro e w1 ⟨rfl, rfl⟩)
      | (go_at_call 10; refine (cR.out _).mono ?_; clear cR; rintro e w2 ⟨rfl, rfl⟩)
      | (go_at_call 11; refine (cS.out _).mono ?_; clear cS; rintro e w3 ⟨rfl, H3⟩))
    go_ret
    exact ⟨rfl, H3.out⟩

/-! ### THE ROW's STEP: WRITTEN OUT: LEAVE IT -/
set_option maxRecDepth 100000 in
theorem lifted (os : Os) (started : os.Started) (H : Type) (enc : TypeId × Value → H) :
    ReturnsInHanded {} Try.checked os 3 .any (Rows.unitPlaysSpec.pre6 enc Try.prog Try.f3 Rows.unitPlaysRow.domain false) (Rows.unitPlaysSpec.post enc Try.prog Try.f3 false true false false) := by
  refine returnsInHanded_of_change_sized (C := Try.checked) own started (by kernel_rfl) Try.func3
    (ChangeSpec.witness6 (enc := enc) (C := Try.checked) false ⟨#[], #[.slice none 0 0], []⟩ 8 (by kernel_rfl) (by kernel_rfl) (by kernel_rfl) (by kernel_rfl)) ?_
  intro W base args ds gs before hval0 hW hcnd hsz0 _
  have hval : ∀ (j : Nat) t v, Try.f3.params[j]? = some t → args[j]? = some v → Value.okWide Try.prog W .any base t v := hval0
  have hW' := hW
  obtain ⟨p, q, hA0, hV, rfl, hfz, hnd⟩ := hW
  have hA : DataW.TrodAll enc Try.prog W 0 (fun _ => true) true Try.f3.params.toList args.toList ds p := hA0
  have hsz : (DataW.weightsEach Try.prog (Try.f3.params.toList ++ Rows.unitPlaysSpec.plain.varTypes Try.prog) (ds ++ gs)).all (· ≤ reachBytes) = true := hsz0
  clear hsz0
  rw [Try.params3] at hA hval hsz
  obtain ⟨v0, vs0, d0, ds0, p0, q0, hargs, rfl, rfl, h0, r0⟩ := trodAll_cons hA
  obtain ⟨rfl, rfl, rfl⟩ := trodAll_nil r0
  obtain rfl : args = #[v0] := by cases args; simp_all
  obtain ⟨rfl, rfl⟩ := trodVars_none hV
  obtain ⟨a0, len0, cap0, rfl⟩ := okWide_slice Try.underlying22 (hval 0 22 v0 rfl rfl)
  have k0 := h0
  have lt0 : ∀ x ∈ p0, x.block < W.heap.size := by obtain ⟨m, hm⟩ := k0; exact DataW.trod_lt m _ _ _ hm
  obtain ⟨z0, w0⟩ : ∃ ls : List Jb, len0 = ls.length ∧ Lies kJb (fun _ => True) W a0 cap0 ls := by
    obtain ⟨fuel, hf⟩ := h0
    exact jobs_arg hsz (j := 0) rfl rfl (by simp [Value.cells]) hf
  clear hA0 hval0
  refine (walk a0 len0 cap0 z0 W w0).mono fun e W' ⟨he, bel⟩ => ?_
  subst he
  exact ⟨_, rfl, _, _, _, [], _, [], hW', trodAll_mk1 (shut_bool Try.underlying4 _), (trodAll_cons_mk (Below.trod laidOut (by kernel_rfl) (of_decide_eq_true (by kernel_rfl)) k0 bel lt0) trodAll_mk0), rfl, bel.frame _, fun h => by cases h⟩

theorem over : Rows.unitPlaysRow.holds Try.pinned (OpenSpec.ofChange Rows.unitPlaysSpec) :=
  OpenClaim.holds_of_wide 3 Try.f3 rfl rfl rfl rfl rfl rfl rfl ⟨rfl, rfl, rfl, rfl, rfl⟩ rfl rfl rfl rfl rfl (by kernel_rfl) Try.func3 (by kernel_rfl)
    (of_decide_eq_true (by kernel_rfl)) (by unfold Func.isWrapper; first | (rw [if_pos (by decide +kernel)]; kernel_rfl) | (rw [if_neg (by decide +kernel)]; exact ⟨rfl, rfl⟩))
    (fun os started H enc _ => lifted os started H enc)

/-- ████ THE STATEMENT ████ -/
theorem proved : Rows.UnitPlaysSaid := over
end Go.Proofs.Ytegmcpcpnjfiaaa.unitPlays
namespace Go.Proofs.Ytegmcpcpnjfiaaa
theorem unitPlays_holds : Rows.UnitPlaysSaid := unitPlays.proved
end Go.Proofs.Ytegmcpcpnjfiaaa
