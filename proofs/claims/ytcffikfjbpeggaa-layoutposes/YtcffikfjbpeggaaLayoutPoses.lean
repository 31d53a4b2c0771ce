/- layout answers what P20.2 says of places and positions. -/
import Derived.Test.YtcffikfjbpeggaaRows
import Derived.Test.YtcffikfjbpeggaaLayArg
import Derived.Test.YtcffikfjbpeggaaLyPos
import Derived.Test.YtcffikfjbpeggaaRfPlace
import Derived.WalkKit
import Derived.ProofKit
import Derived.OpenShut
import Derived.ShutString
import Derived.ChangeOld
import Derived.Below
import Derived.SizedLaws
namespace Go.Proofs.Ytcffikfjbpeggaa.layoutPoses
open Go.ChangeShapes Go.WideShapes Go.ChangeAt Go.RowKit
open Go.ChangeMaps (open_string shut_string)
set_option linter.unusedVariables false

theorem own : ownKnob Try.prog.godebug = none := by kernel_rfl
theorem laidOut : laidOutB Try.prog = true := by kernel_rfl

/-- WHAT THE WALK IS TOLD OF A SLICE OF INTEGERS THAT CAME IN: it is nil; or it leads to a row of 'cap' cells, the numbers 'zs' (the first 'len' are its elements, the rest its spare room), each fitting its kind. -/
def IsRow (k : IntKind) (w : World) (a : Option Addr) (len cap : Nat) (zs : List Int) : Prop :=
  (a = none ∧ len = 0 ∧ cap = 0 ∧ zs = []) ∨
  ∃ x, a = some x ∧ len ≤ cap ∧ cap ≤ maxLen ∧ zs.length = cap ∧ (∀ i, i < zs.length → w.cell? (x.add i) = some (.int k (zs.getD i 0))) ∧ ∀ n ∈ zs, (Lit.int k n).wf = true

/-! ### STEP 1: THE WALK: the Go text returns true, AND WRITES NOTHING THAT WAS THERE: 'Below w.heap.size w w'' (Derived/Below.lean: '.refl', '.alloc', '.drew', '.setCell' at a new block, '.trans'). Open each 'IsRow' by 'rcases' AHEAD of 'go_enter'; part every test ahead of the walk. -/
set_option maxHeartbeats 4000000 in
theorem walk (v0 : Value) (a1 : Int) (a2 : Int) (w : World) (w0 : LayArg w v0) (w1 : (Lit.int .i64 a1).wf = true) (w2 : (Lit.int .i64 a2).wf = true) :
    Calls Try.prog 5 #[v0, .int .i64 a1, .int .i64 a2] w fun e w' => e = .returned (.bool true) ∧ Below w.heap.size w w' := by
  obtain ⟨ep, cs, a, c, rfl, hf, hL, -, -⟩ := w0
  obtain ⟨x, y, ht⟩ : ∃ x y : Int, two (psn (mayL ep cs) cs.length a1 a2) = .tuple #[.int .i64 x, .int .i64 y] := ⟨_, _, rfl⟩
  have c1 : Hid (∀ V, Below w.heap.size w V → Calls Try.prog 13 #[.agg #[.int .i64 ep, .slice a cs.length c], .int .i64 a1, .int .i64 a2] V fun e w' => e = .returned (.tuple #[.int .i64 x, .int .i64 y]) ∧ Below V.heap.size V w') := fun V hV => by
    rw [← ht]
    exact Pos_any ep a1 a2 a c cs hf V (hL.move (Kept.of_below hV) (fun b hb _ => Nat.lt_of_lt_of_le hb hV.size))
  have c2 : Hid (∀ V, Below w.heap.size w V → Calls Try.prog 14 #[.agg #[.int .i64 ep, .slice a cs.length c], .int .i64 a1, .int .i64 a2] V fun e w' => e = .returned (.tuple #[.int .i64 x, .int .i64 y]) ∧ Below V.heap.size V w') := fun V hV => by
    rw [← ht]
    exact PosOf_any ep a1 a2 a c cs hf V (hL.move (Kept.of_below hV) (fun b hb _ => Nat.lt_of_lt_of_le hb hV.size))
  clear hf hL ht
  generalize cs.length = n1 at c1 c2 ⊢
  have HA := put_by ((Below.refl w.heap.size w).alloc (Nat.le_refl _) (.cells #[.int .i64 ep, .slice a n1 c] 24))
  have HK : Hid (∀ V, Below (w.alloc (.cells #[.int .i64 ep, .slice a n1 c] 24)).heap.size (w.alloc (.cells #[.int .i64 ep, .slice a n1 c] 24)) V → V.cell? ⟨w.heap.size, 0, none⟩ = some (.int .i64 ep) ∧ V.cell? ⟨w.heap.size, 1, none⟩ = some (.slice a n1 c)) := fun V hV => ⟨(hV.cell (p := ⟨w.heap.size, 0, none⟩) (by simp)).trans (by simp), (hV.cell (p := ⟨w.heap.size, 1, none⟩) (by simp)).trans (by simp)⟩
  go_enter Try.func5, Try.ntmps5
  go_wp2_with first
    | (go_at_call 13; (with_reducible refine (c1.out _ HA.out).mono ?_); clear c1; rintro e V1 ⟨rfl, h1⟩; obtain ⟨j0, j1⟩ := HK.out _ h1; have H1 := put_by (HA.out.trans (h1.mono HA.out.size)); clear h1)
    | (go_at_call 14; (with_reducible refine (c2.out _ H1.out).mono ?_); clear c2; rintro e V2 ⟨rfl, h2⟩; have H2 := put_by (H1.out.trans (h2.mono H1.out.size)); clear h2)
  go_ret
  exact ⟨by simp, H2.out⟩

/-! ### THE ROW's STEP: WRITTEN OUT: LEAVE IT -/
set_option maxRecDepth 100000 in
theorem lifted (os : Os) (started : os.Started) (H : Type) (enc : TypeId × Value → H) :
    ReturnsInHanded {} Try.checked os 5 .any (Rows.layoutPosesSpec.pre6 enc Try.prog Try.f5 Rows.layoutPosesRow.domain false) (Rows.layoutPosesSpec.post enc Try.prog Try.f5 false true false false) := by
  refine returnsInHanded_of_change_sized (C := Try.checked) own started (by kernel_rfl) Try.func5
    (ChangeSpec.witness6 (enc := enc) (C := Try.checked) false ⟨#[], #[.agg #[.int .i64 0, .slice none 0 0], .int .i64 0, .int .i64 0], []⟩ 8 (by kernel_rfl) (by kernel_rfl) (by kernel_rfl) (by kernel_rfl)) ?_
  intro W base args ds gs before hval0 hW hcnd hsz0 _
  have hval : ∀ (j : Nat) t v, Try.f5.params[j]? = some t → args[j]? = some v → Value.okWide Try.prog W .any base t v := hval0
  have hW' := hW
  obtain ⟨p, q, hA0, hV, rfl, hfz, hnd⟩ := hW
  have hA : DataW.TrodAll enc Try.prog W 0 (fun _ => true) true Try.f5.params.toList args.toList ds p := hA0
  have hsz : (DataW.weightsEach Try.prog (Try.f5.params.toList ++ Rows.layoutPosesSpec.plain.varTypes Try.prog) (ds ++ gs)).all (· ≤ reachBytes) = true := hsz0
  clear hsz0
  rw [Try.params5] at hA hval hsz
  obtain ⟨v0, vs0, d0, ds0, p0, q0, hargs, rfl, rfl, h0, r0⟩ := trodAll_cons hA
  obtain ⟨v1, vs1, d1, ds1, p1, q1, rfl, rfl, rfl, h1, r1⟩ := trodAll_cons r0
  obtain ⟨v2, vs2, d2, ds2, p2, q2, rfl, rfl, rfl, h2, r2⟩ := trodAll_cons r1
  obtain ⟨rfl, rfl, rfl⟩ := trodAll_nil r2
  obtain rfl : args = #[v0, v1, v2] := by cases args; simp_all
  obtain ⟨rfl, rfl⟩ := trodVars_none hV
  have k0 := h0
  have lt0 : ∀ x ∈ p0, x.block < W.heap.size := by obtain ⟨m, hm⟩ := k0; exact DataW.trod_lt m _ _ _ hm
  have w0 : LayArg W v0 := lay_arg hsz (j := 0) rfl rfl (hval 0 24 v0 rfl rfl) h0
  obtain ⟨a1, rfl, rfl, rfl, w1⟩ := open_int Try.underlying3 (hval 1 3 v1 rfl rfl) h1
  obtain ⟨a2, rfl, rfl, rfl, w2⟩ := open_int Try.underlying3 (hval 2 3 v2 rfl rfl) h2
  clear hA0 hval0
  refine (walk v0 a1 a2 W w0 w1 w2).mono fun e W' ⟨he, bel⟩ => ?_
  subst he
  exact ⟨_, rfl, _, _, _, [], _, [], hW', trodAll_mk1 (shut_bool Try.underlying4 _), (trodAll_cons_mk (Below.trod laidOut (by kernel_rfl) (of_decide_eq_true (by kernel_rfl)) k0 bel lt0) (trodAll_cons_mk (shut_int Try.underlying3 w1) (trodAll_cons_mk (shut_int Try.underlying3 w2) trodAll_mk0))), rfl, bel.frame _, fun h => by cases h⟩

theorem over : Rows.layoutPosesRow.holds Try.pinned (OpenSpec.ofChange Rows.layoutPosesSpec) :=
  OpenClaim.holds_of_wide 5 Try.f5 rfl rfl rfl rfl rfl rfl rfl ⟨rfl, rfl, rfl, rfl, rfl⟩ rfl rfl rfl rfl rfl (by kernel_rfl) Try.func5 (by kernel_rfl)
    (of_decide_eq_true (by kernel_rfl)) (by unfold Func.isWrapper; first | (rw [if_pos (by decide +kernel)]; kernel_rfl) | (rw [if_neg (by decide +kernel)]; exact ⟨rfl, rfl⟩))
    (fun os started H enc _ => lifted os started H enc)

/-- ████ THE STATEMENT ████ -/
theorem proved : Rows.LayoutPosesSaid := over
end Go.Proofs.Ytcffikfjbpeggaa.layoutPoses
namespace Go.Proofs.Ytcffikfjbpeggaa
theorem layoutPoses_holds : Rows.LayoutPosesSaid := layoutPoses.proved
end Go.Proofs.Ytcffikfjbpeggaa
