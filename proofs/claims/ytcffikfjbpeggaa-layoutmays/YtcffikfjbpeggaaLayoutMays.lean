/- layout.May answers what P20.1 says. -/
import Derived.Test.YtcffikfjbpeggaaRows
import Derived.Test.YtcffikfjbpeggaaLayArg
import Derived.Test.YtcffikfjbpeggaaRfLyMay2
import Derived.WalkKit
import Derived.ProofKit
import Derived.OpenShut
import Derived.ShutString
import Derived.ChangeOld
import Derived.Below
import Derived.SizedLaws
namespace Go.Proofs.Ytcffikfjbpeggaa.layoutMays
open Go.ChangeShapes Go.WideShapes Go.ChangeAt Go.RowKit
open Go.ChangeMaps (open_string shut_string)
set_option linter.unusedVariables false

theorem own : ownKnob Try.prog.godebug = none := by kernel_rfl
theorem laidOut : laidOutB Try.prog = true := by kernel_rfl

/-- WHAT THE WALK IS TOLD OF A SLICE OF INTEGERS THAT CAME IN: it is nil; or it leads to a row of 'cap' cells, the numbers 'zs' (the first 'len' are its elements, the rest its spare room), each fitting its kind. -/
def IsRow (k : IntKind) (w : World) (a : Option Addr) (len cap : Nat) (zs : List Int) : Prop :=
  (a = none ∧ len = 0 ∧ cap = 0 ∧ zs = []) ∨
  ∃ x, a = some x ∧ len ≤ cap ∧ cap ≤ maxLen ∧ zs.length = cap ∧ (∀ i, i < zs.length → w.cell? (x.add i) = some (.int k (zs.getD i 0))) ∧ ∀ n ∈ zs, (Lit.int k n).wf = true

/-! ### STEP 1: THE WALK: the Go text returns true, AND WRITES NOTHING THAT WAS THERE: 'Below w.heap.size w w'' (Derived/Below.lean: '.refl', '.alloc', '.drew', '.setCell' at a new block, '.trans'). Open each 'IsRow' by 'rcases' AHEAD of 'go_enter'; part every test ahead of the walk. -/
theorem walk (v0 : Value) (w : World) (w0 : LayArg w v0) :
    Calls Try.prog 3 #[v0] w fun e w' => e = .returned (.bool true) ∧ Below w.heap.size w w' := by
  obtain ⟨ep, cs, a, c, rfl, hf, hL, -, -⟩ := w0
  obtain ⟨R, hR⟩ : ∃ R, R = mayL ep cs := ⟨_, rfl⟩
  have c1 : Hid (∀ V, Below w.heap.size w V → Calls Try.prog 9 #[.agg #[.int .i64 ep, .slice a cs.length c]] V fun e w' => e = .returned (.bool R) ∧ Below V.heap.size V w') := fun V hV => by
    rw [hR]
    exact May_any ep a c cs hf V (hL.move (Kept.of_below hV) (fun b hb _ => Nat.lt_of_lt_of_le hb hV.size))
  have c2 : Hid (∀ V, Below w.heap.size w V → Calls Try.prog 10 #[.agg #[.int .i64 ep, .slice a cs.length c]] V fun e w' => e = .returned (.bool R) ∧ Below V.heap.size V w') := fun V hV => by
    rw [hR]
    exact LayoutMay_any ep a c cs hf V (hL.move (Kept.of_below hV) (fun b hb _ => Nat.lt_of_lt_of_le hb hV.size))
  clear hf hL hR
  generalize cs.length = n1 at c1 c2 ⊢
  have HA := put_by ((Below.refl w.heap.size w).alloc (Nat.le_refl _) (.cells #[.int .i64 ep, .slice a n1 c] 24))
  have HK : Hid (∀ V, Below (w.alloc (.cells #[.int .i64 ep, .slice a n1 c] 24)).heap.size (w.alloc (.cells #[.int .i64 ep, .slice a n1 c] 24)) V → V.cell? ⟨w.heap.size, 0, none⟩ = some (.int .i64 ep) ∧ V.cell? ⟨w.heap.size, 1, none⟩ = some (.slice a n1 c)) := fun V hV => ⟨(hV.cell (p := ⟨w.heap.size, 0, none⟩) (by simp)).trans (by simp), (hV.cell (p := ⟨w.heap.size, 1, none⟩) (by simp)).trans (by simp)⟩
  go_enter Try.func3, Try.ntmps3
  go_upto_region 1 with (fail)
  generalize w.alloc (.cells #[.int .i64 ep, .slice a n1 c] 24) = W0 at HA HK ⊢
  have d1 : Hid (∀ V, Below W0.heap.size W0 V → Calls Try.prog 9 #[.agg #[.int .i64 ep, .slice a n1 c]] V fun e w' => e = .returned (.bool R) ∧ (w'.cell? ⟨w.heap.size, 0, none⟩ = some (.int .i64 ep) ∧ w'.cell? ⟨w.heap.size, 1, none⟩ = some (.slice a n1 c)) ∧ Hid (Below W0.heap.size W0 w')) := fun V hV => (c1.out V (HA.out.trans (hV.mono HA.out.size))).mono (fun e w' h => ⟨h.1, HK.out _ (hV.trans (h.2.mono hV.size)), hV.trans (h.2.mono hV.size)⟩)
  have d2 : Hid (∀ V, Below W0.heap.size W0 V → Calls Try.prog 10 #[.agg #[.int .i64 ep, .slice a n1 c]] V fun e w' => e = .returned (.bool R) ∧ (w'.cell? ⟨w.heap.size, 0, none⟩ = some (.int .i64 ep) ∧ w'.cell? ⟨w.heap.size, 1, none⟩ = some (.slice a n1 c)) ∧ Hid (Below W0.heap.size W0 w')) := fun V hV => (c2.out V (HA.out.trans (hV.mono HA.out.size))).mono (fun e w' h => ⟨h.1, HK.out _ (hV.trans (h.2.mono hV.size)), hV.trans (h.2.mono hV.size)⟩)
  clear c1 c2
  have HD := put_by ((Below.refl W0.heap.size W0).drew)
  obtain ⟨k0, k1⟩ := HK.out W0 (Below.refl _ _)
  clear HK
  go_region_held3 (fun V => V.cell? ⟨w.heap.size, 0, none⟩ = some (.int .i64 ep) ∧ V.cell? ⟨w.heap.size, 1, none⟩ = some (.slice a n1 c)) (go_keep) (first
    | (go_at_call 9; (with_reducible refine (d1.out _ HD.out).mono ?_); clear d1; rintro e w1 ⟨rfl, ⟨j0, j1⟩, HD⟩)
    | (go_at_call 10; (with_reducible refine (d2.out _ HD.out).mono ?_); clear d2; rintro e w2 ⟨rfl, ⟨l0, l1⟩, HD⟩))
  all_goals
    go_wp2
    go_ret
    exact ⟨by simp, HA.out.trans (HD.out.mono HA.out.size)⟩

/-! ### THE ROW's STEP: WRITTEN OUT: LEAVE IT -/
set_option maxRecDepth 100000 in
theorem lifted (os : Os) (started : os.Started) (H : Type) (enc : TypeId × Value → H) :
    ReturnsInHanded {} Try.checked os 3 .any (Rows.layoutMaysSpec.pre6 enc Try.prog Try.f3 Rows.layoutMaysRow.domain false) (Rows.layoutMaysSpec.post enc Try.prog Try.f3 false true false false) := by
  refine returnsInHanded_of_change_sized (C := Try.checked) own started (by kernel_rfl) Try.func3
    (ChangeSpec.witness6 (enc := enc) (C := Try.checked) false ⟨#[], #[.agg #[.int .i64 0, .slice none 0 0]], []⟩ 8 (by kernel_rfl) (by kernel_rfl) (by kernel_rfl) (by kernel_rfl)) ?_
  intro W base args ds gs before hval0 hW hcnd hsz0 _
  have hval : ∀ (j : Nat) t v, Try.f3.params[j]? = some t → args[j]? = some v → Value.okWide Try.prog W .any base t v := hval0
  have hW' := hW
  obtain ⟨p, q, hA0, hV, rfl, hfz, hnd⟩ := hW
  have hA : DataW.TrodAll enc Try.prog W 0 (fun _ => true) true Try.f3.params.toList args.toList ds p := hA0
  have hsz : (DataW.weightsEach Try.prog (Try.f3.params.toList ++ Rows.layoutMaysSpec.plain.varTypes Try.prog) (ds ++ gs)).all (· ≤ reachBytes) = true := hsz0
  clear hsz0
  rw [Try.params3] at hA hval hsz
  obtain ⟨v0, vs0, d0, ds0, p0, q0, hargs, rfl, rfl, h0, r0⟩ := trodAll_cons hA
  obtain ⟨rfl, rfl, rfl⟩ := trodAll_nil r0
  obtain rfl : args = #[v0] := by cases args; simp_all
  obtain ⟨rfl, rfl⟩ := trodVars_none hV
  have k0 := h0
  have lt0 : ∀ x ∈ p0, x.block < W.heap.size := by obtain ⟨m, hm⟩ := k0; exact DataW.trod_lt m _ _ _ hm
  have w0 : LayArg W v0 := lay_arg hsz (j := 0) rfl rfl (hval 0 24 v0 rfl rfl) h0
  clear hA0 hval0
  refine (walk v0 W w0).mono fun e W' ⟨he, bel⟩ => ?_
  subst he
  exact ⟨_, rfl, _, _, _, [], _, [], hW', trodAll_mk1 (shut_bool Try.underlying4 _), (trodAll_cons_mk (Below.trod laidOut (by kernel_rfl) (of_decide_eq_true (by kernel_rfl)) k0 bel lt0) trodAll_mk0), rfl, bel.frame _, fun h => by cases h⟩

theorem over : Rows.layoutMaysRow.holds Try.pinned (OpenSpec.ofChange Rows.layoutMaysSpec) :=
  OpenClaim.holds_of_wide 3 Try.f3 rfl rfl rfl rfl rfl rfl rfl ⟨rfl, rfl, rfl, rfl, rfl⟩ rfl rfl rfl rfl rfl (by kernel_rfl) Try.func3 (by kernel_rfl)
    (of_decide_eq_true (by kernel_rfl)) (by unfold Func.isWrapper; first | (rw [if_pos (by decide +kernel)]; kernel_rfl) | (rw [if_neg (by decide +kernel)]; exact ⟨rfl, rfl⟩))
    (fun os started H enc _ => lifted os started H enc)

/-- ████ THE STATEMENT ████ -/
theorem proved : Rows.LayoutMaysSaid := over
end Go.Proofs.Ytcffikfjbpeggaa.layoutMays
namespace Go.Proofs.Ytcffikfjbpeggaa
theorem layoutMays_holds : Rows.LayoutMaysSaid := layoutMays.proved
end Go.Proofs.Ytcffikfjbpeggaa
