/- meld.Save answers what P18.4 says, where what comes in is of bulk at most 1048576. -/
import Derived.Test.YtndnbkgejdindaaRows
import Derived.Test.YtndnbkgejdindaaStArgU
import Derived.Test.YtndnbkgejdindaaRfSave
import Derived.Test.YtndnbkgejdindaaSameOct
import Derived.WalkKit
import Derived.ProofKit
import Derived.OpenShut
import Derived.ShutString
import Derived.ChangeOld
import Derived.Below
import Derived.JoinedCond
import Derived.Deep.CondSized
import Derived.SizedLaws
namespace Go.Proofs.Ytndnbkgejdindaa.meldSaves
open Go.ChangeShapes Go.WideShapes Go.ChangeAt Go.RowKit
open Go.ChangeMaps (open_string shut_string)
set_option linter.unusedVariables false

theorem own : ownKnob Try.prog.godebug = none := by kernel_rfl
theorem laidOut : laidOutB Try.prog = true := by kernel_rfl

/-- WHAT THE WALK IS TOLD OF A SLICE OF INTEGERS THAT CAME IN: it is nil; or it leads to a row of 'cap' cells, the numbers 'zs' (the first 'len' are its elements, the rest its spare room), each fitting its kind. -/
def IsRow (k : IntKind) (w : World) (a : Option Addr) (len cap : Nat) (zs : List Int) : Prop :=
  (a = none ∧ len = 0 ∧ cap = 0 ∧ zs = []) ∨
  ∃ x, a = some x ∧ len ≤ cap ∧ cap ≤ maxLen ∧ zs.length = cap ∧ (∀ i, i < zs.length → w.cell? (x.add i) = some (.int k (zs.getD i 0))) ∧ ∀ n ∈ zs, (Lit.int k n).wf = true

/-! ### STEP 1: THE WALK: the Go text returns true, AND WRITES NOTHING THAT WAS THERE: 'Below w.heap.size w w'' (Derived/Below.lean: '.refl', '.alloc', '.drew', '.setCell' at a new block, '.trans'). Open each 'IsRow' by 'rcases' AHEAD of 'go_enter'; part every test ahead of the walk. -/
set_option maxHeartbeats 4000000 in
theorem walk (v0 : Value) (w : World) (w0 : StaArgU w v0) :
    Calls Try.prog 4 #[v0] w fun e w' => e = .returned (.bool true) ∧ Below w.heap.size w w' := by
  obtain ⟨p, cs, ds, ca, cc, da, dc, rfl, hI, hT⟩ := w0
  have c1 : Hid (∀ V, Below w.heap.size w V → Calls Try.prog 10 #[.agg #[.int .i64 p, .slice ca cs.length cc, .slice da ds.length dc]] V fun e w' => SPost ⟨p, cs, ds⟩ V e w') := fun V hV => Save_any _ p cs ds ca cc da dc V (hI.later hV) hT
  have c2 : Hid (∀ V, Below w.heap.size w V → Calls Try.prog 11 #[.agg #[.int .i64 p, .slice ca cs.length cc, .slice da ds.length dc]] V fun e w' => SPost ⟨p, cs, ds⟩ V e w') := fun V hV => Saved_any _ p cs ds ca cc da dc V (hI.later hV) hT
  clear hI hT
  generalize cs.length = n1 at c1 c2 ⊢
  generalize ds.length = n2 at c1 c2 ⊢
  have HA := put_by ((Below.refl w.heap.size w).alloc (Nat.le_refl _) (.cells #[.int .i64 p, .slice ca n1 cc, .slice da n2 dc] 25))
  have HK : Hid (∀ V, Below (w.alloc (.cells #[.int .i64 p, .slice ca n1 cc, .slice da n2 dc] 25)).heap.size (w.alloc (.cells #[.int .i64 p, .slice ca n1 cc, .slice da n2 dc] 25)) V → V.cell? ⟨w.heap.size, 0, none⟩ = some (.int .i64 p) ∧ V.cell? ⟨w.heap.size, 1, none⟩ = some (.slice ca n1 cc) ∧ V.cell? ⟨w.heap.size, 2, none⟩ = some (.slice da n2 dc)) := fun V hV => ⟨(hV.cell (p := ⟨w.heap.size, 0, none⟩) (by simp)).trans (by simp), (hV.cell (p := ⟨w.heap.size, 1, none⟩) (by simp)).trans (by simp), (hV.cell (p := ⟨w.heap.size, 2, none⟩) (by simp)).trans (by simp)⟩
  go_enter Try.func4, Try.ntmps4
  go_upto_region 1 with (fail)
  generalize w.alloc (.cells #[.int .i64 p, .slice ca n1 cc, .slice da n2 dc] 25) = W0 at HA HK ⊢
  obtain ⟨k0, k1, k2⟩ := HK.out W0 (Below.refl _ _)
  go_wp2_with (first
    | (go_at_call 10; (with_reducible refine (c1.out _ HA.out).mono ?_); clear c1; rintro e w1 ⟨ys, code, a1, m1, q1, rfl, h1, h2, h3, -, h5⟩; have H1 := put_by (And.intro h1 (And.intro h2 h3)); have HB1 := put_by h5; clear h1 h2 h3 h5; obtain ⟨k0, k1, k2⟩ := HK.out _ HB1.out)
    | (go_at_call 11; (with_reducible refine (c2.out _ (HA.out.trans (HB1.out.mono HA.out.size))).mono ?_); clear c2; rintro e w2 ⟨zs, dode, a2, m2, q2, rfl, h1, h2, h3, -, h5⟩; obtain ⟨e1, e2⟩ := H1.out.1.one h1; have H2 := put_by (And.intro e1 (And.intro h2 h3)); have HB2 := put_by h5; clear h1 h2 h3 h5 e1; subst e2; refine hidGoal ?_))
  unfold Hid
  obtain ⟨e1, e2, e3⟩ := H2.out
  subst e1
  have cS := put_by (sameBytes_any a1 a2 q1 q2 ys ys w2 (H1.out.2.2.later HB2.out) e3)
  rw [← H1.out.2.1, decide_eq_true rfl] at cS
  have hm : m2 = m1 := by rw [e2, H1.out.2.1]
  subst hm
  clear e2 e3 H2
  go_wp2_with (go_at_call 12; (with_reducible refine (cS.out).mono ?_); clear cS; rintro e w3 ⟨rfl, h3⟩; have H3 := put_by h3; clear h3)
  go_ret
  exact ⟨by simp, HA.out.trans ((HB1.out.trans ((HB2.out.trans (H3.out.mono HB2.out.size)).mono HB1.out.size)).mono HA.out.size)⟩

/-! ### THE ROW's STEP: WRITTEN OUT: LEAVE IT -/
set_option maxRecDepth 100000 in
theorem lifted (os : Os) (started : os.Started) (H : Type) (enc : TypeId × Value → H) (F : Stop.Interp) :
    ReturnsInHanded {} Try.checked os 4 .any ((Rows.OpenSpec.upto Rows.meldSavesSpec).pre6 enc Try.prog Try.f4 Rows.meldSavesUptoRow.domain false) (((Rows.OpenSpec.upto Rows.meldSavesSpec).at F).post enc Try.prog Try.f4 false true false false) := by
  refine returnsInHanded_of_cond_sized (C := Try.checked) (s := Rows.OpenSpec.upto Rows.meldSavesSpec) (k := Rows.uptoSmall) rfl own started (by kernel_rfl) Try.func4
    (OpenSpec.witness (enc := enc) (C := Try.checked) (s := Rows.OpenSpec.upto Rows.meldSavesSpec) (k := Rows.uptoSmall) rfl false ⟨#[], #[.agg #[.int .i64 0, .slice none 0 0, .slice none 0 0]], []⟩ 8 (by kernel_rfl) (by kernel_rfl) (by kernel_rfl)
      (x := ([.agg [.lit (.int .i64 0), .nil, .nil]], [], [])) (by kernel_rfl) rfl (by kernel_rfl)) ?_
  intro W base args ds gs before hval0 hW hcnd hk hsz0 _
  have hval : ∀ (j : Nat) t v, Try.f4.params[j]? = some t → args[j]? = some v → Value.okWide Try.prog W .any base t v := hval0
  have hW' := hW
  obtain ⟨p, q, hA0, hV, rfl, hfz, hnd⟩ := hW
  have hA : DataW.TrodAll enc Try.prog W 0 (fun _ => true) true Try.f4.params.toList args.toList ds p := hA0
  have hsz : (DataW.weightsEach Try.prog (Try.f4.params.toList ++ Rows.meldSavesSpec.plain.varTypes Try.prog) (ds ++ gs)).all (· ≤ reachBytes) = true := hsz0
  clear hsz0
  rw [Try.params4] at hA hval hsz
  obtain ⟨v0, vs0, d0, ds0, p0, q0, hargs, rfl, rfl, h0, r0⟩ := trodAll_cons hA
  obtain ⟨rfl, rfl, rfl⟩ := trodAll_nil r0
  obtain rfl : args = #[v0] := by cases args; simp_all
  obtain ⟨rfl, rfl⟩ := trodVars_none hV
  have k0 := h0
  have lt0 : ∀ x ∈ p0, x.block < W.heap.size := by obtain ⟨m, hm⟩ := k0; exact DataW.trod_lt m _ _ _ hm
  have w0 : StaArgU W v0 := sta_argU (bulk_in hk (by simp)) hsz (j := 0) rfl rfl (hval 0 25 v0 rfl rfl) h0
  clear hA0 hval0
  refine (walk v0 W w0).mono fun e W' ⟨he, bel⟩ => ?_
  subst he
  exact ⟨_, rfl, _, _, _, [], _, [], hW', trodAll_mk1 (shut_bool Try.underlying4 _), (trodAll_cons_mk (Below.trod laidOut (by kernel_rfl) (of_decide_eq_true (by kernel_rfl)) k0 bel lt0) trodAll_mk0), rfl, bel.frame _, fun h => by cases h⟩

/-- THE STATEMENT, narrowed -/
theorem proved : Rows.MeldSavesUptoSaid :=
  OpenClaim.holds_of_cond 4 Try.f4 rfl rfl rfl rfl rfl rfl rfl ⟨rfl, rfl, rfl, rfl, rfl⟩ rfl rfl rfl rfl rfl (by kernel_rfl) Try.func4 (by kernel_rfl)
    (of_decide_eq_true (by kernel_rfl)) (by unfold Func.isWrapper; first | (rw [if_pos (by decide +kernel)]; kernel_rfl) | (rw [if_neg (by decide +kernel)]; exact ⟨rfl, rfl⟩))
    (fun os started H enc _ F => lifted os started H enc F)
end Go.Proofs.Ytndnbkgejdindaa.meldSaves
namespace Go.Proofs.Ytndnbkgejdindaa
theorem meldSaves_holds : Rows.MeldSavesUptoSaid := meldSaves.proved
end Go.Proofs.Ytndnbkgejdindaa
