/- meld.Snap answers, of every state, the entries that the document says: the keys and values of the cells that are not gone, in their order. -/
import Derived.Test.YtjjdednlddnllaaRows
import Derived.Test.YtjjdednlddnllaaStArg
import Derived.Test.YtjjdednlddnllaaRfSnap
import Derived.Test.YtjjdednlddnllaaRtSameL
import Derived.WalkKit
import Derived.ProofKit
import Derived.OpenShut
import Derived.ShutString
import Derived.ChangeOld
import Derived.Below
import Derived.SizedLaws
namespace Go.Proofs.Ytjjdednlddnllaa.meldSnaps
open Go.ChangeShapes Go.WideShapes Go.ChangeAt Go.RowKit
open Go.ChangeMaps (open_string shut_string)
set_option linter.unusedVariables false

theorem own : ownKnob Try.prog.godebug = none := by kernel_rfl
theorem laidOut : laidOutB Try.prog = true := by kernel_rfl

/-- WHAT THE WALK IS TOLD OF A SLICE OF INTEGERS THAT CAME IN: it is nil; or it leads to a row of 'cap' cells, the numbers 'zs' (the first 'len' are its elements, the rest its spare room), each fitting its kind. -/
def IsRow (k : IntKind) (w : World) (a : Option Addr) (len cap : Nat) (zs : List Int) : Prop :=
  (a = none ∧ len = 0 ∧ cap = 0 ∧ zs = []) ∨
  ∃ x, a = some x ∧ len ≤ cap ∧ cap ≤ maxLen ∧ zs.length = cap ∧ (∀ i, i < zs.length → w.cell? (x.add i) = some (.int k (zs.getD i 0))) ∧ ∀ n ∈ zs, (Lit.int k n).wf = true

/-! ### STEP 1: THE WALK: the Go text returns true, AND WRITES NOTHING THAT WAS THERE: 'Below w.heap.size w w'' (Derived/Below.lean: '.refl', '.alloc', '.drew', '.setCell' at a new block, '.trans'). Open each 'IsRow' by 'rcases' AHEAD of 'go_enter'; part every test ahead of the walk. -/
set_option maxHeartbeats 4000000 in
theorem walk (v0 : Value) (w : World) (w0 : StaArg w v0) :
    Calls Try.prog 5 #[v0] w fun e w' => e = .returned (.bool true) ∧ Below w.heap.size w w' := by
  obtain ⟨p, cs, ds, ca, cc, da, dc, rfl, hI⟩ := w0
  obtain ⟨R, hR⟩ := bool_of (MayS ⟨p, cs, ds⟩)
  have c1 : Hid (∀ V, Below w.heap.size w V → Calls Try.prog 16 #[.agg #[.int .i64 p, .slice ca cs.length cc, .slice da ds.length dc]] V fun e w' => SnPost (if R then snapK cs else []) V e w') := fun V hV => Snap_any _ p cs ds ca cc da dc V (hI.later hV) R hR
  have c2 : Hid (∀ V, Below w.heap.size w V → Calls Try.prog 17 #[.agg #[.int .i64 p, .slice ca cs.length cc, .slice da ds.length dc]] V fun e w' => SnPost (if R then snapK cs else []) V e w') := fun V hV => StateSnap_any _ p cs ds ca cc da dc V (hI.later hV) R hR
  clear hI hR
  generalize cs.length = n1 at c1 c2 ⊢
  generalize ds.length = n2 at c1 c2 ⊢
  generalize (if R then snapK cs else []) = l at c1 c2
  have HA := put_by ((Below.refl w.heap.size w).alloc (Nat.le_refl _) (.cells #[.int .i64 p, .slice ca n1 cc, .slice da n2 dc] 25))
  have HK : Hid (∀ V, Below (w.alloc (.cells #[.int .i64 p, .slice ca n1 cc, .slice da n2 dc] 25)).heap.size (w.alloc (.cells #[.int .i64 p, .slice ca n1 cc, .slice da n2 dc] 25)) V → V.cell? ⟨w.heap.size, 0, none⟩ = some (.int .i64 p) ∧ V.cell? ⟨w.heap.size, 1, none⟩ = some (.slice ca n1 cc) ∧ V.cell? ⟨w.heap.size, 2, none⟩ = some (.slice da n2 dc)) := fun V hV => ⟨(hV.cell (p := ⟨w.heap.size, 0, none⟩) (by simp)).trans (by simp), (hV.cell (p := ⟨w.heap.size, 1, none⟩) (by simp)).trans (by simp), (hV.cell (p := ⟨w.heap.size, 2, none⟩) (by simp)).trans (by simp)⟩
  go_enter Try.func5, Try.ntmps5
  go_upto_region 1 with (fail)
  generalize w.alloc (.cells #[.int .i64 p, .slice ca n1 cc, .slice da n2 dc] 25) = W0 at HA HK ⊢
  have d1 : Hid (∀ V, Below W0.heap.size W0 V → Calls Try.prog 16 #[.agg #[.int .i64 p, .slice ca n1 cc, .slice da n2 dc]] V fun e w' => ∃ (a1 : Option Addr) (m1 q1 : Nat), e = .returned (.slice a1 m1 q1) ∧ (w'.cell? ⟨w.heap.size, 0, none⟩ = some (.int .i64 p) ∧ w'.cell? ⟨w.heap.size, 1, none⟩ = some (.slice ca n1 cc) ∧ w'.cell? ⟨w.heap.size, 2, none⟩ = some (.slice da n2 dc)) ∧ Hid (m1 = l.length ∧ l.length * 48 ≤ 140737488351232 ∧ Lies kEnt (fun _ => True) w' a1 q1 l ∧ Below W0.heap.size W0 w')) := fun V hV => (c1.out V (HA.out.trans (hV.mono HA.out.size))).mono (fun e w' ⟨a, n, c, h1, h2, h3, h4, h5⟩ => ⟨a, n, c, h1, HK.out _ (hV.trans (h5.mono hV.size)), h2, h3, h4, hV.trans (h5.mono hV.size)⟩)
  have d2 : Hid (∀ (V : World) (a1 : Option Addr) (m1 q1 : Nat), (m1 = l.length ∧ l.length * 48 ≤ 140737488351232 ∧ Lies kEnt (fun _ => True) V a1 q1 l ∧ Below W0.heap.size W0 V) → Calls Try.prog 17 #[.agg #[.int .i64 p, .slice ca n1 cc, .slice da n2 dc]] V fun e w' => ∃ (a2 : Option Addr) (m2 q2 : Nat), e = .returned (.slice a2 m2 q2) ∧ (w'.cell? ⟨w.heap.size, 0, none⟩ = some (.int .i64 p) ∧ w'.cell? ⟨w.heap.size, 1, none⟩ = some (.slice ca n1 cc) ∧ w'.cell? ⟨w.heap.size, 2, none⟩ = some (.slice da n2 dc)) ∧ Hid (m1 = l.length ∧ m2 = l.length ∧ l.length * 48 ≤ 140737488351232 ∧ Lies kEnt (fun _ => True) w' a1 q1 l ∧ Lies kEnt (fun _ => True) w' a2 q2 l ∧ Below W0.heap.size W0 w')) := fun V a1 m1 q1 ⟨g1, g2, g3, hV⟩ => (c2.out V (HA.out.trans (hV.mono HA.out.size))).mono (fun e w' ⟨a, n, c, h1, h2, h3, h4, h5⟩ => ⟨a, n, c, h1, HK.out _ (hV.trans (h5.mono hV.size)), g1, h2, h3, g3.later h5, h4, hV.trans (h5.mono hV.size)⟩)
  have d3 : Hid (∀ (V : World) (a1 : Option Addr) (m1 q1 : Nat) (a2 : Option Addr) (m2 q2 : Nat), (m1 = l.length ∧ m2 = l.length ∧ l.length * 48 ≤ 140737488351232 ∧ Lies kEnt (fun _ => True) V a1 q1 l ∧ Lies kEnt (fun _ => True) V a2 q2 l ∧ Below W0.heap.size W0 V) → Calls Try.prog 15 #[.slice a1 m1 q1, .slice a2 m2 q2] V fun e w' => e = .returned (.bool true) ∧ (w'.cell? ⟨w.heap.size, 0, none⟩ = some (.int .i64 p) ∧ w'.cell? ⟨w.heap.size, 1, none⟩ = some (.slice ca n1 cc) ∧ w'.cell? ⟨w.heap.size, 2, none⟩ = some (.slice da n2 dc)) ∧ Hid (Below W0.heap.size W0 w')) := fun V a1 m1 q1 a2 m2 q2 ⟨g1, g2, g3, g4, g5, hV⟩ => by
    rw [g1, g2]
    refine (sameEntriesL_q _ _ l l (by omega) a1 a2 q1 q2 V g4 g5).mono ?_
    rintro e w' ⟨rfl, j, rfl⟩
    exact ⟨by simp, HK.out _ (drawn_below hV j), drawn_below hV j⟩
  clear c1 c2
  have HD := put_by ((Below.refl W0.heap.size W0).drew)
  obtain ⟨k0, k1, k2⟩ := HK.out W0 (Below.refl _ _)
  clear HK
  go_region_held3 (fun V => V.cell? ⟨w.heap.size, 0, none⟩ = some (.int .i64 p) ∧ V.cell? ⟨w.heap.size, 1, none⟩ = some (.slice ca n1 cc) ∧ V.cell? ⟨w.heap.size, 2, none⟩ = some (.slice da n2 dc)) (go_keep) (first
    | (go_at_call 16; (with_reducible refine (d1.out _ HD.out).mono ?_); clear d1; rintro e w1 ⟨a1, m1, q1, rfl, ⟨j0, j1, j2⟩, H1⟩)
    | (go_at_call 17; (with_reducible refine (d2.out _ _ _ _ H1.out).mono ?_); clear d2; rintro e w2 ⟨a2, m2, q2, rfl, ⟨l0, l1, l2⟩, H2⟩)
    | (go_at_call 15; (with_reducible refine (d3.out _ _ _ _ _ _ _ H2.out).mono ?_); clear d3; rintro e w3 ⟨rfl, ⟨o0, o1, o2⟩, H3⟩))
  all_goals
    go_wp2
    go_ret
    exact ⟨by simp, HA.out.trans (H3.out.mono HA.out.size)⟩

/-! ### THE ROW's STEP: WRITTEN OUT: LEAVE IT -/
set_option maxRecDepth 100000 in
theorem lifted (os : Os) (started : os.Started) (H : Type) (enc : TypeId × Value → H) :
    ReturnsInHanded {} Try.checked os 5 .any (Rows.meldSnapsSpec.pre6 enc Try.prog Try.f5 Rows.meldSnapsRow.domain false) (Rows.meldSnapsSpec.post enc Try.prog Try.f5 false true false false) := by
  refine returnsInHanded_of_change_sized (C := Try.checked) own started (by kernel_rfl) Try.func5
    (ChangeSpec.witness6 (enc := enc) (C := Try.checked) false ⟨#[], #[.agg #[.int .i64 0, .slice none 0 0, .slice none 0 0]], []⟩ 8 (by kernel_rfl) (by kernel_rfl) (by kernel_rfl) (by kernel_rfl)) ?_
  intro W base args ds gs before hval0 hW hcnd hsz0 _
  have hval : ∀ (j : Nat) t v, Try.f5.params[j]? = some t → args[j]? = some v → Value.okWide Try.prog W .any base t v := hval0
  have hW' := hW
  obtain ⟨p, q, hA0, hV, rfl, hfz, hnd⟩ := hW
  have hA : DataW.TrodAll enc Try.prog W 0 (fun _ => true) true Try.f5.params.toList args.toList ds p := hA0
  have hsz : (DataW.weightsEach Try.prog (Try.f5.params.toList ++ Rows.meldSnapsSpec.plain.varTypes Try.prog) (ds ++ gs)).all (· ≤ reachBytes) = true := hsz0
  clear hsz0
  rw [Try.params5] at hA hval hsz
  obtain ⟨v0, vs0, d0, ds0, p0, q0, hargs, rfl, rfl, h0, r0⟩ := trodAll_cons hA
  obtain ⟨rfl, rfl, rfl⟩ := trodAll_nil r0
  obtain rfl : args = #[v0] := by cases args; simp_all
  obtain ⟨rfl, rfl⟩ := trodVars_none hV
  have k0 := h0
  have lt0 : ∀ x ∈ p0, x.block < W.heap.size := by obtain ⟨m, hm⟩ := k0; exact DataW.trod_lt m _ _ _ hm
  have w0 : StaArg W v0 := sta_arg hsz (j := 0) rfl rfl (hval 0 25 v0 rfl rfl) h0
  clear hA0 hval0
  refine (walk v0 W w0).mono fun e W' ⟨he, bel⟩ => ?_
  subst he
  exact ⟨_, rfl, _, _, _, [], _, [], hW', trodAll_mk1 (shut_bool Try.underlying4 _), (trodAll_cons_mk (Below.trod laidOut (by kernel_rfl) (of_decide_eq_true (by kernel_rfl)) k0 bel lt0) trodAll_mk0), rfl, bel.frame _, fun h => by cases h⟩

theorem over : Rows.meldSnapsRow.holds Try.pinned (OpenSpec.ofChange Rows.meldSnapsSpec) :=
  OpenClaim.holds_of_wide 5 Try.f5 rfl rfl rfl rfl rfl rfl rfl ⟨rfl, rfl, rfl, rfl, rfl⟩ rfl rfl rfl rfl rfl (by kernel_rfl) Try.func5 (by kernel_rfl)
    (of_decide_eq_true (by kernel_rfl)) (by unfold Func.isWrapper; first | (rw [if_pos (by decide +kernel)]; kernel_rfl) | (rw [if_neg (by decide +kernel)]; exact ⟨rfl, rfl⟩))
    (fun os started H enc _ => lifted os started H enc)

/-- ████ THE STATEMENT ████ -/
theorem proved : Rows.MeldSnapsSaid := over
end Go.Proofs.Ytjjdednlddnllaa.meldSnaps
namespace Go.Proofs.Ytjjdednlddnllaa
theorem meldSnaps_holds : Rows.MeldSnapsSaid := meldSnaps.proved
end Go.Proofs.Ytjjdednlddnllaa
