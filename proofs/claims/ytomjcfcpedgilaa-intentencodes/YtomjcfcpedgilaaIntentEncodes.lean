/- intent.Encode and the document (the reference) answer alike, at every intent. -/
import Derived.Test.YtomjcfcpedgilaaRows
import Derived.Test.YtomjcfcpedgilaaItArg
import Derived.Test.YtomjcfcpedgilaaItRefEnc
import Derived.Test.YtomjcfcpedgilaaRtSameL
import Derived.WalkKit
import Derived.ProofKit
import Derived.OpenShut
import Derived.ShutString
import Derived.ChangeOld
import Derived.Below
import Derived.SizedLaws
namespace Go.Proofs.Ytomjcfcpedgilaa.intentEncodes
open Go.ChangeShapes Go.WideShapes Go.ChangeAt Go.RowKit
open Go.ChangeMaps (open_string shut_string)
set_option linter.unusedVariables false

theorem own : ownKnob Try.prog.godebug = none := by kernel_rfl
theorem laidOut : laidOutB Try.prog = true := by kernel_rfl

/-- WHAT THE WALK IS TOLD OF A SLICE OF INTEGERS THAT CAME IN: it is nil; or it leads to a row of 'cap' cells, the numbers 'zs' (the first 'len' are its elements, the rest its spare room), each fitting its kind. -/
def IsRow (k : IntKind) (w : World) (a : Option Addr) (len cap : Nat) (zs : List Int) : Prop :=
  (a = none ∧ len = 0 ∧ cap = 0 ∧ zs = []) ∨
  ∃ x, a = some x ∧ len ≤ cap ∧ cap ≤ maxLen ∧ zs.length = cap ∧ (∀ i, i < zs.length → w.cell? (x.add i) = some (.int k (zs.getD i 0))) ∧ ∀ n ∈ zs, (Lit.int k n).wf = true

/-! ### STEP 1: THE WALK: the Go text returns true, AND WRITES NOTHING THAT WAS THERE: 'Below w.heap.size w w'' (Derived/Below.lean: '.refl', '.alloc', '.drew', '.setCell' at a new block, '.trans'). Open each 'IsRow' by 'rcases' AHEAD of 'go_enter'; part every test ahead of the walk. -/
set_option maxHeartbeats 4000000 in
theorem walk (v0 : Value) (w : World) (w0 : IttArg w v0) :
    Calls Try.prog 4 #[v0] w fun e w' => e = .returned (.bool true) ∧ Below w.heap.size w w' := by
  obtain ⟨c, n, s, rs, ws, ra, rc, wa, wc, rfl, hI⟩ := w0
  have c1 : Hid (∀ V, Below w.heap.size w V → Calls Try.prog 11 #[.agg #[.int .i64 c, .int .i64 n, .int .i64 s, .slice ra rs.length rc, .slice wa ws.length wc]] V fun e w' => EPost ⟨c, n, s, rs, ws⟩ V e w') := fun V hV => Encode_any _ c n s rs ws ra rc wa wc V (hI.later hV)
  have c2 : Hid (∀ V, Below w.heap.size w V → Calls Try.prog 12 #[.agg #[.int .i64 c, .int .i64 n, .int .i64 s, .slice ra rs.length rc, .slice wa ws.length wc]] V fun e w' => EPost ⟨c, n, s, rs, ws⟩ V e w') := fun V hV => IntentEncoded_any _ c n s rs ws ra rc wa wc V (hI.later hV)
  clear hI
  generalize rs.length = nr at c1 c2 ⊢
  generalize ws.length = nw at c1 c2 ⊢
  have HA := put_by ((Below.refl w.heap.size w).alloc (Nat.le_refl _) (.cells #[.int .i64 c, .int .i64 n, .int .i64 s, .slice ra nr rc, .slice wa nw wc] 25))
  have HK : Hid (∀ V, Below (w.alloc (.cells #[.int .i64 c, .int .i64 n, .int .i64 s, .slice ra nr rc, .slice wa nw wc] 25)).heap.size (w.alloc (.cells #[.int .i64 c, .int .i64 n, .int .i64 s, .slice ra nr rc, .slice wa nw wc] 25)) V → V.cell? ⟨w.heap.size, 0, none⟩ = some (.int .i64 c) ∧ V.cell? ⟨w.heap.size, 1, none⟩ = some (.int .i64 n) ∧ V.cell? ⟨w.heap.size, 2, none⟩ = some (.int .i64 s) ∧ V.cell? ⟨w.heap.size, 3, none⟩ = some (.slice ra nr rc) ∧ V.cell? ⟨w.heap.size, 4, none⟩ = some (.slice wa nw wc)) := fun V hV => by
    have hb : w.heap.size < (w.alloc (.cells #[.int .i64 c, .int .i64 n, .int .i64 s, .slice ra nr rc, .slice wa nw wc] 25)).heap.size := by simp
    exact ⟨(hV.cell (p := ⟨w.heap.size, 0, none⟩) hb).trans (by simp), (hV.cell (p := ⟨w.heap.size, 1, none⟩) hb).trans (by simp), (hV.cell (p := ⟨w.heap.size, 2, none⟩) hb).trans (by simp), (hV.cell (p := ⟨w.heap.size, 3, none⟩) hb).trans (by simp), (hV.cell (p := ⟨w.heap.size, 4, none⟩) hb).trans (by simp)⟩
  go_enter Try.func4, Try.ntmps4
  go_upto_region 1 with (fail)
  generalize w.alloc (.cells #[.int .i64 c, .int .i64 n, .int .i64 s, .slice ra nr rc, .slice wa nw wc] 25) = W0 at HA HK ⊢
  have d1 : Hid (Calls Try.prog 11 #[.agg #[.int .i64 c, .int .i64 n, .int .i64 s, .slice ra nr rc, .slice wa nw wc]] W0 fun e w' => ∃ (code : Int) (a : Option Addr) (m k : Nat), e = .returned (.tuple #[.slice a m k, .int .i64 code]) ∧ (w'.cell? ⟨w.heap.size, 0, none⟩ = some (.int .i64 c) ∧ w'.cell? ⟨w.heap.size, 1, none⟩ = some (.int .i64 n) ∧ w'.cell? ⟨w.heap.size, 2, none⟩ = some (.int .i64 s) ∧ w'.cell? ⟨w.heap.size, 3, none⟩ = some (.slice ra nr rc) ∧ w'.cell? ⟨w.heap.size, 4, none⟩ = some (.slice wa nw wc)) ∧ Hid (∃ ys, EncIs ⟨c, n, s, rs, ws⟩ ys code ∧ m = ys.length ∧ Octs w' a k ys ∧ Below w.heap.size w w')) := by
    refine (c1.out W0 HA.out).mono ?_
    rintro e w' ⟨ys, code, a, m, k, rfl, h1, h2, h3, h4, h5⟩
    exact ⟨code, a, m, k, rfl, HK.out _ h5, ys, h1, h2, h3, HA.out.trans (h5.mono HA.out.size)⟩
  have d2 : Hid (∀ (V : World) (code : Int) (a : Option Addr) (m k : Nat), (∃ ys, EncIs ⟨c, n, s, rs, ws⟩ ys code ∧ m = ys.length ∧ Octs V a k ys ∧ Below w.heap.size w V) → Calls Try.prog 12 #[.agg #[.int .i64 c, .int .i64 n, .int .i64 s, .slice ra nr rc, .slice wa nw wc]] V fun e w' => ∃ (a' : Option Addr) (m' k' : Nat), e = .returned (.tuple #[.slice a' m' k', .int .i64 code]) ∧ Hid (∃ ys, ys.length ≤ 4000 ∧ (m = ys.length ∧ Octs w' a k ys) ∧ (m' = ys.length ∧ Octs w' a' k' ys) ∧ Below w.heap.size w w')) := fun V code a m k ⟨ys, g1, g2, g3, g4⟩ => by
    refine (c2.out V g4).mono ?_
    rintro e w' ⟨zs, code', a', m', k', rfl, h1, h2, h3, h4, h5⟩
    obtain ⟨rfl, rfl⟩ := g1.one h1
    exact ⟨a', m', k', rfl, ys, g1.few, ⟨g2, g3.later h5⟩, ⟨h2, h3⟩, g4.trans (h5.mono g4.size)⟩
  have d3 : Hid (∀ (V : World) (a : Option Addr) (m k : Nat) (a' : Option Addr) (m' k' : Nat), (∃ ys : List Int, ys.length ≤ 4000 ∧ (m = ys.length ∧ Octs V a k ys) ∧ (m' = ys.length ∧ Octs V a' k' ys) ∧ Below w.heap.size w V) → Calls Try.prog 13 #[.slice a m k, .slice a' m' k'] V fun e w' => e = .returned (.bool true) ∧ Hid (Below w.heap.size w w')) := fun V a m k a' m' k' ⟨ys, g0, ⟨g1, g2⟩, ⟨g3, g4⟩, g5⟩ => by
    subst g1 g3
    refine (sameBytesL_q a a' k k' ys ys V g2 g4).mono ?_
    rintro e w' ⟨rfl, j, rfl⟩
    exact ⟨by simp, g5.trans ((drawn_below (Below.refl _ V) j).mono g5.size)⟩
  obtain ⟨k0, k1, k2, k3, k4⟩ := HK.out W0 (Below.refl _ _)
  clear c1 c2 HK
  go_wp2_with (first
    | (go_at_call 11; refine d1.out.mono ?_; clear d1; rintro e w1 ⟨code, a, m, k, rfl, ⟨k0, k1, k2, k3, k4⟩, H1⟩)
    | (go_at_call 12; refine (d2.out _ _ _ _ _ H1.out).mono ?_; clear d2; rintro e w2 ⟨a', m', k', rfl, H2⟩)
    | (go_at_call 13; refine (d3.out _ _ _ _ _ _ _ H2.out).mono ?_; clear d3; rintro e w3 ⟨rfl, H3⟩))
  go_ret
  exact ⟨rfl, H3.out⟩

/-! ### THE ROW's STEP: WRITTEN OUT: LEAVE IT -/
set_option maxRecDepth 100000 in
theorem lifted (os : Os) (started : os.Started) (H : Type) (enc : TypeId × Value → H) :
    ReturnsInHanded {} Try.checked os 4 .any (Rows.intentEncodesSpec.pre6 enc Try.prog Try.f4 Rows.intentEncodesRow.domain false) (Rows.intentEncodesSpec.post enc Try.prog Try.f4 false true false false) := by
  refine returnsInHanded_of_change_sized (C := Try.checked) own started (by kernel_rfl) Try.func4
    (ChangeSpec.witness6 (enc := enc) (C := Try.checked) false ⟨#[], #[.agg #[.int .i64 0, .int .i64 0, .int .i64 0, .slice none 0 0, .slice none 0 0]], []⟩ 8 (by kernel_rfl) (by kernel_rfl) (by kernel_rfl) (by kernel_rfl)) ?_
  intro W base args ds gs before hval0 hW hcnd hsz0 _
  have hval : ∀ (j : Nat) t v, Try.f4.params[j]? = some t → args[j]? = some v → Value.okWide Try.prog W .any base t v := hval0
  have hW' := hW
  obtain ⟨p, q, hA0, hV, rfl, hfz, hnd⟩ := hW
  have hA : DataW.TrodAll enc Try.prog W 0 (fun _ => true) true Try.f4.params.toList args.toList ds p := hA0
  have hsz : (DataW.weightsEach Try.prog (Try.f4.params.toList ++ Rows.intentEncodesSpec.plain.varTypes Try.prog) (ds ++ gs)).all (· ≤ reachBytes) = true := hsz0
  clear hsz0
  rw [Try.params4] at hA hval hsz
  obtain ⟨v0, vs0, d0, ds0, p0, q0, hargs, rfl, rfl, h0, r0⟩ := trodAll_cons hA
  obtain ⟨rfl, rfl, rfl⟩ := trodAll_nil r0
  obtain rfl : args = #[v0] := by cases args; simp_all
  obtain ⟨rfl, rfl⟩ := trodVars_none hV
  have k0 := h0
  have lt0 : ∀ x ∈ p0, x.block < W.heap.size := by obtain ⟨m, hm⟩ := k0; exact DataW.trod_lt m _ _ _ hm
  have w0 : IttArg W v0 := itt_arg hsz (j := 0) rfl rfl (hval 0 25 v0 rfl rfl) h0
  clear hA0 hval0
  refine (walk v0 W w0).mono fun e W' ⟨he, bel⟩ => ?_
  subst he
  exact ⟨_, rfl, _, _, _, [], _, [], hW', trodAll_mk1 (shut_bool Try.underlying4 _), (trodAll_cons_mk (Below.trod laidOut (by kernel_rfl) (of_decide_eq_true (by kernel_rfl)) k0 bel lt0) trodAll_mk0), rfl, bel.frame _, fun h => by cases h⟩

theorem over : Rows.intentEncodesRow.holds Try.pinned (OpenSpec.ofChange Rows.intentEncodesSpec) :=
  OpenClaim.holds_of_wide 4 Try.f4 rfl rfl rfl rfl rfl rfl rfl ⟨rfl, rfl, rfl, rfl, rfl⟩ rfl rfl rfl rfl rfl (by kernel_rfl) Try.func4 (by kernel_rfl)
    (of_decide_eq_true (by kernel_rfl)) (by unfold Func.isWrapper; first | (rw [if_pos (by decide +kernel)]; kernel_rfl) | (rw [if_neg (by decide +kernel)]; exact ⟨rfl, rfl⟩))
    (fun os started H enc _ => lifted os started H enc)

/-- ████ THE STATEMENT ████ -/
theorem proved : Rows.IntentEncodesSaid := over
end Go.Proofs.Ytomjcfcpedgilaa.intentEncodes
namespace Go.Proofs.Ytomjcfcpedgilaa
theorem intentEncodes_holds : Rows.IntentEncodesSaid := intentEncodes.proved
end Go.Proofs.Ytomjcfcpedgilaa
