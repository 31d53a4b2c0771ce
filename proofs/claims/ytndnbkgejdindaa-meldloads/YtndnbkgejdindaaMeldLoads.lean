/- meld.Load answers what P18.4 says. -/
import Derived.Test.YtndnbkgejdindaaRows
import Derived.Test.YtndnbkgejdindaaLsWalk
import Derived.Test.YtndnbkgejdindaaOctsAll
import Derived.WalkKit
import Derived.ProofKit
import Derived.OpenShut
import Derived.ShutString
import Derived.ChangeOld
import Derived.Below
import Derived.SizedLaws
namespace Go.Proofs.Ytndnbkgejdindaa.meldLoads
open Go.ChangeShapes Go.WideShapes Go.ChangeAt Go.RowKit
open Go.ChangeMaps (open_string shut_string)
set_option linter.unusedVariables false

theorem own : ownKnob Try.prog.godebug = none := by kernel_rfl
theorem bytesOfElem : Try.prog.bytesOf 5 = 1 := by kernel_rfl
theorem laidOut : laidOutB Try.prog = true := by kernel_rfl

/-- WHAT THE WALK IS TOLD OF A SLICE OF INTEGERS THAT CAME IN: it is nil; or it leads to a row of 'cap' cells, the numbers 'zs' (the first 'len' are its elements, the rest its spare room), each fitting its kind. -/
def IsRow (k : IntKind) (w : World) (a : Option Addr) (len cap : Nat) (zs : List Int) : Prop :=
  (a = none ∧ len = 0 ∧ cap = 0 ∧ zs = []) ∨
  ∃ x, a = some x ∧ len ≤ cap ∧ cap ≤ maxLen ∧ zs.length = cap ∧ (∀ i, i < zs.length → w.cell? (x.add i) = some (.int k (zs.getD i 0))) ∧ ∀ n ∈ zs, (Lit.int k n).wf = true

/-! ### STEP 1: THE WALK: the Go text returns true, AND WRITES NOTHING THAT WAS THERE: 'Below w.heap.size w w'' (Derived/Below.lean: '.refl', '.alloc', '.drew', '.setCell' at a new block, '.trans'). Open each 'IsRow' by 'rcases' AHEAD of 'go_enter'; part every test ahead of the walk. -/
set_option maxHeartbeats 4000000 in
theorem walk (a0 : Option Addr) (len0 cap0 : Nat) (z0 : List Int) (w : World) (w0 : IsRow .u8 w a0 len0 cap0 z0) (rr0 : cap0 * 1 ≤ 140737488351232) :
    Calls Try.prog 5 #[.slice a0 len0 cap0] w fun e w' => e = .returned (.bool true) ∧ Below w.heap.size w w' := by
  obtain ⟨xs, rfl, he0⟩ := row_octs (by omega) w0
  have hf : xs.length ≤ 140737488351232 := by have h1 := he0.1; omega
  clear w0 rr0
  obtain ⟨p, cs, ds, code, hone⟩ := ldpost_one xs
  have d0 : Hid (Calls Try.prog 14 #[.slice a0 xs.length cap0] w fun e w' => ∃ (a1 : Option Addr) (c1 : Nat), e = .returned (.slice a1 xs.length c1) ∧ Hid (Octs w' a1 c1 xs ∧ Ples a1 c1 ∧ (∀ a, a1 = some a → a.block < w'.heap.size) ∧ Below w.heap.size w w')) := (octets_all a0 cap0 xs w he0).mono (fun e w' ⟨a1, c1, h1, h2, h3, h4, h5⟩ => ⟨a1, c1, h1, h2, h3, h4, h5⟩)
  have d1 : Hid (∀ (V : World) (a1 : Option Addr) (c1 : Nat), (Octs V a1 c1 xs ∧ Ples a1 c1 ∧ (∀ a, a1 = some a → a.block < V.heap.size) ∧ Below w.heap.size w V) → Calls Try.prog 13 #[.slice a1 xs.length c1] V fun e w' => ∃ (ca : Option Addr) (cc : Nat) (da : Option Addr) (dc : Nat), e = .returned (.tuple #[.agg #[.int .i64 p, .slice ca cs.length cc, .slice da ds.length dc], .int .i64 code]) ∧ Hid (StIs (fun _ => True) w' cs ds ca cc da dc ∧ Below w.heap.size w w')) := fun V a1 c1 ⟨h1, h2, h3, h4⟩ => (Load_any xs a1 xs.length c1 V rfl h1 h2 h3).mono (fun e w' h => by
    obtain ⟨ca, cc, da, dc, e1, e2, e3⟩ := hone V e w' h
    exact ⟨ca, cc, da, dc, e1, e2, h4.trans (e3.mono h4.size)⟩)
  have d2 : Hid (∀ (V : World), Below w.heap.size w V → Calls Try.prog 15 #[.slice a0 xs.length cap0] V fun e w' => ∃ (ca : Option Addr) (cc : Nat) (da : Option Addr) (dc : Nat), e = .returned (.tuple #[.agg #[.int .i64 p, .slice ca cs.length cc, .slice da ds.length dc], .int .i64 code]) ∧ Hid (StIs (fun _ => True) w' cs ds ca cc da dc ∧ Below V.heap.size V w')) := fun V h4 => (LoadedState_any a0 cap0 xs V (he0.later h4) hf).mono (fun e w' h => hone V e w' h)
  have d3 : Hid (∀ (V : World) (ca cb da db : Option Addr) (cc cd dc dd : Nat), (StIs (fun _ => True) V cs ds ca cc da dc ∧ StIs (fun _ => True) V cs ds cb cd db dd ∧ Below w.heap.size w V) → Calls Try.prog 8 #[.agg #[.int .i64 p, .slice ca cs.length cc, .slice da ds.length dc], .agg #[.int .i64 p, .slice cb cs.length cd, .slice db ds.length dd]] V fun e w' => e = .returned (.bool true) ∧ Hid (Below w.heap.size w w')) := fun V ca cb da db cc cd dc dd ⟨h1, h2, h3⟩ => (sameStateL_yes _ _ p cs ds ca cb da db cc cd dc dd V h1 h2).mono (fun e w' h => ⟨h.1, h3.trans (h.2.mono h3.size)⟩)
  clear he0 hf hone
  generalize xs.length = m at d0 d1 d2 ⊢
  go_enter Try.func5, Try.ntmps5
  go_upto_region 2 with (first
    | (go_at_call 14; (with_reducible refine d0.out.mono ?_); clear d0; rintro e w1 ⟨a1, c1, rfl, H1⟩)
    | (go_at_call 13; (with_reducible refine (d1.out _ _ _ H1.out).mono ?_); clear d1; rintro e w2 ⟨ca, cc, da, dc, rfl, H2⟩))
  have H3 : Hid (Cls (w2.alloc (.cells #[.int .i64 p, .slice ca cs.length cc, .slice da ds.length dc] 25)) w2.heap.size [.int .i64 p, .slice ca cs.length cc, .slice da ds.length dc] ∧ StIs (fun _ => True) (w2.alloc (.cells #[.int .i64 p, .slice ca cs.length cc, .slice da ds.length dc] 25)) cs ds ca cc da dc ∧ Below w.heap.size w (w2.alloc (.cells #[.int .i64 p, .slice ca cs.length cc, .slice da ds.length dc] 25))) := by
    have hb := (Below.refl w2.heap.size w2).alloc (Nat.le_refl _) (.cells #[.int .i64 p, .slice ca cs.length cc, .slice da ds.length dc] 25)
    exact ⟨Cls.new w2 [.int .i64 p, .slice ca cs.length cc, .slice da ds.length dc] 25, H2.out.1.later hb, H2.out.2.trans (hb.mono H2.out.2.size)⟩
  clear H1 H2
  generalize w2.heap.size = X at H3 ⊢
  generalize w2.alloc (.cells #[.int .i64 p, .slice ca cs.length cc, .slice da ds.length dc] _) = W3 at H3 ⊢
  go_upto_region 3 with (first
    | (go_at_call 15; (with_reducible refine (d2.out _ H3.out.2.2).mono ?_); clear d2; rintro e w4 ⟨cb, cd, db, dd, rfl, H4⟩))
  have H5 : Hid (Cls (w4.alloc (.cells #[.int .i64 p, .slice cb cs.length cd, .slice db ds.length dd] 25)) w4.heap.size [.int .i64 p, .slice cb cs.length cd, .slice db ds.length dd] ∧ Cls (w4.alloc (.cells #[.int .i64 p, .slice cb cs.length cd, .slice db ds.length dd] 25)) X [.int .i64 p, .slice ca cs.length cc, .slice da ds.length dc] ∧ StIs (fun _ => True) (w4.alloc (.cells #[.int .i64 p, .slice cb cs.length cd, .slice db ds.length dd] 25)) cs ds ca cc da dc ∧ StIs (fun _ => True) (w4.alloc (.cells #[.int .i64 p, .slice cb cs.length cd, .slice db ds.length dd] 25)) cs ds cb cd db dd ∧ Below w.heap.size w (w4.alloc (.cells #[.int .i64 p, .slice cb cs.length cd, .slice db ds.length dd] 25))) := by
    have hb := (Below.refl w4.heap.size w4).alloc (Nat.le_refl _) (.cells #[.int .i64 p, .slice cb cs.length cd, .slice db ds.length dd] 25)
    have hb3 := H4.out.2.trans (hb.mono H4.out.2.size)
    exact ⟨Cls.new w4 [.int .i64 p, .slice cb cs.length cd, .slice db ds.length dd] 25, H3.out.1.later hb3, H3.out.2.1.later hb3, H4.out.1.later hb, H3.out.2.2.trans (hb3.mono H3.out.2.2.size)⟩
  clear H3 H4
  generalize w4.heap.size = Y at H5 ⊢
  generalize w4.alloc (.cells #[.int .i64 p, .slice cb cs.length cd, .slice db ds.length dd] _) = W5 at H5 ⊢
  have d4 := put_by (d3.out W5 ca cb da db cc cd dc dd H5.out.2.2)
  obtain ⟨x0, -⟩ := H5.out.2.1 0 _ rfl
  obtain ⟨x1, -⟩ := H5.out.2.1 1 _ rfl
  obtain ⟨x2, -⟩ := H5.out.2.1 2 _ rfl
  obtain ⟨y0, -⟩ := H5.out.1 0 _ rfl
  obtain ⟨y1, -⟩ := H5.out.1 1 _ rfl
  obtain ⟨y2, -⟩ := H5.out.1 2 _ rfl
  clear d3 H5
  generalize cs.length = n1 at d4 x1 y1
  generalize ds.length = n2 at d4 x2 y2
  go_wp2_with (first
    | (go_at_call 8; (with_reducible refine d4.out.mono ?_); clear d4; rintro e w7 ⟨rfl, H7⟩))
  go_ret
  exact ⟨by simp, H7.out⟩

/-! ### THE ROW's STEP: WRITTEN OUT: LEAVE IT -/
set_option maxRecDepth 100000 in
theorem lifted (os : Os) (started : os.Started) (H : Type) (enc : TypeId × Value → H) :
    ReturnsInHanded {} Try.checked os 5 .any (Rows.meldLoadsSpec.pre6 enc Try.prog Try.f5 Rows.meldLoadsRow.domain false) (Rows.meldLoadsSpec.post enc Try.prog Try.f5 false true false false) := by
  refine returnsInHanded_of_change_sized (C := Try.checked) own started (by kernel_rfl) Try.func5
    (ChangeSpec.witness6 (enc := enc) (C := Try.checked) false ⟨#[], #[.slice none 0 0], []⟩ 8 (by kernel_rfl) (by kernel_rfl) (by kernel_rfl) (by kernel_rfl)) ?_
  intro W base args ds gs before hval0 hW hcnd hsz0 _
  have hval : ∀ (j : Nat) t v, Try.f5.params[j]? = some t → args[j]? = some v → Value.okWide Try.prog W .any base t v := hval0
  have hW' := hW
  obtain ⟨p, q, hA0, hV, rfl, hfz, hnd⟩ := hW
  have hA : DataW.TrodAll enc Try.prog W 0 (fun _ => true) true Try.f5.params.toList args.toList ds p := hA0
  have hsz : (DataW.weightsEach Try.prog (Try.f5.params.toList ++ Rows.meldLoadsSpec.plain.varTypes Try.prog) (ds ++ gs)).all (· ≤ reachBytes) = true := hsz0
  clear hsz0
  rw [Try.params5] at hA hval hsz
  obtain ⟨v0, vs0, d0, ds0, p0, q0, hargs, rfl, rfl, h0, r0⟩ := trodAll_cons hA
  obtain ⟨rfl, rfl, rfl⟩ := trodAll_nil r0
  obtain rfl : args = #[v0] := by cases args; simp_all
  obtain ⟨rfl, rfl⟩ := trodVars_none hV
  obtain ⟨a0, len0, cap0, rfl⟩ := okWide_slice Try.underlying34 (hval 0 34 v0 rfl rfl)
  have k0 := h0
  have lt0 : ∀ x ∈ p0, x.block < W.heap.size := by obtain ⟨m, hm⟩ := k0; exact DataW.trod_lt m _ _ _ hm
  obtain ⟨z0, w0, rr0⟩ : ∃ zs, IsRow .u8 W a0 len0 cap0 zs ∧ cap0 * 1 ≤ 140737488351232 := by
    obtain ⟨fuel, hf⟩ := h0
    rcases open_ints Try.underlying34 Try.underlying5 (by kernel_rfl) hf with ⟨hcs, _⟩ | ⟨x, l, c, zs, hcs, _, hl, hm, hz, hx, hcell, hwz⟩
    · simp [Value.cells] at hcs
      obtain ⟨rfl, rfl, rfl⟩ := hcs
      exact ⟨[], .inl ⟨rfl, rfl, rfl, rfl⟩, by omega⟩
    · simp [Value.cells] at hcs
      obtain ⟨rfl, rfl, rfl⟩ := hcs
      have hd := congrArg Prod.fst hx
      simp only at hd
      subst hd
      have hs := sized_slice hsz (j := 0) rfl rfl Try.underlying34
      rw [bytesOfElem] at hs
      have hz2 : zs.length = cap0 := by simpa using hz
      simp only [lits, List.length_map, List.length_take, List.length_drop, reachBytes] at hs
      exact ⟨zs, .inr ⟨_, rfl, hl, hm, by simpa using hz, hcell, hwz⟩, by omega⟩
  clear hA0 hval0
  refine (walk a0 len0 cap0 z0 W w0 rr0).mono fun e W' ⟨he, bel⟩ => ?_
  subst he
  exact ⟨_, rfl, _, _, _, [], _, [], hW', trodAll_mk1 (shut_bool Try.underlying4 _), (trodAll_cons_mk (Below.trod laidOut (by kernel_rfl) (of_decide_eq_true (by kernel_rfl)) k0 bel lt0) trodAll_mk0), rfl, bel.frame _, fun h => by cases h⟩

theorem over : Rows.meldLoadsRow.holds Try.pinned (OpenSpec.ofChange Rows.meldLoadsSpec) :=
  OpenClaim.holds_of_wide 5 Try.f5 rfl rfl rfl rfl rfl rfl rfl ⟨rfl, rfl, rfl, rfl, rfl⟩ rfl rfl rfl rfl rfl (by kernel_rfl) Try.func5 (by kernel_rfl)
    (of_decide_eq_true (by kernel_rfl)) (by unfold Func.isWrapper; first | (rw [if_pos (by decide +kernel)]; kernel_rfl) | (rw [if_neg (by decide +kernel)]; exact ⟨rfl, rfl⟩))
    (fun os started H enc _ => lifted os started H enc)

/-- ████ THE STATEMENT ████ -/
theorem proved : Rows.MeldLoadsSaid := over
end Go.Proofs.Ytndnbkgejdindaa.meldLoads
namespace Go.Proofs.Ytndnbkgejdindaa
theorem meldLoads_holds : Rows.MeldLoadsSaid := meldLoads.proved
end Go.Proofs.Ytndnbkgejdindaa
