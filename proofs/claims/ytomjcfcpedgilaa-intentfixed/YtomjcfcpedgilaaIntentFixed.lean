/- At every slice of bytes commonholdkeep.IntentFixed returns true: bytes that intent.Decode reads are those that intent.Encode gives of what was read; it ends, does not panic, and changes nothing that was there. -/
import Derived.Test.YtomjcfcpedgilaaRows
import Derived.Test.YtomjcfcpedgilaaOctetsOwn
import Derived.Test.YtomjcfcpedgilaaKpWish0
import Derived.Test.YtomjcfcpedgilaaItEnc
import Derived.Test.YtomjcfcpedgilaaRtSameK
import Derived.WalkKit
import Derived.ProofKit
import Derived.OpenShut
import Derived.ShutString
import Derived.ChangeOld
import Derived.Below
import Derived.SizedLaws
namespace Go.Proofs.Ytomjcfcpedgilaa.intentFixed
open Go.ChangeShapes Go.WideShapes Go.ChangeAt Go.RowKit
open Go.ChangeMaps (open_string shut_string)
set_option linter.unusedVariables false

theorem own : ownKnob Try.prog.godebug = none := by kernel_rfl
theorem bytesOfElem : Try.prog.bytesOf 5 = 1 := by kernel_rfl
theorem laidOut : laidOutB Try.prog = true := by kernel_rfl

/-- WHAT THE WALK IS TOLD OF A SLICE OF INTEGERS THAT CAME IN: it is nil; or it leads to a row of 'cap' cells, the numbers 'zs' (the first 'len' are its elements, the rest its spare room), each fitting its kind. -/
def IsRow (k : IntKind) (w : World) (a : Option Addr) (len cap : Nat) (zs : List Int) : Prop :=
  (a = none ∧ len = 0 ∧ cap = 0 ∧ zs = []) ∨
  ∃ x, a = some x ∧ len ≤ cap ∧ cap ≤ maxLen ∧ zs.length = cap ∧ (∀ i, i < zs.length → w.cell? (x.add i) = some (.int k (zs.getD i 0))) ∧ ∀ n ∈ zs, (Lit.int k n).wf = true

/-! ### STEP 1: THE WALK: the Go text returns true, AND WRITES NOTHING THAT WAS THERE: 'Below w.heap.size w w'' (Derived/Below.lean: '.refl', '.alloc', '.drew', '.setCell' at a new block, '.trans'). Open each 'IsRow' by 'rcases' AHEAD of 'go_enter'; part every test ahead of the walk. -/
set_option maxHeartbeats 4000000 in
theorem walk (a0 : Option Addr) (len0 cap0 : Nat) (z0 : List Int) (w : World) (w0 : IsRow .u8 w a0 len0 cap0 z0) (rr0 : cap0 * 1 ≤ 140737488351232) :
    Calls Try.prog 7 #[.slice a0 len0 cap0] w fun e w' => e = .returned (.bool true) ∧ Below w.heap.size w w' := by
  obtain ⟨xs, rfl, he0⟩ := row_octs (by omega) w0
  clear w0
  have d0 : Hid (Calls Try.prog 21 #[.slice a0 xs.length cap0, .int .i64 xs.length] w fun e w' => ∃ (a1 : Option Addr) (c1 : Nat), e = .returned (.slice a1 xs.length c1) ∧ Hid (Octs w' a1 c1 xs ∧ Ples a1 c1 ∧ (∀ a, a1 = some a → a.block < w'.heap.size) ∧ Below w.heap.size w w')) := (Octets_all a0 cap0 xs w he0).mono (fun e w' ⟨a1, c1, h1, h2, h3, h4, h5⟩ => ⟨a1, c1, h1, h2, h3, h4, h5⟩)
  have d1 : Hid (∀ (V : World) (a1 : Option Addr) (c1 : Nat), (Octs V a1 c1 xs ∧ Ples a1 c1 ∧ (∀ a, a1 = some a → a.block < V.heap.size) ∧ Below w.heap.size w V) → Calls Try.prog 14 #[.slice a1 xs.length c1] V fun e w' => ∃ (c n s : Int) (ra : Option Addr) (rn rc : Nat) (wa : Option Addr) (wn wc : Nat) (code : Int), e = .returned (.tuple #[.agg #[.int .i64 c, .int .i64 n, .int .i64 s, .slice ra rn rc, .slice wa wn wc], .int .i64 code]) ∧ Hid (Below w.heap.size w w' ∧ ∃ (rs : List Ent) (ws : List Wt), rn = rs.length ∧ wn = ws.length ∧ ItIs (fun _ => True) w' rs ws ra rc wa wc ∧ DecCode xs ⟨c, n, s, rs, ws⟩ code)) := fun V a1 c1 ⟨h1, h2, h3, h4⟩ => (Decode_any a1 c1 xs V h1 h2 h3).mono (fun e w' ⟨c, n, s, ra, rn, rc, wa, wn, wc, code, e1, e2, rs, ws, e3, e4, e5, e6⟩ => ⟨c, n, s, ra, rn, rc, wa, wn, wc, code, e1, h4.trans (e2.mono h4.size), rs, ws, e3, e4, ⟨e5.reads.move (Kept.of_below (Below.refl _ _)) (fun _ _ _ => trivial), e5.writes.move (Kept.of_below (Below.refl _ _)) (fun _ _ _ => trivial), e5.few⟩, e6⟩)
  have dM : Hid (∀ V : World, Calls Try.prog 9 #[.agg #[.int .i64 1, .int .i64 1, .int .i64 0, .slice none 0 0, .slice none 0 0]] V fun e w' => e = .returned (.bool true) ∧ Below V.heap.size V w') := fun V => May_any (fun _ => True) 1 1 0 [] [] none 0 none 0 V ⟨Lies.nil _ _ _ (fun _ => rfl), Lies.nil _ _ _ (fun _ => rfl), by simp, by simp⟩ true ⟨fun _ => ⟨by simp, by simp, by simp, by simp, (fun r hr => by cases hr), (fun r hr => by cases hr), List.Pairwise.nil⟩, fun _ => rfl⟩
  have HE := put_by he0
  clear he0
  obtain ⟨m, hm⟩ : ∃ m, m = xs.length := ⟨_, rfl⟩
  rw [← hm] at d0 d1 ⊢
  have HM := put_by hm
  clear hm
  go_enter Try.func7, Try.ntmps7
  go_upto_region 2 with (first
    | (go_at_call 21; (with_reducible refine d0.out.mono ?_); clear d0; rintro e w1 ⟨a1, c1, rfl, H1⟩)
    | (go_at_call 14; (with_reducible refine (d1.out _ _ _ H1.out).mono ?_); clear d1; rintro e w2 ⟨c, n, s, ra, rn, rc, wa, wn, wc, code, rfl, H2⟩))
  have HX := put_by (Cls.new w2 [.int .i64 c, .int .i64 n, .int .i64 s, .slice ra rn rc, .slice wa wn wc] 25)
  have HB := put_by ((Below.refl w2.heap.size w2).alloc (Nat.le_refl _) (.cells #[.int .i64 c, .int .i64 n, .int .i64 s, .slice ra rn rc, .slice wa wn wc] 25))
  generalize hX : w2.heap.size = X
  rw [hX] at HX
  generalize w2.alloc (.cells #[.int .i64 c, .int .i64 n, .int .i64 s, .slice ra rn rc, .slice wa wn wc] _) = W3 at HX HB ⊢
  have H3 : Hid (Cls W3 X [.int .i64 c, .int .i64 n, .int .i64 s, .slice ra rn rc, .slice wa wn wc] ∧ Below w.heap.size w W3 ∧ ∃ (rs : List Ent) (ws : List Wt), rn = rs.length ∧ wn = ws.length ∧ ItIs (fun _ => True) W3 rs ws ra rc wa wc ∧ DecCode xs ⟨c, n, s, rs, ws⟩ code) := by
    obtain ⟨g1, rs, ws, g2, g3, g4, g5⟩ := H2.out
    exact ⟨HX.out, g1.trans (HB.out.mono g1.size), rs, ws, g2, g3, g4.later HB.out, g5⟩
  clear H1 H2 HX HB hX
  have dI : Hid (∀ V, (Cls V X [.int .i64 c, .int .i64 n, .int .i64 s, .slice ra rn rc, .slice wa wn wc] ∧ Below w.heap.size w V ∧ ∃ (rs : List Ent) (ws : List Wt), rn = rs.length ∧ wn = ws.length ∧ ItIs (fun _ => True) V rs ws ra rc wa wc ∧ DecCode xs ⟨c, n, s, rs, ws⟩ code) → ∀ V', Below V.heap.size V V' → (Cls V' X [.int .i64 c, .int .i64 n, .int .i64 s, .slice ra rn rc, .slice wa wn wc] ∧ Below w.heap.size w V' ∧ ∃ (rs : List Ent) (ws : List Wt), rn = rs.length ∧ wn = ws.length ∧ ItIs (fun _ => True) V' rs ws ra rc wa wc ∧ DecCode xs ⟨c, n, s, rs, ws⟩ code)) := fun V ⟨g0, g1, rs, ws, g2, g3, g4, g5⟩ V' hb => ⟨g0.later hb, g1.trans (hb.mono g1.size), rs, ws, g2, g3, g4.later hb, g5⟩
  go_upto_region 4 with (first
    | (go_at_call 18; (with_reducible refine (IntentOf_zero _).mono ?_); rintro e w4 ⟨rfl, hb4⟩; have H4 := put_by (dI.out _ H3.out _ hb4); clear hb4)
    | (go_at_call 9; (with_reducible refine (dM.out _).mono ?_); rintro e w5 ⟨rfl, hb5⟩; have H5 := put_by (dI.out _ H4.out _ hb5); clear hb5))
  clear H3 H4 dI dM
  obtain ⟨g0, g1, rs, ws, g2, g3, g4, g5⟩ := H5.out
  rcases g5 with ⟨g6, rfl⟩ | ⟨g6, rfl, g7⟩
  · have hE := Encode_any (fun _ => True) c n s rs ws ra rc wa wc w5 g4
    rw [← g2, ← g3] at hE
    have d6 : Hid (Calls Try.prog 11 #[.agg #[.int .i64 c, .int .i64 n, .int .i64 s, .slice ra rn rc, .slice wa wn wc]] w5 fun e w' => ∃ (a6 : Option Addr) (k6 : Nat), e = .returned (.tuple #[.slice a6 m k6, .int .i64 0]) ∧ Hid (Octs w' a6 k6 xs ∧ Below w.heap.size w w')) := by
      refine hE.mono ?_
      rintro e w' ⟨ys, ecode, a6, m6, k6, rfl, h1, h2, h3, h4, h5⟩
      have h8 : EncIs ⟨c, n, s, rs, ws⟩ xs 0 := .inr (.inr ⟨g6.1, by rw [g6.2.1]; exact g6.2.2, g6.2.1.symm, rfl⟩)
      obtain ⟨rfl, rfl⟩ := h1.one h8
      exact ⟨a6, k6, by rw [h2, HM.out], h3, g1.trans (h5.mono g1.size)⟩
    have d7 : Hid (∀ (V : World) (a6 : Option Addr) (k6 : Nat), (Octs V a6 k6 xs ∧ Below w.heap.size w V) → Calls Try.prog 22 #[.slice a6 m k6, .slice a0 m cap0] V fun e w' => e = .returned (.bool true) ∧ Hid (Below w.heap.size w w')) := fun V a6 k6 ⟨h1, h2⟩ => by
      have := sameBytesK_q a6 a0 k6 cap0 xs xs V h1 (HE.out.later h2)
      rw [← HM.out] at this
      refine this.mono ?_
      rintro e w' ⟨rfl, j, rfl⟩
      exact ⟨by simp, h2.trans ((drawn_below (Below.refl _ V) j).mono h2.size)⟩
    obtain ⟨x0, -⟩ := g0 0 _ rfl
    obtain ⟨x1, -⟩ := g0 1 _ rfl
    obtain ⟨x2, -⟩ := g0 2 _ rfl
    obtain ⟨x3, -⟩ := g0 3 _ rfl
    obtain ⟨x4, -⟩ := g0 4 _ rfl
    clear g0 g1 g2 g3 g4 g6 hE H5
    go_wp2_with (first
      | (go_at_call 11; (with_reducible refine d6.out.mono ?_); clear d6; rintro e w6 ⟨a6, k6, rfl, H6⟩)
      | (go_at_call 22; (with_reducible refine (d7.out _ _ _ H6.out).mono ?_); clear d7; rintro e w7 ⟨rfl, H7⟩))
    go_ret
    exact ⟨rfl, H7.out⟩
  · have hc : c = 0 := congrArg Itt.client g7
    subst hc
    obtain ⟨x0, -⟩ := g0 0 _ rfl
    have HQ := put_by g1
    clear g0 g1 g2 g3 g4 g6 g7 H5
    go_wp2
    go_ret
    exact ⟨rfl, HQ.out⟩

/-! ### THE ROW's STEP: WRITTEN OUT: LEAVE IT -/
set_option maxRecDepth 100000 in
theorem lifted (os : Os) (started : os.Started) (H : Type) (enc : TypeId × Value → H) :
    ReturnsInHanded {} Try.checked os 7 .any (Rows.intentFixedSpec.pre6 enc Try.prog Try.f7 Rows.intentFixedRow.domain false) (Rows.intentFixedSpec.post enc Try.prog Try.f7 false true false false) := by
  refine returnsInHanded_of_change_sized (C := Try.checked) own started (by kernel_rfl) Try.func7
    (ChangeSpec.witness6 (enc := enc) (C := Try.checked) false ⟨#[], #[.slice none 0 0], []⟩ 8 (by kernel_rfl) (by kernel_rfl) (by kernel_rfl) (by kernel_rfl)) ?_
  intro W base args ds gs before hval0 hW hcnd hsz0 _
  have hval : ∀ (j : Nat) t v, Try.f7.params[j]? = some t → args[j]? = some v → Value.okWide Try.prog W .any base t v := hval0
  have hW' := hW
  obtain ⟨p, q, hA0, hV, rfl, hfz, hnd⟩ := hW
  have hA : DataW.TrodAll enc Try.prog W 0 (fun _ => true) true Try.f7.params.toList args.toList ds p := hA0
  have hsz : (DataW.weightsEach Try.prog (Try.f7.params.toList ++ Rows.intentFixedSpec.plain.varTypes Try.prog) (ds ++ gs)).all (· ≤ reachBytes) = true := hsz0
  clear hsz0
  rw [Try.params7] at hA hval hsz
  obtain ⟨v0, vs0, d0, ds0, p0, q0, hargs, rfl, rfl, h0, r0⟩ := trodAll_cons hA
  obtain ⟨rfl, rfl, rfl⟩ := trodAll_nil r0
  obtain rfl : args = #[v0] := by cases args; simp_all
  obtain ⟨rfl, rfl⟩ := trodVars_none hV
  obtain ⟨a0, len0, cap0, rfl⟩ := okWide_slice Try.underlying27 (hval 0 27 v0 rfl rfl)
  have k0 := h0
  have lt0 : ∀ x ∈ p0, x.block < W.heap.size := by obtain ⟨m, hm⟩ := k0; exact DataW.trod_lt m _ _ _ hm
  obtain ⟨z0, w0, rr0⟩ : ∃ zs, IsRow .u8 W a0 len0 cap0 zs ∧ cap0 * 1 ≤ 140737488351232 := by
    obtain ⟨fuel, hf⟩ := h0
    rcases open_ints Try.underlying27 Try.underlying5 (by kernel_rfl) hf with ⟨hcs, _⟩ | ⟨x, l, c, zs, hcs, _, hl, hm, hz, hx, hcell, hwz⟩
    · simp [Value.cells] at hcs
      obtain ⟨rfl, rfl, rfl⟩ := hcs
      exact ⟨[], .inl ⟨rfl, rfl, rfl, rfl⟩, by omega⟩
    · simp [Value.cells] at hcs
      obtain ⟨rfl, rfl, rfl⟩ := hcs
      have hd := congrArg Prod.fst hx
      simp only at hd
      subst hd
      have hs := sized_slice hsz (j := 0) rfl rfl Try.underlying27
      rw [bytesOfElem] at hs
      have hz2 : zs.length = cap0 := by simpa using hz
      simp only [lits, List.length_map, List.length_take, List.length_drop, reachBytes] at hs
      exact ⟨zs, .inr ⟨_, rfl, hl, hm, by simpa using hz, hcell, hwz⟩, by omega⟩
  clear hA0 hval0
  refine (walk a0 len0 cap0 z0 W w0 rr0).mono fun e W' ⟨he, bel⟩ => ?_
  subst he
  exact ⟨_, rfl, _, _, _, [], _, [], hW', trodAll_mk1 (shut_bool Try.underlying4 _), (trodAll_cons_mk (Below.trod laidOut (by kernel_rfl) (of_decide_eq_true (by kernel_rfl)) k0 bel lt0) trodAll_mk0), rfl, bel.frame _, fun h => by cases h⟩

theorem over : Rows.intentFixedRow.holds Try.pinned (OpenSpec.ofChange Rows.intentFixedSpec) :=
  OpenClaim.holds_of_wide 7 Try.f7 rfl rfl rfl rfl rfl rfl rfl ⟨rfl, rfl, rfl, rfl, rfl⟩ rfl rfl rfl rfl rfl (by kernel_rfl) Try.func7 (by kernel_rfl)
    (of_decide_eq_true (by kernel_rfl)) (by unfold Func.isWrapper; first | (rw [if_pos (by decide +kernel)]; kernel_rfl) | (rw [if_neg (by decide +kernel)]; exact ⟨rfl, rfl⟩))
    (fun os started H enc _ => lifted os started H enc)

/-- ████ THE STATEMENT ████ -/
theorem proved : Rows.IntentFixedSaid := over
end Go.Proofs.Ytomjcfcpedgilaa.intentFixed
namespace Go.Proofs.Ytomjcfcpedgilaa
theorem intentFixed_holds : Rows.IntentFixedSaid := intentFixed.proved
end Go.Proofs.Ytomjcfcpedgilaa
