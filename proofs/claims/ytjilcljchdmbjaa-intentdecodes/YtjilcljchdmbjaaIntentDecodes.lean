/- intent.Decode answers, of every slice of bytes, what the document says: the intent that they are the bytes of, or that they are of none. -/
import Derived.Test.YtjilcljchdmbjaaRows
import Derived.Test.YtjilcljchdmbjaaSameItts
import Derived.Test.YtjilcljchdmbjaaItDec
import Derived.Test.YtjilcljchdmbjaaRfDec
import Derived.WalkKit
import Derived.ProofKit
import Derived.OpenShut
import Derived.ShutString
import Derived.ChangeOld
import Derived.Below
import Derived.SizedLaws
namespace Go.Proofs.Ytjilcljchdmbjaa.intentDecodes
open Go.ChangeShapes Go.WideShapes Go.ChangeAt Go.RowKit
open Go.ChangeMaps (open_string shut_string)
set_option linter.unusedVariables false

theorem own : ownKnob Try.prog.godebug = none := by kernel_rfl
theorem bytesOfElem : Try.prog.bytesOf 5 = 1 := by kernel_rfl
theorem laidOut : laidOutB Try.prog = true := by kernel_rfl

/-- WHAT THE WALK IS TOLD OF A SLICE OF INTEGERS THAT CAME IN: it is nil; or it leads to a row of 'cap' cells, the numbers 'zs' (the first 'len' are its elements, the rest its spare room), each fitting its kind. -/
def IsRow (k : IntKind) (w : World) (a : Option Addr) (len cap : Nat) (zs : List Int) : Prop :=
  (a = none ∧ len = 0 ∧ cap = 0 ∧ zs = []) ∨
  ∃ x, a = some x ∧ len ≤ cap ∧ cap ≤ maxLen ∧ zs.length = cap ∧ (∀ i, i < zs.length → w.cell? (x.add i) = some (.int k (zs.getD i 0))) ∧ ∀ n ∈ zs, (Lit.int k n).wf = true

/-! ### STEP 1: THE WALK: the Go text returns true, AND WRITES NOTHING THAT WAS THERE: 'Below w.heap.size w w'' (Derived/Below.lean: '.refl', '.alloc', '.drew', '.setCell' at a new block, '.trans'). Open each 'IsRow' by 'rcases' AHEAD of 'go_enter'; part every test ahead of the walk. -/
set_option maxHeartbeats 4000000 in
theorem walk (a0 : Option Addr) (len0 cap0 : Nat) (z0 : List Int) (w : World) (w0 : IsRow .u8 w a0 len0 cap0 z0) (rr0 : cap0 * 1 ≤ 140737488351232) :
    Calls Try.prog 3 #[.slice a0 len0 cap0] w fun e w' => e = .returned (.bool true) ∧ Below w.heap.size w w' := by
  obtain ⟨xs, rfl, he0⟩ := row_octs (by omega) w0
  clear w0
  have d0 : Hid (Calls Try.prog 7 #[.slice a0 xs.length cap0] w fun e w' => ∃ (a1 : Option Addr) (c1 : Nat), e = .returned (.slice a1 xs.length c1) ∧ Hid (Octs w' a1 c1 xs ∧ Ples a1 c1 ∧ (∀ a, a1 = some a → a.block < w'.heap.size) ∧ Below w.heap.size w w')) := (octets_all a0 cap0 xs w he0).mono (fun e w' ⟨a1, c1, h1, h2, h3, h4, h5⟩ => ⟨a1, c1, h1, h2, h3, h4, h5⟩)
  have d1 : Hid (∀ (V : World) (a1 : Option Addr) (c1 : Nat), (Octs V a1 c1 xs ∧ Ples a1 c1 ∧ (∀ a, a1 = some a → a.block < V.heap.size) ∧ Below w.heap.size w V) → Calls Try.prog 6 #[.slice a1 xs.length c1] V fun e w' => ∃ (c n s : Int) (ra : Option Addr) (rn rc : Nat) (wa : Option Addr) (wn wc : Nat) (code : Int), e = .returned (.tuple #[.agg #[.int .i64 c, .int .i64 n, .int .i64 s, .slice ra rn rc, .slice wa wn wc], .int .i64 code]) ∧ Hid (Below w.heap.size w w' ∧ ∃ (rs : List Ent) (ws : List Wt), rn = rs.length ∧ wn = ws.length ∧ ItIs (fun _ => True) w' rs ws ra rc wa wc ∧ DecCode xs ⟨c, n, s, rs, ws⟩ code)) := fun V a1 c1 ⟨h1, h2, h3, h4⟩ => (Decode_any a1 c1 xs V h1 h2 h3).mono (fun e w' ⟨c, n, s, ra, rn, rc, wa, wn, wc, code, e1, e2, rs, ws, e3, e4, e5, e6⟩ => ⟨c, n, s, ra, rn, rc, wa, wn, wc, code, e1, h4.trans (e2.mono h4.size), rs, ws, e3, e4, ⟨e5.reads.move (Kept.of_below (Below.refl _ _)) (fun _ _ _ => trivial), e5.writes.move (Kept.of_below (Below.refl _ _)) (fun _ _ _ => trivial), e5.few⟩, e6⟩)
  have d2 : Hid (∀ (V : World), Below w.heap.size w V → Calls Try.prog 8 #[.slice a0 xs.length cap0] V fun e w' => ∃ (c n s : Int) (ra : Option Addr) (rn rc : Nat) (wa : Option Addr) (wn wc : Nat) (code : Int), e = .returned (.tuple #[.agg #[.int .i64 c, .int .i64 n, .int .i64 s, .slice ra rn rc, .slice wa wn wc], .int .i64 code]) ∧ Hid (Below V.heap.size V w' ∧ ∃ (rs : List Ent) (ws : List Wt), rn = rs.length ∧ wn = ws.length ∧ ItIs (fun _ => True) w' rs ws ra rc wa wc ∧ DecCode xs ⟨c, n, s, rs, ws⟩ code)) := fun V h4 => (IntentDecoded_any a0 cap0 xs V (he0.later h4)).mono (fun e w' ⟨c, n, s, ra, rn, rc, wa, wn, wc, code, e1, e2, rs, ws, e3, e4, e5, e6⟩ => ⟨c, n, s, ra, rn, rc, wa, wn, wc, code, e1, e2, rs, ws, e3, e4, ⟨e5.reads.move (Kept.of_below (Below.refl _ _)) (fun _ _ _ => trivial), e5.writes.move (Kept.of_below (Below.refl _ _)) (fun _ _ _ => trivial), e5.few⟩, e6⟩)
  clear he0
  generalize xs.length = m at d0 d1 d2 ⊢
  go_enter Try.func3, Try.ntmps3
  go_upto_region 2 with (first
    | (go_at_call 7; (with_reducible refine d0.out.mono ?_); clear d0; rintro e w1 ⟨a1, c1, rfl, H1⟩)
    | (go_at_call 6; (with_reducible refine (d1.out _ _ _ H1.out).mono ?_); clear d1; rintro e w2 ⟨c, n, s, ra, rn, rc, wa, wn, wc, code, rfl, H2⟩))
  have HX := put_by (Cls.new w2 [.int .i64 c, .int .i64 n, .int .i64 s, .slice ra rn rc, .slice wa wn wc] 26)
  have HB := put_by ((Below.refl w2.heap.size w2).alloc (Nat.le_refl _) (.cells #[.int .i64 c, .int .i64 n, .int .i64 s, .slice ra rn rc, .slice wa wn wc] 26))
  generalize hX : w2.heap.size = X
  rw [hX] at HX
  generalize w2.alloc (.cells #[.int .i64 c, .int .i64 n, .int .i64 s, .slice ra rn rc, .slice wa wn wc] _) = W3 at HX HB ⊢
  have H3 : Hid (Cls W3 X [.int .i64 c, .int .i64 n, .int .i64 s, .slice ra rn rc, .slice wa wn wc] ∧ Below w.heap.size w W3 ∧ ∃ (rs : List Ent) (ws : List Wt), rn = rs.length ∧ wn = ws.length ∧ ItIs (fun _ => True) W3 rs ws ra rc wa wc ∧ DecCode xs ⟨c, n, s, rs, ws⟩ code) := by
    obtain ⟨g1, rs, ws, g2, g3, g4, g5⟩ := H2.out
    exact ⟨HX.out, g1.trans (HB.out.mono g1.size), rs, ws, g2, g3, g4.later HB.out, g5⟩
  clear H1 H2 HX HB hX
  go_upto_region 3 with (first
    | (go_at_call 8; (with_reducible refine (d2.out _ H3.out.2.1).mono ?_); clear d2; rintro e w4 ⟨c', n', s', ra', rn', rc', wa', wn', wc', code', rfl, H4⟩))
  obtain ⟨g0, g1, rs, ws, rfl, rfl, g4, g5⟩ := H3.out
  obtain ⟨k1, rs', ws', rfl, rfl, k4, k5⟩ := H4.out
  obtain ⟨e1, e2⟩ := g5.one k5
  simp only [Itt.mk.injEq] at e1
  obtain ⟨rfl, rfl, rfl, rfl, rfl⟩ := e1
  subst e2
  have HX' := put_by (Cls.new w4 [.int .i64 c, .int .i64 n, .int .i64 s, .slice ra' rs.length rc', .slice wa' ws.length wc'] 26)
  have HB' := put_by ((Below.refl w4.heap.size w4).alloc (Nat.le_refl _) (.cells #[.int .i64 c, .int .i64 n, .int .i64 s, .slice ra' rs.length rc', .slice wa' ws.length wc'] 26))
  have H5 : Hid (Cls w4 X [.int .i64 c, .int .i64 n, .int .i64 s, .slice ra rs.length rc, .slice wa ws.length wc] ∧ Below w.heap.size w w4 ∧ ItIs (fun _ => True) w4 rs ws ra rc wa wc ∧ ItIs (fun _ => True) w4 rs ws ra' rc' wa' wc') := ⟨g0.later k1, g1.trans (k1.mono g1.size), g4.later k1, k4⟩
  clear H3 H4 g0 g1 g4 g5 k1 k4 k5
  generalize hX : w4.heap.size = Y
  rw [hX] at HX'
  generalize w4.alloc (.cells #[.int .i64 c, .int .i64 n, .int .i64 s, .slice ra' rs.length rc', .slice wa' ws.length wc'] _) = W5 at HX' HB' ⊢
  have H6 : Hid (Below w.heap.size w W5) := H5.out.2.1.trans (HB'.out.mono H5.out.2.1.size)
  have d3 : Hid (Calls Try.prog 9 #[.agg #[.int .i64 c, .int .i64 n, .int .i64 s, .slice ra rs.length rc, .slice wa ws.length wc], .agg #[.int .i64 c, .int .i64 n, .int .i64 s, .slice ra' rs.length rc', .slice wa' ws.length wc']] W5 fun e w' => e = .returned (.bool true) ∧ Hid (Below w.heap.size w w')) := (sameIntent_yes _ _ c n s rs ws ra ra' wa wa' rc rc' wc wc' W5 (H5.out.2.2.1.later HB'.out) (H5.out.2.2.2.later HB'.out)).mono (fun e w' h => ⟨h.1, H6.out.trans (h.2.mono H6.out.size)⟩)
  have HQ := put_by (H5.out.1.later HB'.out)
  clear H5 HB'
  generalize rs.length = nr at d3 HQ HX'
  generalize ws.length = nw at d3 HQ HX'
  obtain ⟨x0, -⟩ := HQ.out 0 _ rfl
  obtain ⟨x1, -⟩ := HQ.out 1 _ rfl
  obtain ⟨x2, -⟩ := HQ.out 2 _ rfl
  obtain ⟨x3, -⟩ := HQ.out 3 _ rfl
  obtain ⟨x4, -⟩ := HQ.out 4 _ rfl
  obtain ⟨y0, -⟩ := HX'.out 0 _ rfl
  obtain ⟨y1, -⟩ := HX'.out 1 _ rfl
  obtain ⟨y2, -⟩ := HX'.out 2 _ rfl
  obtain ⟨y3, -⟩ := HX'.out 3 _ rfl
  obtain ⟨y4, -⟩ := HX'.out 4 _ rfl
  go_wp2_with (first
    | (go_at_call 9; (with_reducible refine d3.out.mono ?_); clear d3; rintro e w7 ⟨rfl, H7⟩))
  go_ret
  exact ⟨by simp, H7.out⟩

/-! ### THE ROW's STEP: WRITTEN OUT: LEAVE IT -/
set_option maxRecDepth 100000 in
theorem lifted (os : Os) (started : os.Started) (H : Type) (enc : TypeId × Value → H) :
    ReturnsInHanded {} Try.checked os 3 .any (Rows.intentDecodesSpec.pre6 enc Try.prog Try.f3 Rows.intentDecodesRow.domain false) (Rows.intentDecodesSpec.post enc Try.prog Try.f3 false true false false) := by
  refine returnsInHanded_of_change_sized (C := Try.checked) own started (by kernel_rfl) Try.func3
    (ChangeSpec.witness6 (enc := enc) (C := Try.checked) false ⟨#[], #[.slice none 0 0], []⟩ 8 (by kernel_rfl) (by kernel_rfl) (by kernel_rfl) (by kernel_rfl)) ?_
  intro W base args ds gs before hval0 hW hcnd hsz0 _
  have hval : ∀ (j : Nat) t v, Try.f3.params[j]? = some t → args[j]? = some v → Value.okWide Try.prog W .any base t v := hval0
  have hW' := hW
  obtain ⟨p, q, hA0, hV, rfl, hfz, hnd⟩ := hW
  have hA : DataW.TrodAll enc Try.prog W 0 (fun _ => true) true Try.f3.params.toList args.toList ds p := hA0
  have hsz : (DataW.weightsEach Try.prog (Try.f3.params.toList ++ Rows.intentDecodesSpec.plain.varTypes Try.prog) (ds ++ gs)).all (· ≤ reachBytes) = true := hsz0
  clear hsz0
  rw [Try.params3] at hA hval hsz
  obtain ⟨v0, vs0, d0, ds0, p0, q0, hargs, rfl, rfl, h0, r0⟩ := trodAll_cons hA
  obtain ⟨rfl, rfl, rfl⟩ := trodAll_nil r0
  obtain rfl : args = #[v0] := by cases args; simp_all
  obtain ⟨rfl, rfl⟩ := trodVars_none hV
  obtain ⟨a0, len0, cap0, rfl⟩ := okWide_slice Try.underlying22 (hval 0 22 v0 rfl rfl)
  have k0 := h0
  have lt0 : ∀ x ∈ p0, x.block < W.heap.size := by obtain ⟨m, hm⟩ := k0; exact DataW.trod_lt m _ _ _ hm
  obtain ⟨z0, w0, rr0⟩ : ∃ zs, IsRow .u8 W a0 len0 cap0 zs ∧ cap0 * 1 ≤ 140737488351232 := by
    obtain ⟨fuel, hf⟩ := h0
    rcases open_ints Try.underlying22 Try.underlying5 (by kernel_rfl) hf with ⟨hcs, _⟩ | ⟨x, l, c, zs, hcs, _, hl, hm, hz, hx, hcell, hwz⟩
    · simp [Value.cells] at hcs
      obtain ⟨rfl, rfl, rfl⟩ := hcs
      exact ⟨[], .inl ⟨rfl, rfl, rfl, rfl⟩, by omega⟩
    · simp [Value.cells] at hcs
      obtain ⟨rfl, rfl, rfl⟩ := hcs
      have hd := congrArg Prod.fst hx
      simp only at hd
      subst hd
      have hs := sized_slice hsz (j := 0) rfl rfl Try.underlying22
      rw [bytesOfElem] at hs
      have hz2 : zs.length = cap0 := by simpa using hz
      simp only [lits, List.length_map, List.length_take, List.length_drop, reachBytes] at hs
      exact ⟨zs, .inr ⟨_, rfl, hl, hm, by simpa using hz, hcell, hwz⟩, by omega⟩
  clear hA0 hval0
  refine (walk a0 len0 cap0 z0 W w0 rr0).mono fun e W' ⟨he, bel⟩ => ?_
  subst he
  exact ⟨_, rfl, _, _, _, [], _, [], hW', trodAll_mk1 (shut_bool Try.underlying4 _), (trodAll_cons_mk (Below.trod laidOut (by kernel_rfl) (of_decide_eq_true (by kernel_rfl)) k0 bel lt0) trodAll_mk0), rfl, bel.frame _, fun h => by cases h⟩

theorem over : Rows.intentDecodesRow.holds Try.pinned (OpenSpec.ofChange Rows.intentDecodesSpec) :=
  OpenClaim.holds_of_wide 3 Try.f3 rfl rfl rfl rfl rfl rfl rfl ⟨rfl, rfl, rfl, rfl, rfl⟩ rfl rfl rfl rfl rfl (by kernel_rfl) Try.func3 (by kernel_rfl)
    (of_decide_eq_true (by kernel_rfl)) (by unfold Func.isWrapper; first | (rw [if_pos (by decide +kernel)]; kernel_rfl) | (rw [if_neg (by decide +kernel)]; exact ⟨rfl, rfl⟩))
    (fun os started H enc _ => lifted os started H enc)

/-- ████ THE STATEMENT ████ -/
theorem proved : Rows.IntentDecodesSaid := over
end Go.Proofs.Ytjilcljchdmbjaa.intentDecodes
namespace Go.Proofs.Ytjilcljchdmbjaa
theorem intentDecodes_holds : Rows.IntentDecodesSaid := intentDecodes.proved
end Go.Proofs.Ytjilcljchdmbjaa
