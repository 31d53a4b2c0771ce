/- TruthStays returns true at every slice of whole numbers, every whole number and every bool, without condition. -/
import Derived.Test.YtnplkdngboogdacRows
import Derived.Test.YtnplkdngboogdacStays
import Derived.Test.YtnplkdngboogdacPicked
import Derived.WalkKit
import Derived.ProofKit
import Derived.OpenShut
import Derived.ShutString
import Derived.ChangeOld
import Derived.Below
import Derived.SizedLaws
namespace Go.Proofs.Ytnplkdngboogdac.truthStays
open Go.ChangeShapes Go.WideShapes Go.ChangeAt Go.RowKit
open Go.ChangeMaps (open_string shut_string)
set_option linter.unusedVariables false

theorem own : ownKnob Try.prog.godebug = none := by kernel_rfl
theorem bytesOfElem : Try.prog.bytesOf 3 = 8 := by kernel_rfl
theorem laidOut : laidOutB Try.prog = true := by kernel_rfl

/-- WHAT THE WALK IS TOLD OF A SLICE OF INTEGERS THAT CAME IN: it is nil; or it leads to a row of 'cap' cells, the numbers 'zs' (the first 'len' are its elements, the rest its spare room), each fitting its kind. -/
def IsRow (k : IntKind) (w : World) (a : Option Addr) (len cap : Nat) (zs : List Int) : Prop :=
  (a = none ∧ len = 0 ∧ cap = 0 ∧ zs = []) ∨
  ∃ x, a = some x ∧ len ≤ cap ∧ cap ≤ maxLen ∧ zs.length = cap ∧ (∀ i, i < zs.length → w.cell? (x.add i) = some (.int k (zs.getD i 0))) ∧ ∀ n ∈ zs, (Lit.int k n).wf = true

/-! ### STEP 1: THE WALK: the Go text returns true, AND WRITES NOTHING THAT WAS THERE: 'Below w.heap.size w w'' (Derived/Below.lean: '.refl', '.alloc', '.drew', '.setCell' at a new block, '.trans'). Open each 'IsRow' by 'rcases' AHEAD of 'go_enter'; part every test ahead of the walk. -/
set_option maxHeartbeats 16000000 in
theorem walk (a0 : Option Addr) (len0 cap0 : Nat) (z0 : List Int) (a1 : Int) (a2 : Bool) (w : World) (w0 : IsRow .i64 w a0 len0 cap0 z0) (rr0 : cap0 * 8 ≤ 140737488351232) (w1 : (Lit.int .i64 a1).wf = true) :
    Calls Try.prog 3 #[.slice a0 len0 cap0, .int .i64 a1, .bool a2] w fun e w' => e = .returned (.bool true) ∧ Below w.heap.size w w' := by
  obtain ⟨xs, rfl, he, hr, -, -, -⟩ := row_elems rr0 w0
  obtain ⟨i0, hi, hz0, hz1, hz2⟩ := info_parts Try.info3
  have HE : Hid (Elems w a0 xs) := he
  clear he w0 rr0 w1
  obtain ⟨n, hn⟩ : ∃ n, n = xs.length := ⟨_, rfl⟩
  rw [← hn] at hr
  rw [← hn]
  have HN : Hid (n = xs.length) := hn
  clear hn
  obtain ⟨B, hB⟩ : ∃ B, B = w.heap.size := ⟨_, rfl⟩
  rw [← hB]
  have HB : Hid (B = w.heap.size) := hB
  have b0 : Below B w w := Below.refl _ _
  have b1 : B ≤ w.heap.size := by omega
  clear hB
  go_enter Try.func3, Try.ntmps3
  go_wp2
  go_loopw [7, 8] (fun u i wr => ∃ (k : Nat) (tl : List Value), k ≤ n ∧ i = .int .i64 k ∧ B ≤ wr.heap.size ∧ Hid (wr.ownsRow B 3 1 u k tl) ∧ Below B w wr ∧ Hid (tl = (tsOf (xs.take k)).map (Value.int .i64)))
    (fun _ i _ => n - (intOf i).toNat)
  case atStart => exact ⟨0, [], Nat.zero_le _, rfl, b1, World.ownsRow_nil _ _ _ _, b0, rfl⟩
  case round =>
    obtain ⟨k, tl, hk, rfl, hsz, HU, hbel, HL⟩ := hrel
    by_cases hlt : k < n
    · have hkl : k < xs.length := by rw [← HN.out]; exact hlt
      obtain ⟨b, off, rfl, hcell0⟩ := HE.out.at (k := k) hkl
      have hblk : b < B := by rw [HB.out]; exact World.block_lt_of_cell? _ _ hcell0
      obtain ⟨x, hx⟩ : ∃ x, x = xs.getD k 0 := ⟨_, rfl⟩
      rw [← hx] at hcell0
      have hcell := (hbel.cell (p := ⟨b, off + k, none⟩) hblk).trans hcell0
      have hp := Picked_any x 3 (by omega) (by omega)
      obtain ⟨t, ht⟩ : ∃ t, t = x % 3 := ⟨_, rfl⟩
      rw [← ht] at hp
      have R : Hid (tl ++ [Value.int .i64 t] = (tsOf (xs.take (k + 1))).map (Value.int .i64)) := by
        rw [tsOf_step xs k hkl, HL.out, ← hx, ← ht]
        simp [Hid]
      clear hx ht hcell0 HL hkl
      go_wp2_with (first
        | (go_at_call 4; refine (hp _).mono ?_; rintro e w' ⟨rfl, rfl⟩)
        | (at_builtin; refine wpList_append_own _ rfl (.tmp 25) (.tmp 31) 22 rfl B 3 i0 (.int .i64 0) 1 8 Try.underlying22 hi hz0 hz1 hz2 rfl (by decide) _ _ _ rfl (HU.out.alloc _) ⟨wr.heap.size, 0, none⟩ 1 1 [.int .i64 t] rfl rfl (cell_one_new _ _ _) (one_oneCell t) (by unfold maxLen; omega) (by omega) (by rw [size_alloc]; omega) ?_; intro u1 w1 hu1 hg1 _))
      have R2 := one_step hbel hsz HU.out hu1 hg1
      go_roundw
      case rel => exact ⟨k + 1, _, by omega, by go_num, R2.2.2, R2.1, R2.2.1, R⟩
      case measure => simp [intOf]; omega
    · have hkn : k = n := by omega
      subst hkn
      have htk : xs.take k = xs := by rw [HN.out]; exact List.take_length
      obtain ⟨ts, hts⟩ : ∃ ts, ts = tsOf xs := ⟨_, rfl⟩
      have hL := HL.out
      rw [htk, ← hts] at hL
      have l1 : k = ts.length := by rw [hts, tsOf_length]; exact HN.out
      have all1 : ts.all truthy = true := by rw [hts]; exact tsOf_all xs
      clear HL htk hts HN HE
      by_cases h0 : k = 0
      · have hnil : ts = [] := List.length_eq_zero_iff.1 (by omega)
        subst hnil
        obtain ⟨ao, cap, rfl, he1⟩ := own_elems (xs := []) l1 hL (by simp) HU.out
        have h1 := And_len ao cap 0 [] rfl wr he1 rfl 2 rfl
        have h2 := Or_len ao cap 0 [] rfl wr he1 rfl 0 rfl
        subst h0
        clear hL l1 all1 HU he1
        go_wp2_with (first
          | (go_at_call 5; refine h1.mono ?_; rintro e w' ⟨rfl, rfl⟩)
          | (go_at_call 6; refine h2.mono ?_; rintro e w' ⟨rfl, rfl⟩))
        go_ret
        exact ⟨rfl, hbel⟩
      · obtain ⟨g, cap, rfl, hgB⟩ := own_form HU.out (by omega)
        have hc := own_cells (xs := ts) l1 hL (by omega) HU.out
        obtain ⟨hE1, hnews, -⟩ := hc
        obtain ⟨A, hA⟩ : ∃ A, A = pickVal min 2 ts := ⟨_, rfl⟩
        obtain ⟨O, hO⟩ : ∃ O, O = pickVal max 0 ts := ⟨_, rfl⟩
        have h1 := And_len (some ⟨g, 0, none⟩) cap k ts l1 wr hE1 all1 A hA
        have h2 := Or_len (some ⟨g, 0, none⟩) cap k ts l1 wr hE1 all1 O hO
        have hkp : 0 < k := by omega
        have hp0 := Picked_any a1 (k : Int) (by omega) (by omega)
        obtain ⟨p, hp⟩ : ∃ p : Nat, (p : Int) = a1 % (k : Int) := ⟨(a1 % (k : Int)).toNat, by have := Int.emod_nonneg a1 (b := (k : Int)) (by omega); omega⟩
        have hpk : p < k := by have := Int.emod_lt_of_pos a1 (b := (k : Int)) (by omega); omega
        rw [← hp] at hp0
        obtain ⟨y, hy⟩ : ∃ y, y = ts.getD p 0 := ⟨_, rfl⟩
        have HP : Hid (p < ts.length) := by rw [← l1]; exact hpk
        have HM : Hid (∀ m1 wm, World.ownsRow wm wr.heap.size 3 1 m1 (0 + k) ([] ++ ts.map (Value.int .i64)) → ∃ gm capm, m1 = .slice (some ⟨gm, 0, none⟩) k capm ∧ wr.heap.size ≤ gm ∧ wm.cell? ⟨gm, p, none⟩ = some (.int .i64 y) ∧ wm.frozen? ⟨gm, p, none⟩ = false ∧
            (∀ z, Elems (wm.setCell ⟨gm, p, none⟩ (.int .i64 z)) (some ⟨gm, 0, none⟩) (ts.set p z)) ∧
            (∀ z z', Elems ((wm.setCell ⟨gm, p, none⟩ (.int .i64 z')).setCell ⟨gm, p, none⟩ (.int .i64 z)) (some ⟨gm, 0, none⟩) (ts.set p z))) := by
          intro m1 wm hm
          rw [Nat.zero_add, List.nil_append] at hm
          obtain ⟨gm, capm, rfl, hgm⟩ := own_form hm hkp
          have c := own_cells (xs := ts) l1 rfl (by omega) hm
          refine ⟨gm, capm, rfl, hgm, by rw [hy]; exact c.2.2 p hpk, hm.frozenAt p, ?_, ?_⟩
          · intro z
            have s := own_stored (xs := ts) l1 rfl hm p z
            exact (own_cells s.2 rfl (by rw [← s.2]; omega) s.1).1
          · intro z z'
            have s := own_stored (xs := ts) l1 rfl hm p z'
            have s2 := own_stored (xs := ts.set p z') s.2 rfl s.1 p z
            rw [List.set_set] at s2
            exact (own_cells s2.2 rfl (by rw [← s2.2]; omega) s2.1).1
        have l2 : ∀ z, k = (ts.set p z).length := fun z => by rw [List.length_set]; exact l1
        have HL1 : Hid (k * 1 = (ts.map (Value.int .i64)).length) := by rw [Hid, List.length_map]; omega
        clear hp hE1
        by_cases hy1 : y = 1
        · subst hy1
          have hyy : ts.getD p 0 = 1 := hy.symm
          obtain ⟨z, hz⟩ : ∃ z : Int, z = if a2 = true then 2 else 0 := ⟨_, rfl⟩
          have hz2' : 0 ≤ z ∧ z ≤ 2 := by rw [hz]; split <;> omega
          obtain ⟨A', hA'⟩ : ∃ A', A' = pickVal min 2 (ts.set p z) := ⟨_, rfl⟩
          obtain ⟨O', hO'⟩ : ∃ O', O' = pickVal max 0 (ts.set p z) := ⟨_, rfl⟩
          have hs1 := stays_least all1 HP.out hyy z hz2'
          have hs2 := stays_most all1 HP.out hyy z hz2'
          rw [← hA, ← hA'] at hs1
          rw [← hO, ← hO'] at hs2
          have hC1 : ∀ W gm capm, Elems W (some ⟨gm, 0, none⟩) (ts.set p z) → Calls Try.prog 5 #[.slice (some ⟨gm, 0, none⟩) k capm] W fun e w' => e = .returned (.tuple #[.int .i64 A', .int .i64 0]) ∧ W = w' :=
            fun W gm capm he => And_len _ capm k _ (l2 z) W he (set_all all1 p z hz2') A' hA'
          have hC2 : ∀ W gm capm, Elems W (some ⟨gm, 0, none⟩) (ts.set p z) → Calls Try.prog 6 #[.slice (some ⟨gm, 0, none⟩) k capm] W fun e w' => e = .returned (.tuple #[.int .i64 O', .int .i64 0]) ∧ W = w' :=
            fun W gm capm he => Or_len _ capm k _ (l2 z) W he (set_all all1 p z hz2') O' hO'
          clear hyy hy l1 l2 hA hO hA' hO' hz2' hL HP all1
          cases a2
          · simp only [Bool.false_eq_true, if_false] at hz
            subst hz
            rcases hs1 with rfl | ⟨rfl, rfl⟩ <;> rcases hs2 with rfl | ⟨rfl, rfl⟩
            all_goals
              go_wp2_with (first
                | (go_at_call 5; first | (refine h1.mono ?_; rintro e w' ⟨rfl, rfl⟩) | (refine (hC1 _ _ _ (he0 _)).mono ?_; rintro e w' ⟨rfl, rfl⟩))
                | (go_at_call 6; first | (refine h2.mono ?_; rintro e w' ⟨rfl, rfl⟩) | (refine (hC2 _ _ _ (he0 _)).mono ?_; rintro e w' ⟨rfl, rfl⟩))
                | (go_at_call 4; refine (hp0 _).mono ?_; rintro e w' ⟨rfl, rfl⟩)
                | (at_builtin; refine wpList_append_own _ rfl _ _ 22 rfl wr.heap.size 3 i0 (.int .i64 0) 1 8 Try.underlying22 hi hz0 hz1 hz2 rfl (by decide) _ _ _ rfl (World.ownsRow_nil _ _ _ _) ⟨g, 0, none⟩ k cap (ts.map (Value.int .i64)) rfl HL1.out.symm hnews (ints_oneCells ts) (by unfold maxLen; omega) (by omega) (Nat.le_refl _) ?_; intro m1 wm hm hgm _; obtain ⟨gm, capm, rfl, hge, hcm, hfm, he0, he2⟩ := HM.out m1 wm hm; clear hm))
              go_ret
              refine ⟨rfl, ?_⟩
              exact (hbel.grown hgm hsz (by intro q hq; cases hq)).setCell (by exact Nat.le_trans hsz hge) _
          · simp only [if_true] at hz
            subst hz
            rcases hs1 with rfl | ⟨rfl, rfl⟩ <;> rcases hs2 with rfl | ⟨rfl, rfl⟩
            all_goals
              go_wp2_with (first
                | (go_at_call 5; first | (refine h1.mono ?_; rintro e w' ⟨rfl, rfl⟩) | (refine (hC1 _ _ _ (he2 _ _)).mono ?_; rintro e w' ⟨rfl, rfl⟩) | (refine (hC1 _ _ _ (he0 _)).mono ?_; rintro e w' ⟨rfl, rfl⟩))
                | (go_at_call 6; first | (refine h2.mono ?_; rintro e w' ⟨rfl, rfl⟩) | (refine (hC2 _ _ _ (he2 _ _)).mono ?_; rintro e w' ⟨rfl, rfl⟩) | (refine (hC2 _ _ _ (he0 _)).mono ?_; rintro e w' ⟨rfl, rfl⟩))
                | (go_at_call 4; refine (hp0 _).mono ?_; rintro e w' ⟨rfl, rfl⟩)
                | (at_builtin; refine wpList_append_own _ rfl _ _ 22 rfl wr.heap.size 3 i0 (.int .i64 0) 1 8 Try.underlying22 hi hz0 hz1 hz2 rfl (by decide) _ _ _ rfl (World.ownsRow_nil _ _ _ _) ⟨g, 0, none⟩ k cap (ts.map (Value.int .i64)) rfl HL1.out.symm hnews (ints_oneCells ts) (by unfold maxLen; omega) (by omega) (Nat.le_refl _) ?_; intro m1 wm hm hgm _; obtain ⟨gm, capm, rfl, hge, hcm, hfm, he0, he2⟩ := HM.out m1 wm hm; clear hm))
              go_ret
              refine ⟨rfl, ?_⟩
              have hb3 := hbel.grown hgm hsz (by intro q hq; cases hq)
              first
                | exact (hb3.setCell (by exact Nat.le_trans hsz hge) _).setCell (by exact Nat.le_trans hsz hge) _
                | exact hb3.setCell (by exact Nat.le_trans hsz hge) _
        · have hk2 := stays_known all1 HP.out hy
          rw [← hA, ← hO] at hk2
          obtain ⟨k1, k2⟩ := hk2
          have hyb : (y != 1) = true := by simp [hy1]
          clear hy l1 l2 hA hO hL HP all1
          go_wp2_with (first
            | (go_at_call 5; refine h1.mono ?_; rintro e w' ⟨rfl, rfl⟩)
            | (go_at_call 6; refine h2.mono ?_; rintro e w' ⟨rfl, rfl⟩)
            | (go_at_call 4; refine (hp0 _).mono ?_; rintro e w' ⟨rfl, rfl⟩)
            | (at_builtin; refine wpList_append_own _ rfl _ _ 22 rfl wr.heap.size 3 i0 (.int .i64 0) 1 8 Try.underlying22 hi hz0 hz1 hz2 rfl (by decide) _ _ _ rfl (World.ownsRow_nil _ _ _ _) ⟨g, 0, none⟩ k cap (ts.map (Value.int .i64)) rfl HL1.out.symm hnews (ints_oneCells ts) (by unfold maxLen; omega) (by omega) (Nat.le_refl _) ?_; intro m1 wm hm hgm _; obtain ⟨gm, capm, rfl, hge, hcm, hfm, he0, he2⟩ := HM.out m1 wm hm; clear hm he0 he2))
          go_ret
          exact ⟨rfl, hbel.grown hgm hsz (by intro q hq; cases hq)⟩

/-! ### THE ROW's STEP: WRITTEN OUT: LEAVE IT -/
set_option maxRecDepth 100000 in
theorem lifted (os : Os) (started : os.Started) (H : Type) (enc : TypeId × Value → H) :
    ReturnsInHanded {} Try.checked os 3 .any (Rows.truthStaysSpec.pre6 enc Try.prog Try.f3 Rows.truthStaysRow.domain false) (Rows.truthStaysSpec.post enc Try.prog Try.f3 false true false false) := by
  refine returnsInHanded_of_change_sized (C := Try.checked) own started (by kernel_rfl) Try.func3
    (ChangeSpec.witness6 (enc := enc) (C := Try.checked) false ⟨#[], #[.slice none 0 0, .int .i64 0, .bool false], []⟩ 8 (by kernel_rfl) (by kernel_rfl) (by kernel_rfl) (by kernel_rfl)) ?_
  intro W base args ds gs before hval0 hW hcnd hsz0 _
  have hval : ∀ (j : Nat) t v, Try.f3.params[j]? = some t → args[j]? = some v → Value.okWide Try.prog W .any base t v := hval0
  have hW' := hW
  obtain ⟨p, q, hA0, hV, rfl, hfz, hnd⟩ := hW
  have hA : DataW.TrodAll enc Try.prog W 0 (fun _ => true) true Try.f3.params.toList args.toList ds p := hA0
  have hsz : (DataW.weightsEach Try.prog (Try.f3.params.toList ++ Rows.truthStaysSpec.plain.varTypes Try.prog) (ds ++ gs)).all (· ≤ reachBytes) = true := hsz0
  clear hsz0
  rw [Try.params3] at hA hval hsz
  obtain ⟨v0, vs0, d0, ds0, p0, q0, hargs, rfl, rfl, h0, r0⟩ := trodAll_cons hA
  obtain ⟨v1, vs1, d1, ds1, p1, q1, rfl, rfl, rfl, h1, r1⟩ := trodAll_cons r0
  obtain ⟨v2, vs2, d2, ds2, p2, q2, rfl, rfl, rfl, h2, r2⟩ := trodAll_cons r1
  obtain ⟨rfl, rfl, rfl⟩ := trodAll_nil r2
  obtain rfl : args = #[v0, v1, v2] := by cases args; simp_all
  obtain ⟨rfl, rfl⟩ := trodVars_none hV
  obtain ⟨a0, len0, cap0, rfl⟩ := okWide_slice Try.underlying22 (hval 0 22 v0 rfl rfl)
  have k0 := h0
  have lt0 : ∀ x ∈ p0, x.block < W.heap.size := by obtain ⟨m, hm⟩ := k0; exact DataW.trod_lt m _ _ _ hm
  obtain ⟨z0, w0, rr0⟩ : ∃ zs, IsRow .i64 W a0 len0 cap0 zs ∧ cap0 * 8 ≤ 140737488351232 := by
    obtain ⟨fuel, hf⟩ := h0
    rcases open_ints Try.underlying22 Try.underlying3 (by kernel_rfl) hf with ⟨hcs, _⟩ | ⟨x, l, c, zs, hcs, _, hl, hm, hz, hx, hcell, hwz⟩
    · simp [Value.cells] at hcs
      obtain ⟨rfl, rfl, rfl⟩ := hcs
      exact ⟨[], .inl ⟨rfl, rfl, rfl, rfl⟩, by omega⟩
    · simp [Value.cells] at hcs
      obtain ⟨rfl, rfl, rfl⟩ := hcs
      have hd := congrArg Prod.fst hx
      simp only at hd
      subst hd
      have hs := sized_slice hsz (j := 0) rfl rfl Try.underlying22
      rw [bytesOfElem] at hs
      have hz2 : zs.length = cap0 := by simpa using hz
      simp only [lits, List.length_map, List.length_take, List.length_drop, reachBytes] at hs
      exact ⟨zs, .inr ⟨_, rfl, hl, hm, by simpa using hz, hcell, hwz⟩, by omega⟩
  obtain ⟨a1, rfl, rfl, rfl, w1⟩ := open_int Try.underlying3 (hval 1 3 v1 rfl rfl) h1
  obtain ⟨a2, rfl, rfl, rfl⟩ := open_bool Try.underlying4 (hval 2 4 v2 rfl rfl) h2
  clear hA0 hval0
  refine (walk a0 len0 cap0 z0 a1 a2 W w0 rr0 w1).mono fun e W' ⟨he, bel⟩ => ?_
  subst he
  exact ⟨_, rfl, _, _, _, [], _, [], hW', trodAll_mk1 (shut_bool Try.underlying4 _), (trodAll_cons_mk (Below.trod laidOut (by kernel_rfl) (of_decide_eq_true (by kernel_rfl)) k0 bel lt0) (trodAll_cons_mk (shut_int Try.underlying3 w1) (trodAll_cons_mk (shut_bool Try.underlying4 _) trodAll_mk0))), rfl, bel.frame _, fun h => by cases h⟩

theorem over : Rows.truthStaysRow.holds Try.pinned (OpenSpec.ofChange Rows.truthStaysSpec) :=
  OpenClaim.holds_of_wide 3 Try.f3 rfl rfl rfl rfl rfl rfl rfl ⟨rfl, rfl, rfl, rfl, rfl⟩ rfl rfl rfl rfl rfl (by kernel_rfl) Try.func3 (by kernel_rfl)
    (of_decide_eq_true (by kernel_rfl)) (by unfold Func.isWrapper; first | (rw [if_pos (by decide +kernel)]; kernel_rfl) | (rw [if_neg (by decide +kernel)]; exact ⟨rfl, rfl⟩))
    (fun os started H enc _ => lifted os started H enc)

/-- ████ THE STATEMENT ████ -/
theorem proved : Rows.TruthStaysSaid := over
end Go.Proofs.Ytnplkdngboogdac.truthStays
namespace Go.Proofs.Ytnplkdngboogdac
theorem truthStays_holds : Rows.TruthStaysSaid := truthStays.proved
end Go.Proofs.Ytnplkdngboogdac
