/- TruthMorgan returns true at every slice of whole numbers, without condition. -/
import Derived.Test.YtnplkdngboogdabRows
import Derived.Test.YtnplkdngboogdabValueNot
import Derived.Test.YtnplkdngboogdabFoldMin
import Derived.Test.YtnplkdngboogdabFoldMax
import Derived.Test.YtnplkdngboogdabRowOf
import Derived.Test.YtnplkdngboogdabPicked
import Derived.Test.YtnplkdngboogdabMorgan
import Derived.WalkKit
import Derived.ProofKit
import Derived.OpenShut
import Derived.ShutString
import Derived.ChangeOld
import Derived.Below
import Derived.SizedLaws
namespace Go.Proofs.Ytnplkdngboogdab.truthMorgan
open Go.ChangeShapes Go.WideShapes Go.ChangeAt Go.RowKit
open Go.ChangeMaps (open_string shut_string)
set_option linter.unusedVariables false

theorem own : ownKnob Try.prog.godebug = none := by kernel_rfl
theorem bytesOfElem : Try.prog.bytesOf 3 = 8 := by kernel_rfl
theorem laidOut : laidOutB Try.prog = true := by kernel_rfl

/-- WHAT THE WALK IS TOLD OF A SLICE OF INTEGERS THAT CAME IN: it is nil; or it leads to a row of 'cap' cells, the numbers 'zs' (the first 'len' are its elements, the rest its spare room), each fitting its kind. -/
def IsRow (k : IntKind) (w : World) (a : Option Addr) (len cap : Nat) (zs : List Int) : Prop :=
  (a = none ∧ len = 0 ∧ cap = 0 ∧ zs = []) ∨
  ∃ x, a = some x ∧ len ≤ cap ∧ cap ≤ maxLen ∧ zs.length = cap ∧ (∀ i, i < zs.length → w.cell? (x.add i) = some (.int k (zs.getD i 0))) ∧ ∀ n ∈ zs, (Lit.int k n).wf = true

/-! ### STEP 1: THE WALK: the Go text returns true, AND WRITES NOTHING THAT WAS THERE: 'Below w.heap.size w w'' (Derived/Below.lean: '.refl', '.alloc', '.drew', '.setCell' at a new block, '.trans'). Open each 'IsRow' by 'rcases' AHEAD of 'go_enter'; part every test ahead of the walk. -/
set_option maxHeartbeats 4000000 in
theorem walk (a0 : Option Addr) (len0 cap0 : Nat) (z0 : List Int) (w : World) (w0 : IsRow .i64 w a0 len0 cap0 z0) (rr0 : cap0 * 8 ≤ 140737488351232) :
    Calls Try.prog 4 #[.slice a0 len0 cap0] w fun e w' => e = .returned (.bool true) ∧ Below w.heap.size w w' := by
  obtain ⟨xs, rfl, he, hr, -, -, -⟩ := row_elems rr0 w0
  obtain ⟨i0, hi, hz0, hz1, hz2⟩ := info_parts Try.info3
  have HE : Hid (Elems w a0 xs) := he
  clear he w0 rr0
  obtain ⟨n, hn⟩ : ∃ n, n = xs.length := ⟨_, rfl⟩
  rw [← hn] at hr
  rw [← hn]
  have HN : Hid (n = xs.length) := hn
  clear hn
  obtain ⟨B, hB⟩ : ∃ B, B = w.heap.size := ⟨_, rfl⟩
  rw [← hB]
  have HB : Hid (B = w.heap.size) := hB
  have b0 : Below B w w := Below.refl _ _
  have b1 : B ≤ w.heap.size := by omega
  clear hB
  go_enter Try.func4, Try.ntmps4
  go_wp2
  go_loopw [3, 4, 5] (fun u v i wr => ∃ (k : Nat) (tl nl : List Value), k ≤ n ∧ i = .int .i64 k ∧ B ≤ wr.heap.size ∧ Hid (wr.ownsRow B 3 1 u k tl) ∧ Hid (wr.ownsRow B 3 1 v k nl) ∧ Hid (Apart u v) ∧ Below B w wr ∧
      Hid (tl = (tsOf (xs.take k)).map (Value.int .i64) ∧ nl = (nsOf (xs.take k)).map (Value.int .i64)))
    (fun _ _ i _ => n - (intOf i).toNat)
  case atStart => exact ⟨0, [], [], Nat.zero_le _, rfl, b1, World.ownsRow_nil _ _ _ _, World.ownsRow_nil _ _ _ _, .inl rfl, b0, ⟨rfl, rfl⟩⟩
  case round =>
    obtain ⟨k, tl, nl, hk, rfl, hsz, HU, HV, HA, hbel, HL⟩ := hrel
    by_cases hlt : k < n
    · have hkl : k < xs.length := by rw [← HN.out]; exact hlt
      obtain ⟨b, off, rfl, hcell0⟩ := HE.out.at (k := k) hkl
      have hblk : b < B := by rw [HB.out]; exact World.block_lt_of_cell? _ _ hcell0
      obtain ⟨x, hx⟩ : ∃ x, x = xs.getD k 0 := ⟨_, rfl⟩
      rw [← hx] at hcell0
      have hcell := (hbel.cell (p := ⟨b, off + k, none⟩) hblk).trans hcell0
      have hp := Picked_any x 3 (by omega) (by omega)
      obtain ⟨t, ht⟩ : ∃ t, t = x % 3 := ⟨_, rfl⟩
      have ht2 : 0 ≤ t ∧ t ≤ 2 := by omega
      obtain ⟨s, hs⟩ : ∃ s, s = 2 - t := ⟨_, rfl⟩
      have hn1 := Not_any t
      have hn2 := Not_any s
      rw [show notVal t = s by simp only [notVal, if_pos ht2, hs], show notErr t = 0 by simp only [notErr, if_pos ht2]] at hn1
      rw [show notVal s = t by simp only [notVal, if_pos (show 0 ≤ s ∧ s ≤ 2 by omega)]; omega, show notErr s = 0 by simp only [notErr, if_pos (show 0 ≤ s ∧ s ≤ 2 by omega)]] at hn2
      rw [← ht] at hp
      have R : Hid (tl ++ [Value.int .i64 t] = (tsOf (xs.take (k + 1))).map (Value.int .i64) ∧ nl ++ [Value.int .i64 s] = (nsOf (xs.take (k + 1))).map (Value.int .i64)) := by
        rw [tsOf_step xs k hkl, nsOf_step xs k hkl, HL.out.1, HL.out.2, ← hx, ← ht, ← hs]
        simp [Hid]
      clear hx hs ht ht2 hcell0 HL hkl
      go_wp2_with (first
        | (go_at_call 7; refine (hp _).mono ?_; rintro e w' ⟨rfl, rfl⟩)
        | (go_at_call 8; first | (refine (hn1 _).mono ?_; rintro e w' ⟨rfl, rfl⟩) | (refine (hn2 _).mono ?_; rintro e w' ⟨rfl, rfl⟩))
        | (at_builtin; refine wpList_append_own_at _ rfl (.tmp 51) (.tmp 53) 28 rfl B 3 i0 (.int .i64 0) 1 8 Try.underlying28 hi hz0 hz1 hz2 rfl (by decide) _ _ _ rfl (HU.out.alloc _) ⟨wr.heap.size, 0, none⟩ 1 1 [.int .i64 t] rfl rfl (cell_one_new _ _ _) (one_oneCell t) (by unfold maxLen; omega) (by omega) (by rw [size_alloc]; omega) ?_; intro u1 w1 hu1 hg1 _ ho1)
        | (at_builtin; refine wpList_append_own_at _ rfl (.tmp 55) (.tmp 57) 28 rfl B 3 i0 (.int .i64 0) 1 8 Try.underlying28 hi hz0 hz1 hz2 rfl (by decide) _ _ _ rfl (((HV.out.alloc _).kept hg1 HA.out.symm).alloc _) ⟨w1.heap.size, 0, none⟩ 1 1 [.int .i64 s] rfl rfl (cell_one_new _ _ _) (one_oneCell s) (by unfold maxLen; omega) (by omega) (by have := hg1.size; rw [size_alloc] at this; rw [size_alloc]; omega) ?_; intro v1 w2 hv1 hg2 _ ho2))
      have R2 := two_step hbel hsz HU.out HV.out HA.out hu1 hg1 ho1 hv1 hg2 ho2
      have R3 : B ≤ w2.heap.size := by have h1 := hg1.size; have h2 := hg2.size; rw [size_alloc] at h1 h2; omega
      go_roundw
      case rel => exact ⟨k + 1, _, _, by omega, by go_num, R3, R2.1, R2.2.1, R2.2.2.1, R2.2.2.2, R⟩
      case measure => simp [intOf]; omega
    · have hkn : k = n := by omega
      subst hkn
      have htk : xs.take k = xs := by rw [HN.out]; exact List.take_length
      obtain ⟨ts, hts⟩ : ∃ ts, ts = tsOf xs := ⟨_, rfl⟩
      obtain ⟨ns, hns⟩ : ∃ ns, ns = nsOf xs := ⟨_, rfl⟩
      have hL := HL.out
      rw [htk, ← hts, ← hns] at hL
      have l1 : k = ts.length := by rw [hts, tsOf_length]; exact HN.out
      have l2 : k = ns.length := by rw [hns, nsOf_length]; exact HN.out
      obtain ⟨ao1, cap1, rfl, he1⟩ := own_elems (xs := ts) l1 hL.1 (by omega) HU.out
      obtain ⟨ao2, cap2, rfl, he2⟩ := own_elems (xs := ns) l2 hL.2 (by omega) HV.out
      have h1 := And_any ao1 cap1 ts wr he1
      have h2 := Or_any ao2 cap2 ns wr he2
      have h3 := And_any none 0 [] wr ⟨by simp, .inl rfl⟩
      have a1 : ts.all truthy = true := by rw [hts]; exact tsOf_all xs
      have a2 : ns.all truthy = true := by rw [hns]; exact nsOf_all xs
      obtain ⟨A, hA⟩ : ∃ A, A = pickVal min 2 ts := ⟨_, rfl⟩
      obtain ⟨O, hO⟩ : ∃ O, O = pickVal max 0 ns := ⟨_, rfl⟩
      have hAO : O = 2 - A := by
        rw [hA, hO]
        simp only [pickVal, a1, a2, if_true]
        rw [hts, hns]
        exact morgan xs 2
      have hA2 : 0 ≤ A ∧ A ≤ 2 := by rw [hA]; exact pick_min_in a1
      have hn1 := Not_any A
      rw [show notVal A = O by simp only [notVal, if_pos hA2, hAO], show notErr A = 0 by simp only [notErr, if_pos hA2]] at hn1
      rw [← hA, show pickErr ts = 0 by simp only [pickErr, a1, if_true]] at h1
      rw [← hO, show pickErr ns = 0 by simp only [pickErr, a2, if_true]] at h2
      rw [show pickVal min 2 [] = 2 from rfl, show pickErr [] = 0 from rfl] at h3
      clear HU HV HA HL hL htk hts hns l1 l2 he1 he2 a1 a2 hA hO hAO hA2
      go_wp2_with (first
        | (go_at_call 9; first | (refine h1.mono ?_; rintro e w' ⟨rfl, rfl⟩) | (refine h3.mono ?_; rintro e w' ⟨rfl, rfl⟩))
        | (go_at_call 8; refine (hn1 _).mono ?_; rintro e w' ⟨rfl, rfl⟩)
        | (go_at_call 10; refine h2.mono ?_; rintro e w' ⟨rfl, rfl⟩))
      go_ret
      exact ⟨rfl, hbel⟩

/-! ### THE ROW's STEP: WRITTEN OUT: LEAVE IT -/
set_option maxRecDepth 100000 in
theorem lifted (os : Os) (started : os.Started) (H : Type) (enc : TypeId × Value → H) :
    ReturnsInHanded {} Try.checked os 4 .any (Rows.truthMorganSpec.pre6 enc Try.prog Try.f4 Rows.truthMorganRow.domain false) (Rows.truthMorganSpec.post enc Try.prog Try.f4 false true false false) := by
  refine returnsInHanded_of_change_sized (C := Try.checked) own started (by kernel_rfl) Try.func4
    (ChangeSpec.witness6 (enc := enc) (C := Try.checked) false ⟨#[], #[.slice none 0 0], []⟩ 8 (by kernel_rfl) (by kernel_rfl) (by kernel_rfl) (by kernel_rfl)) ?_
  intro W base args ds gs before hval0 hW hcnd hsz0 _
  have hval : ∀ (j : Nat) t v, Try.f4.params[j]? = some t → args[j]? = some v → Value.okWide Try.prog W .any base t v := hval0
  have hW' := hW
  obtain ⟨p, q, hA0, hV, rfl, hfz, hnd⟩ := hW
  have hA : DataW.TrodAll enc Try.prog W 0 (fun _ => true) true Try.f4.params.toList args.toList ds p := hA0
  have hsz : (DataW.weightsEach Try.prog (Try.f4.params.toList ++ Rows.truthMorganSpec.plain.varTypes Try.prog) (ds ++ gs)).all (· ≤ reachBytes) = true := hsz0
  clear hsz0
  rw [Try.params4] at hA hval hsz
  obtain ⟨v0, vs0, d0, ds0, p0, q0, hargs, rfl, rfl, h0, r0⟩ := trodAll_cons hA
  obtain ⟨rfl, rfl, rfl⟩ := trodAll_nil r0
  obtain rfl : args = #[v0] := by cases args; simp_all
  obtain ⟨rfl, rfl⟩ := trodVars_none hV
  obtain ⟨a0, len0, cap0, rfl⟩ := okWide_slice Try.underlying28 (hval 0 28 v0 rfl rfl)
  have k0 := h0
  have lt0 : ∀ x ∈ p0, x.block < W.heap.size := by obtain ⟨m, hm⟩ := k0; exact DataW.trod_lt m _ _ _ hm
  obtain ⟨z0, w0, rr0⟩ : ∃ zs, IsRow .i64 W a0 len0 cap0 zs ∧ cap0 * 8 ≤ 140737488351232 := by
    obtain ⟨fuel, hf⟩ := h0
    rcases open_ints Try.underlying28 Try.underlying3 (by kernel_rfl) hf with ⟨hcs, _⟩ | ⟨x, l, c, zs, hcs, _, hl, hm, hz, hx, hcell, hwz⟩
    · simp [Value.cells] at hcs
      obtain ⟨rfl, rfl, rfl⟩ := hcs
      exact ⟨[], .inl ⟨rfl, rfl, rfl, rfl⟩, by omega⟩
    · simp [Value.cells] at hcs
      obtain ⟨rfl, rfl, rfl⟩ := hcs
      have hd := congrArg Prod.fst hx
      simp only at hd
      subst hd
      have hs := sized_slice hsz (j := 0) rfl rfl Try.underlying28
      rw [bytesOfElem] at hs
      have hz2 : zs.length = cap0 := by simpa using hz
      simp only [lits, List.length_map, List.length_take, List.length_drop, reachBytes] at hs
      exact ⟨zs, .inr ⟨_, rfl, hl, hm, by simpa using hz, hcell, hwz⟩, by omega⟩
  clear hA0 hval0
  refine (walk a0 len0 cap0 z0 W w0 rr0).mono fun e W' ⟨he, bel⟩ => ?_
  subst he
  exact ⟨_, rfl, _, _, _, [], _, [], hW', trodAll_mk1 (shut_bool Try.underlying4 _), (trodAll_cons_mk (Below.trod laidOut (by kernel_rfl) (of_decide_eq_true (by kernel_rfl)) k0 bel lt0) trodAll_mk0), rfl, bel.frame _, fun h => by cases h⟩

theorem over : Rows.truthMorganRow.holds Try.pinned (OpenSpec.ofChange Rows.truthMorganSpec) :=
  OpenClaim.holds_of_wide 4 Try.f4 rfl rfl rfl rfl rfl rfl rfl ⟨rfl, rfl, rfl, rfl, rfl⟩ rfl rfl rfl rfl rfl (by kernel_rfl) Try.func4 (by kernel_rfl)
    (of_decide_eq_true (by kernel_rfl)) (by unfold Func.isWrapper; first | (rw [if_pos (by decide +kernel)]; kernel_rfl) | (rw [if_neg (by decide +kernel)]; exact ⟨rfl, rfl⟩))
    (fun os started H enc _ => lifted os started H enc)

/-- ████ THE STATEMENT ████ -/
theorem proved : Rows.TruthMorganSaid := over
end Go.Proofs.Ytnplkdngboogdab.truthMorgan
namespace Go.Proofs.Ytnplkdngboogdab
theorem truthMorgan_holds : Rows.TruthMorganSaid := truthMorgan.proved
end Go.Proofs.Ytnplkdngboogdab
