/- No version ever changes. -/
import Derived.Test.YtdjiplheomoljaaKpMore
import Derived.Test.YtdjiplheomoljaaKpDeeds
import Derived.Test.YtdjiplheomoljaaRtSameK
namespace Go.Proofs.Ytdjiplheomoljaa
open Go.ChangeShapes Go.WideShapes Go.ChangeAt Go.RowKit

/-- the deeds and what was put behind them so far -/
def StayI (V : World) (ds : List Dd) (j : Nat) (s : Value) (W : World) : Prop :=
  ∃ es : List Dd, es.length = j ∧ Rows kDd (fun _ => True) W V.heap.size 50 s (ds ++ es) ∧ Below V.heap.size V W

theorem stays_last (ds es : List Dd) {v : Nat} (h : v < (playK [[]] ds).2.length) : v < (playK [[]] (ds ++ es)).2.length ∧ (playK [[]] (ds ++ es)).2.getD v [] = (playK [[]] ds).2.getD v [] := by
  refine ⟨?_, playK_stays ds es [[]] h⟩
  rw [playK_append]
  obtain ⟨m, hm⟩ := playK_grow es (playK [[]] ds).2
  simp only [hm, List.length_append]
  omega

set_option maxRecDepth 100000 in
set_option maxHeartbeats 16000000 in
theorem TreeStays_any (ms ns : List Mv) (la ma : Option Addr) (lc ln mc mn : Nat) (hln : ln = ms.length) (hmn : mn = ns.length) (wh : Int) (w : World) (hL : Lies kMv (fun _ => True) w la lc ms) (hM : Lies kMv (fun _ => True) w ma mc ns) :
    Calls Try.prog 5 #[.slice la ln lc, .slice ma mn mc, .int .i64 wh] w fun e w' => e = .returned (.bool true) ∧ Below w.heap.size w w' := by
  have cD := put_by (Deeds_at ms 30 (by omega) false la lc ln hln w hL)
  have HM := put_by (And.intro hM hmn)
  clear hln hL hM hmn
  go_enter Try.func5, Try.ntmps5
  go_wp2_with (first
    | (go_at_call 12; refine cD.out.mono ?_; clear cD; rintro e w1 ⟨k, a, c, rfl, ds, H1⟩; have cM := put_by (made_at H1.out (by omega)))
    | (go_at_call 14; refine cM.out.mono ?_; clear cM; rintro e w2 ⟨n, rfl, hvk, H2⟩; refine hidGoal ?_))
  have hk30 : k ≤ 30 := H1.out.2.1
  have hn1 : IntKind.i64.wrap ((n : Int) + 1) = (n : Int) + 1 := by
    rw [IntKind.wrap_i64]
    omega
  obtain ⟨v, hv⟩ : ∃ v : Nat, (v : Int) = wh % ((n : Int) + 1) := ⟨(wh % ((n : Int) + 1)).toNat, by have := Int.emod_nonneg wh (show ((n : Int) + 1) ≠ 0 by omega); omega⟩
  have hvn : v < n + 1 := by have := Int.emod_lt_of_pos wh (show 0 < (n : Int) + 1 by omega); omega
  have cP : Hid (∀ W, Calls Try.prog 13 #[.int .i64 wh, .int .i64 ((n : Int) + 1)] W fun e w' => e = .returned (.int .i64 (v : Int)) ∧ W = w') := fun W => by
    rw [hv]
    exact Picked_any wh _ (by omega) (by omega) W
  have cL : Hid (Calls Try.prog 15 #[.slice a k c, .int .i64 (v : Int)] w2 fun e w3 => ∃ (a3 : Option Addr) (n3 c3 : Nat), e = .returned (.tuple #[.slice a3 n3 c3, .bool true]) ∧ Hid (DeedsAt w 30 k a c ds w3 ∧ n3 = ((playK [[]] ds).2.getD v []).length ∧ Lies kEnt (fun _ => True) w3 a3 c3 ((playK [[]] ds).2.getD v []) ∧ v < (playK [[]] ds).2.length)) := by
    obtain ⟨q1, ⟨e1, e2, e3, e4, e5⟩, -⟩ := H2.out
    have := last_any (fun _ => True) ds (by omega) v (by omega) a c w2 e4
    rw [e1] at this
    refine this.mono ?_
    rintro e w3 ⟨a3, n3, c3, rfl, r1, r2, r3⟩
    exact ⟨a3, n3, c3, rfl, ⟨e1, e2, e3, e4.later r3, e5.trans (r3.mono e5.size)⟩, r1, r2, by omega⟩
  clear H1 H2 hv
  unfold Hid
  go_upto_region 8 with (first
    | (go_at_call 13; (with_reducible refine (cP.out _).mono ?_); clear cP; rintro e w4 ⟨rfl, rfl⟩)
    | (go_at_call 15; (with_reducible refine cL.out.mono ?_); clear cL; rintro e V ⟨a3, n3, c3, rfl, H3⟩))
  have HK : Hid (k = ds.length) := H3.out.1.1.symm
  have HLd : Hid (Lies kDd (fun b => b < V.heap.size) V a c ds) := H3.out.1.2.2.2.1.move (Kept.of_below (Below.refl _ _)) (fun b hb _ => hb)
  go_wp2_with (first
    | (at_builtin; (with_reducible refine wpList_append_rows (K := kDd) (ok := fun _ => True) eltD rfl (.tmp 37) (.tmp 38) rfl V.heap.size (.slice none 0 0) [] rfl (Rows.nil _ _ _ _ _) a c k ds rfl HK.out HLd.out (fun _ _ _ _ => trivial) (fun _ _ _ => by simp [Value.ownBlock]) (by simp; omega) (by decide) (Nat.le_refl _) ?_); intro v5 w5 hR5 hg5 hat5; refine hidGoal ?_))
  rw [List.nil_append] at hR5
  have hB5 : Below V.heap.size V w5 := below_grown (Below.refl _ V) (Nat.le_refl _) hg5 (fun r e => by cases e)
  obtain ⟨a5, c5, e5⟩ := rows_form hR5
  rw [← HK.out] at e5
  subst e5
  have H0 : Hid (StayI V ds 0 (.slice a5 (k + 0) c5) w5) := ⟨[], rfl, by rw [List.append_nil]; exact hR5, hB5⟩
  clear hR5 hg5 hat5 hB5 HLd
  unfold Hid
  go_wp2
  go_loopw [13, 14] (fun s i wr => ∃ (j : Nat) (a6 : Option Addr) (c6 : Nat), j ≤ mn ∧ j ≤ 30 ∧ i = .int .i64 j ∧ s = .slice a6 (k + j) c6 ∧ Hid (StayI V ds j (.slice a6 (k + j) c6) wr)) (fun _ i _ => 30 - (intOf i).toNat)
  case atStart => exact ⟨0, a5, c5, Nat.zero_le _, Nat.zero_le _, rfl, rfl, H0.out⟩
  case round =>
    obtain ⟨j, a6, c6, hj1, hj2, rfl, rfl, HI⟩ := hrel
    by_cases hlt : j < mn ∧ j < 30
    · obtain ⟨hl1, hl2⟩ := hlt
      have hx : j < ns.length := by rw [← HM.out.2]; exact hl1
      obtain ⟨b4, off, rfl, hb4, _, cs, rfl, hc⟩ := HM.out.1.at hx
      have hBw : Below w.heap.size w wr := by
        obtain ⟨_, _, _, h⟩ := HI.out
        exact H3.out.1.2.2.2.2.trans (h.mono H3.out.1.2.2.2.2.size)
      have hcell : ∀ i x, [Value.bool (ns[j]).drop, .int .i64 (ns[j]).back, .int .i64 (ns[j]).key, .int .i64 (ns[j]).val][i]? = some x → wr.cell? ⟨b4, off + j * 4 + i, none⟩ = some x := fun i x hj => (hBw.cell (p := ⟨b4, off + j * 4 + i, none⟩) hb4).trans (hc i x hj)
      have HSW : Hid (∀ W, Below V.heap.size V W → W.cell? ⟨b4, off + j * 4 + 1, none⟩ = some (.int .i64 (ns[j]).back) ∧ W.cell? ⟨b4, off + j * 4 + 2, none⟩ = some (.int .i64 (ns[j]).key) ∧ W.cell? ⟨b4, off + j * 4 + 3, none⟩ = some (.int .i64 (ns[j]).val)) := fun W hW => by
        have hb := H3.out.1.2.2.2.2.trans (hW.mono H3.out.1.2.2.2.2.size)
        exact ⟨(hb.cell (p := ⟨b4, off + j * 4 + 1, none⟩) hb4).trans (hc 1 _ rfl), (hb.cell (p := ⟨b4, off + j * 4 + 2, none⟩) hb4).trans (hc 2 _ rfl), (hb.cell (p := ⟨b4, off + j * 4 + 3, none⟩) hb4).trans (hc 3 _ rfl)⟩
      have d0 := hcell 0 _ rfl
      have d1 := hcell 1 _ rfl
      have d2 := hcell 2 _ rfl
      have d3 := hcell 3 _ rfl
      simp only [Nat.add_zero] at d0
      generalize (ns[j]).drop = dr at *
      generalize (ns[j]).back = bk at *
      generalize (ns[j]).key = ky at *
      generalize (ns[j]).val = vl at *
      have hb4r : b4 < wr.heap.size := World.block_lt_of_cell? _ _ d0
      have ik1 : (j : Int) < (mn : Int) := by omega
      have ik2 : (j : Int) < 30 := by omega
      have hb2 : 0 ≤ IntKind.u8.wrap vl ∧ IntKind.u8.wrap vl ≤ 255 := by
        rw [IntKind.wrap_u8]
        omega
      obtain ⟨bv, hbv⟩ : ∃ bv, IntKind.u8.wrap vl = bv := ⟨_, rfl⟩
      rw [hbv] at hb2
      have HBV := put_by hb2
      clear hb2 hc hcell hBw
      have cK : Hid (∀ W : World, Calls Try.prog 19 #[.int .i64 ky] W fun e w' => e = .returned (.slice (some ⟨W.heap.size, 0, none⟩) 2 2) ∧ Hid (Octs w' (some ⟨W.heap.size, 0, none⟩) 2 (keyK ky) ∧ W.heap.size < w'.heap.size ∧ Below W.heap.size W w')) := fun W => keyOf_any ky W
      obtain ⟨rv, hrv⟩ : ∃ rv, bk % ((n : Int) + 1) = rv := ⟨_, rfl⟩
      have cP : Hid (∀ W, Calls Try.prog 13 #[.int .i64 bk, .int .i64 ((n : Int) + 1)] W fun e w' => e = .returned (.int .i64 rv) ∧ W = w') := fun W => by
        rw [← hrv]
        exact Picked_any bk _ (by omega) (by omega) W
      clear hrv
      have HSV : Hid (∀ W, Below wr.heap.size wr W → W.cell? ⟨b4, off + j * 4 + 1, none⟩ = some (.int .i64 bk) ∧ W.cell? ⟨b4, off + j * 4 + 2, none⟩ = some (.int .i64 ky) ∧ W.cell? ⟨b4, off + j * 4 + 3, none⟩ = some (.int .i64 vl)) := fun W hW => ⟨(hW.cell (p := ⟨b4, off + j * 4 + 1, none⟩) hb4r).trans d1, (hW.cell (p := ⟨b4, off + j * 4 + 2, none⟩) hb4r).trans d2, (hW.cell (p := ⟨b4, off + j * 4 + 3, none⟩) hb4r).trans d3⟩
      have hLO : Hid (∀ (P : Prop), (Ending.outgrown = .returned (.bool true) ∧ P) → False) := fun P hh => by cases hh.1
      obtain ⟨es, hej, hRw, hBV⟩ := HI.out
      have HES := put_by (And.intro hej (And.intro hRw hBV))
      clear hej hRw hBV HI
      have hkj : k + j ≤ 60 := by omega
      cases dr
      · go_upto_region 15 with (fail)
        clear d0 d1 d2 d3
        have M0 := put_by (Mk.start wr ky bv)
        have hS := HSV.out _ M0.out.below
        refine region_plain (fun V => V.cell? ⟨b4, off + j * 4 + 1, none⟩ = some (.int .i64 bk) ∧ V.cell? ⟨b4, off + j * 4 + 2, none⟩ = some (.int .i64 ky) ∧ V.cell? ⟨b4, off + j * 4 + 3, none⟩ = some (.int .i64 vl)) 26 (by kernel_rfl) ?_
        generalize wr.drew = Wd at M0 hS ⊢
        refine V_takeX [26] (k := 0) (v := .slice a6 (k + j) c6) rfl (by kernel_rfl) (by kernel_rfl) (by kernel_rfl) (by kernel_rfl) (by kernel_rfl) (by kernel_rfl) (fun _ _ _ h => h) (Or.inl ⟨by rfl, fun V hV => ?_⟩) hS ?_
        · obtain ⟨z0, z1, z2⟩ := hV; go_simp
        simp only [Act.put, List.setIfInBounds_toArray]
        refine V_takeX [26] (k := 1) (v := .int .i64 1) rfl (by kernel_rfl) (by kernel_rfl) (by kernel_rfl) (by kernel_rfl) (by kernel_rfl) (by kernel_rfl) (fun _ _ _ h => h) (Or.inl ⟨by rfl, fun V hV => ?_⟩) hS ?_
        · obtain ⟨z0, z1, z2⟩ := hV; go_simp
        simp only [Act.put]
        refine V_takeX [26] (k := 2) (v := .slice (some ⟨b4, off, none⟩) mn mc) rfl (by kernel_rfl) (by kernel_rfl) (by kernel_rfl) (by kernel_rfl) (by kernel_rfl) (by kernel_rfl) (fun _ _ _ h => h) (Or.inl ⟨by rfl, fun V hV => ?_⟩) hS ?_
        · obtain ⟨z0, z1, z2⟩ := hV; go_simp
        simp only [Act.put]
        refine V_takeX [26] (k := 3) (v := .int .i64 j) rfl (by kernel_rfl) (by kernel_rfl) (by kernel_rfl) (by kernel_rfl) (by kernel_rfl) (by kernel_rfl) (fun _ _ _ h => h) (Or.inl ⟨by rfl, fun V hV => ?_⟩) hS ?_
        · obtain ⟨z0, z1, z2⟩ := hV; go_simp
        simp only [Act.put]
        refine V_takeX [26] (k := 4) (v := .pointer (some ⟨b4, off + j * 4, none⟩)) rfl (by kernel_rfl) (by kernel_rfl) (by kernel_rfl) (by kernel_rfl) (by kernel_rfl) (by kernel_rfl) (fun _ _ _ h => h) (Or.inl ⟨by rfl, fun V hV => ?_⟩) hS ?_
        · obtain ⟨z0, z1, z2⟩ := hV; go_simp
        simp only [Act.put]
        refine V_takeX [26] (k := 5) (v := .pointer (some ⟨b4, off + j * 4 + 1, none⟩)) rfl (by kernel_rfl) (by kernel_rfl) (by kernel_rfl) (by kernel_rfl) (by kernel_rfl) (by kernel_rfl) (fun _ _ _ h => h) (Or.inl ⟨by rfl, fun V hV => ?_⟩) hS ?_
        · obtain ⟨z0, z1, z2⟩ := hV; go_simp
        simp only [Act.put]
        refine V_takeX [26] (k := 6) (v := .int .i64 bk) rfl (by kernel_rfl) (by kernel_rfl) (by kernel_rfl) (by kernel_rfl) (by kernel_rfl) (by kernel_rfl) (fun _ _ _ h => h) (Or.inl ⟨by rfl, fun V hV => ?_⟩) hS ?_
        · obtain ⟨z0, z1, z2⟩ := hV; go_simp
        simp only [Act.put]
        refine V_takeX [26] (k := 7) (v := .int .i64 n) rfl (by kernel_rfl) (by kernel_rfl) (by kernel_rfl) (by kernel_rfl) (by kernel_rfl) (by kernel_rfl) (fun _ _ _ h => h) (Or.inl ⟨by rfl, fun V hV => ?_⟩) hS ?_
        · obtain ⟨z0, z1, z2⟩ := hV; go_simp
        simp only [Act.put]
        refine V_takeX [26] (k := 8) (v := .int .i64 ((n : Int) + 1)) rfl (by kernel_rfl) (by kernel_rfl) (by kernel_rfl) (by kernel_rfl) (by kernel_rfl) (by kernel_rfl) (fun _ _ _ h => h) (Or.inl ⟨by rfl, fun V hV => ?_⟩) hS ?_
        · obtain ⟨z0, z1, z2⟩ := hV; go_simp
        simp only [Act.put]
        refine V_takeX [26] (k := 10) (v := .slice (some ⟨b4, off, none⟩) mn mc) rfl (by kernel_rfl) (by kernel_rfl) (by kernel_rfl) (by kernel_rfl) (by kernel_rfl) (by kernel_rfl) (fun _ _ _ h => h) (Or.inl ⟨by rfl, fun V hV => ?_⟩) hS ?_
        · obtain ⟨z0, z1, z2⟩ := hV; go_simp
        simp only [Act.put]
        refine V_takeX [26] (k := 11) (v := .int .i64 j) rfl (by kernel_rfl) (by kernel_rfl) (by kernel_rfl) (by kernel_rfl) (by kernel_rfl) (by kernel_rfl) (fun _ _ _ h => h) (Or.inl ⟨by rfl, fun V hV => ?_⟩) hS ?_
        · obtain ⟨z0, z1, z2⟩ := hV; go_simp
        simp only [Act.put]
        refine V_takeX [26] (k := 12) (v := .pointer (some ⟨b4, off + j * 4, none⟩)) rfl (by kernel_rfl) (by kernel_rfl) (by kernel_rfl) (by kernel_rfl) (by kernel_rfl) (by kernel_rfl) (fun _ _ _ h => h) (Or.inl ⟨by rfl, fun V hV => ?_⟩) hS ?_
        · obtain ⟨z0, z1, z2⟩ := hV; go_simp
        simp only [Act.put]
        refine V_takeX [26] (k := 13) (v := .pointer (some ⟨b4, off + j * 4 + 2, none⟩)) rfl (by kernel_rfl) (by kernel_rfl) (by kernel_rfl) (by kernel_rfl) (by kernel_rfl) (by kernel_rfl) (fun _ _ _ h => h) (Or.inl ⟨by rfl, fun V hV => ?_⟩) hS ?_
        · obtain ⟨z0, z1, z2⟩ := hV; go_simp
        simp only [Act.put]
        refine V_takeX [26] (k := 14) (v := .int .i64 ky) rfl (by kernel_rfl) (by kernel_rfl) (by kernel_rfl) (by kernel_rfl) (by kernel_rfl) (by kernel_rfl) (fun _ _ _ h => h) (Or.inl ⟨by rfl, fun V hV => ?_⟩) hS ?_
        · obtain ⟨z0, z1, z2⟩ := hV; go_simp
        simp only [Act.put]
        refine V_takeX [26] (k := 16) (v := .slice (some ⟨b4, off, none⟩) mn mc) rfl (by kernel_rfl) (by kernel_rfl) (by kernel_rfl) (by kernel_rfl) (by kernel_rfl) (by kernel_rfl) (fun _ _ _ h => h) (Or.inl ⟨by rfl, fun V hV => ?_⟩) hS ?_
        · obtain ⟨z0, z1, z2⟩ := hV; go_simp
        simp only [Act.put]
        refine V_takeX [26] (k := 17) (v := .int .i64 j) rfl (by kernel_rfl) (by kernel_rfl) (by kernel_rfl) (by kernel_rfl) (by kernel_rfl) (by kernel_rfl) (fun _ _ _ h => h) (Or.inl ⟨by rfl, fun V hV => ?_⟩) hS ?_
        · obtain ⟨z0, z1, z2⟩ := hV; go_simp
        simp only [Act.put]
        refine V_takeX [26] (k := 18) (v := .pointer (some ⟨b4, off + j * 4, none⟩)) rfl (by kernel_rfl) (by kernel_rfl) (by kernel_rfl) (by kernel_rfl) (by kernel_rfl) (by kernel_rfl) (fun _ _ _ h => h) (Or.inl ⟨by rfl, fun V hV => ?_⟩) hS ?_
        · obtain ⟨z0, z1, z2⟩ := hV; go_simp
        simp only [Act.put]
        refine V_takeX [26] (k := 19) (v := .pointer (some ⟨b4, off + j * 4 + 3, none⟩)) rfl (by kernel_rfl) (by kernel_rfl) (by kernel_rfl) (by kernel_rfl) (by kernel_rfl) (by kernel_rfl) (fun _ _ _ h => h) (Or.inl ⟨by rfl, fun V hV => ?_⟩) hS ?_
        · obtain ⟨z0, z1, z2⟩ := hV; go_simp
        simp only [Act.put]
        refine V_takeX [26] (k := 20) (v := .int .i64 vl) rfl (by kernel_rfl) (by kernel_rfl) (by kernel_rfl) (by kernel_rfl) (by kernel_rfl) (by kernel_rfl) (fun _ _ _ h => h) (Or.inl ⟨by rfl, fun V hV => ?_⟩) hS ?_
        · obtain ⟨z0, z1, z2⟩ := hV; go_simp
        simp only [Act.put]
        refine V_takeX [26] (k := 21) (v := .int .u8 bv) rfl (by kernel_rfl) (by kernel_rfl) (by kernel_rfl) (by kernel_rfl) (by kernel_rfl) (by kernel_rfl) (fun _ _ _ h => h) (Or.inl ⟨by rfl, fun V hV => ?_⟩) hS ?_
        · obtain ⟨z0, z1, z2⟩ := hV; go_simp
        simp only [Act.put]
        refine U_two (i := 9) (j := 22) (by kernel_rfl) rfl rfl rfl rfl (fun K hK => ?_) (fun K hK => ?_)
        · go_simp
          refine (cP.out _).mono ?_
          rintro e wp ⟨rfl, rfl⟩
          refine hK _ _ (fun _ => HSV.out _ M0.out.below) ?_
          clear hK K
          refine U_two (i := 15) (j := 22) (by kernel_rfl) rfl rfl rfl rfl (fun K hK => ?_) (fun K hK => ?_)
          · go_simp
            refine (cK.out _).mono ?_
            rintro e wk1 ⟨rfl, Hk1⟩
            have Mk1 := put_by (M0.out.keyed Hk1.out.1 Hk1.out.2.1 Hk1.out.2.2)
            refine hK _ _ (fun _ => HSV.out _ Mk1.out.below) ?_
            clear hK K Hk1
            refine U_one (i := 22) (by kernel_rfl) rfl rfl rfl (fun K hK => ?_)
            go_simp
            have Mv1 := put_by (Mk1.out.valued HBV.out)
            refine hK _ _ (fun _ => HSV.out _ Mv1.out.below) ?_
            clear hK K
            generalize World.alloc _ _ = wv1 at Mv1 ⊢
            refine U_one (i := 23) (by kernel_rfl) rfl rfl rfl (fun K hK => ?_)
            go_simp
            refine hK _ _ (fun _ => HSV.out _ Mv1.out.below) ?_
            clear hK K
            refine U_one (i := 24) (by kernel_rfl) rfl rfl rfl (fun K hK => ?_)
            go_simp
            refine hK _ _ (fun _ => HSV.out _ (Mv1.out.below.alloc Mv1.out.below.size _)) ?_
            clear hK K
            refine U_one (i := 25) (by kernel_rfl) rfl rfl rfl (fun K hK => ?_)
            have HF : Hid (Rows kDd (fun _ => True) wv1 V.heap.size 50 (.slice a6 (k + j) c6) (ds ++ es) ∧ kDd.rel (fun b => True ∧ (Value.slice a6 (k + j) c6).ownBlock ≠ some b) wv1 ⟨1, rv, keyK ky, [bv], 0⟩ [.int .i64 1, .int .i64 rv, .slice (some ⟨Wd.heap.size, 0, none⟩) 2 2, .slice (some ⟨wk1.heap.size, 0, none⟩) 1 1, .int .i64 0] ∧ Below V.heap.size V wv1) := by
              have hk9 := Mv1.out.key _ rfl
              have hv9 := Mv1.out.val _ rfl
              have hown : ∀ g, (Value.slice a6 (k + j) c6).ownBlock = some g → g < wr.heap.size := fun g e => (rows_lt HES.out.2.1 g e).2
              exact ⟨HES.out.2.1.later Mv1.out.below, ⟨_, _, rfl, ⟨_, _, rfl, hk9.1, fun _ ad e => by cases e; exact ⟨trivial, fun e => Nat.not_lt.2 hk9.2.1 (hown _ e)⟩⟩, ⟨_, _, rfl, hv9.1, fun _ ad e => by cases e; exact ⟨trivial, fun e => Nat.not_lt.2 hv9.2.1 (hown _ e)⟩⟩⟩, HES.out.2.2.trans (Mv1.out.below.mono HES.out.2.2.size)⟩
            refine wp_of_list rfl (by rintro ⟨_, _, hh⟩; first | exact hh | exact hLO.out _ hh) (wpList_append_one (K := kDd) (ok := fun _ => True) eltD rfl (.tmp 55) (.tmp 79) rfl V.heap.size (.slice a6 (k + j) c6) (ds ++ es) rfl HF.out.1 ⟨1, rv, keyK ky, [bv], 0⟩ [.int .i64 1, .int .i64 rv, .slice (some ⟨Wd.heap.size, 0, none⟩) 2 2, .slice (some ⟨wk1.heap.size, 0, none⟩) 1 1, .int .i64 0] _ _ rfl rfl HF.out.2.1 (fun _ _ => trivial) (by rw [List.length_append, ← HK.out, HES.out.1]; omega) (by decide) HF.out.2.2.size (fun v8 w8 hR8 hg8 hat8 => ?_))
            have hB8 : Below V.heap.size V w8 := below_grown HF.out.2.2 HF.out.2.2.size hg8 (fun r e => (rows_lt HF.out.1 r e).1)
            obtain ⟨a9, c9, e9⟩ := rows_form hR8
            have hl9 : (ds ++ es ++ [(⟨1, rv, keyK ky, [bv], 0⟩ : Dd)]).length = k + (j + 1) := by rw [List.length_append, List.length_append, ← HK.out, HES.out.1]; rfl
            rw [hl9] at e9
            subst e9
            have HN : Hid (StayI V ds (j + 1) (.slice a9 (k + (j + 1)) c9) w8) := ⟨es ++ [⟨1, rv, keyK ky, [bv], 0⟩], by rw [List.length_append, HES.out.1]; rfl, by rw [← List.append_assoc]; exact hR8, hB8⟩
            have hS8 := HSW.out _ hB8
            refine hK _ _ (fun _ => hS8) ?_
            clear hK K hR8 hg8 hat8 hB8 hl9 HF hS8
            refine U_one (i := 26) (by kernel_rfl) rfl rfl rfl (fun K hK => ?_)
            go_simp
            refine hK _ _ (fun hh => by cases (show true = false from hh)) ?_
            clear hK K
            refine U_done (by kernel_rfl) ?_ _
            go_wp2
            go_roundw
            case rel => exact ⟨j + 1, a9, c9, by omega, by omega, by go_num, rfl, HN.out⟩
            case measure => simp [intOf]; omega
          · go_simp
            have Mv2 := put_by (M0.out.valued HBV.out)
            refine hK _ _ (fun _ => HSV.out _ Mv2.out.below) ?_
            clear hK K
            generalize World.alloc _ _ = wv2 at Mv2 ⊢
            refine U_one (i := 15) (by kernel_rfl) rfl rfl rfl (fun K hK => ?_)
            go_simp
            refine (cK.out _).mono ?_
            rintro e wk2 ⟨rfl, Hk2⟩
            have Mk2 := put_by (Mv2.out.keyed Hk2.out.1 Hk2.out.2.1 Hk2.out.2.2)
            refine hK _ _ (fun _ => HSV.out _ Mk2.out.below) ?_
            clear hK K Hk2
            refine U_one (i := 23) (by kernel_rfl) rfl rfl rfl (fun K hK => ?_)
            go_simp
            refine hK _ _ (fun _ => HSV.out _ Mk2.out.below) ?_
            clear hK K
            refine U_one (i := 24) (by kernel_rfl) rfl rfl rfl (fun K hK => ?_)
            go_simp
            refine hK _ _ (fun _ => HSV.out _ (Mk2.out.below.alloc Mk2.out.below.size _)) ?_
            clear hK K
            refine U_one (i := 25) (by kernel_rfl) rfl rfl rfl (fun K hK => ?_)
            have HF : Hid (Rows kDd (fun _ => True) wk2 V.heap.size 50 (.slice a6 (k + j) c6) (ds ++ es) ∧ kDd.rel (fun b => True ∧ (Value.slice a6 (k + j) c6).ownBlock ≠ some b) wk2 ⟨1, rv, keyK ky, [bv], 0⟩ [.int .i64 1, .int .i64 rv, .slice (some ⟨wv2.heap.size, 0, none⟩) 2 2, .slice (some ⟨Wd.heap.size, 0, none⟩) 1 1, .int .i64 0] ∧ Below V.heap.size V wk2) := by
              have hk9 := Mk2.out.key _ rfl
              have hv9 := Mk2.out.val _ rfl
              have hown : ∀ g, (Value.slice a6 (k + j) c6).ownBlock = some g → g < wr.heap.size := fun g e => (rows_lt HES.out.2.1 g e).2
              exact ⟨HES.out.2.1.later Mk2.out.below, ⟨_, _, rfl, ⟨_, _, rfl, hk9.1, fun _ ad e => by cases e; exact ⟨trivial, fun e => Nat.not_lt.2 hk9.2.1 (hown _ e)⟩⟩, ⟨_, _, rfl, hv9.1, fun _ ad e => by cases e; exact ⟨trivial, fun e => Nat.not_lt.2 hv9.2.1 (hown _ e)⟩⟩⟩, HES.out.2.2.trans (Mk2.out.below.mono HES.out.2.2.size)⟩
            refine wp_of_list rfl (by rintro ⟨_, _, hh⟩; first | exact hh | exact hLO.out _ hh) (wpList_append_one (K := kDd) (ok := fun _ => True) eltD rfl (.tmp 55) (.tmp 79) rfl V.heap.size (.slice a6 (k + j) c6) (ds ++ es) rfl HF.out.1 ⟨1, rv, keyK ky, [bv], 0⟩ [.int .i64 1, .int .i64 rv, .slice (some ⟨wv2.heap.size, 0, none⟩) 2 2, .slice (some ⟨Wd.heap.size, 0, none⟩) 1 1, .int .i64 0] _ _ rfl rfl HF.out.2.1 (fun _ _ => trivial) (by rw [List.length_append, ← HK.out, HES.out.1]; omega) (by decide) HF.out.2.2.size (fun v8 w8 hR8 hg8 hat8 => ?_))
            have hB8 : Below V.heap.size V w8 := below_grown HF.out.2.2 HF.out.2.2.size hg8 (fun r e => (rows_lt HF.out.1 r e).1)
            obtain ⟨a9, c9, e9⟩ := rows_form hR8
            have hl9 : (ds ++ es ++ [(⟨1, rv, keyK ky, [bv], 0⟩ : Dd)]).length = k + (j + 1) := by rw [List.length_append, List.length_append, ← HK.out, HES.out.1]; rfl
            rw [hl9] at e9
            subst e9
            have HN : Hid (StayI V ds (j + 1) (.slice a9 (k + (j + 1)) c9) w8) := ⟨es ++ [⟨1, rv, keyK ky, [bv], 0⟩], by rw [List.length_append, HES.out.1]; rfl, by rw [← List.append_assoc]; exact hR8, hB8⟩
            have hS8 := HSW.out _ hB8
            refine hK _ _ (fun _ => hS8) ?_
            clear hK K hR8 hg8 hat8 hB8 hl9 HF hS8
            refine U_one (i := 26) (by kernel_rfl) rfl rfl rfl (fun K hK => ?_)
            go_simp
            refine hK _ _ (fun hh => by cases (show true = false from hh)) ?_
            clear hK K
            refine U_done (by kernel_rfl) ?_ _
            go_wp2
            go_roundw
            case rel => exact ⟨j + 1, a9, c9, by omega, by omega, by go_num, rfl, HN.out⟩
            case measure => simp [intOf]; omega
        · go_simp
          have Mv3 := put_by (M0.out.valued HBV.out)
          refine hK _ _ (fun _ => HSV.out _ Mv3.out.below) ?_
          clear hK K
          generalize World.alloc _ _ = wv3 at Mv3 ⊢
          refine U_one (i := 9) (by kernel_rfl) rfl rfl rfl (fun K hK => ?_)
          go_simp
          refine (cP.out _).mono ?_
          rintro e wp ⟨rfl, rfl⟩
          refine hK _ _ (fun _ => HSV.out _ Mv3.out.below) ?_
          clear hK K
          refine U_one (i := 15) (by kernel_rfl) rfl rfl rfl (fun K hK => ?_)
          go_simp
          refine (cK.out _).mono ?_
          rintro e wk3 ⟨rfl, Hk3⟩
          have Mk3 := put_by (Mv3.out.keyed Hk3.out.1 Hk3.out.2.1 Hk3.out.2.2)
          refine hK _ _ (fun _ => HSV.out _ Mk3.out.below) ?_
          clear hK K Hk3
          refine U_one (i := 23) (by kernel_rfl) rfl rfl rfl (fun K hK => ?_)
          go_simp
          refine hK _ _ (fun _ => HSV.out _ Mk3.out.below) ?_
          clear hK K
          refine U_one (i := 24) (by kernel_rfl) rfl rfl rfl (fun K hK => ?_)
          go_simp
          refine hK _ _ (fun _ => HSV.out _ (Mk3.out.below.alloc Mk3.out.below.size _)) ?_
          clear hK K
          refine U_one (i := 25) (by kernel_rfl) rfl rfl rfl (fun K hK => ?_)
          have HF : Hid (Rows kDd (fun _ => True) wk3 V.heap.size 50 (.slice a6 (k + j) c6) (ds ++ es) ∧ kDd.rel (fun b => True ∧ (Value.slice a6 (k + j) c6).ownBlock ≠ some b) wk3 ⟨1, rv, keyK ky, [bv], 0⟩ [.int .i64 1, .int .i64 rv, .slice (some ⟨wv3.heap.size, 0, none⟩) 2 2, .slice (some ⟨Wd.heap.size, 0, none⟩) 1 1, .int .i64 0] ∧ Below V.heap.size V wk3) := by
            have hk9 := Mk3.out.key _ rfl
            have hv9 := Mk3.out.val _ rfl
            have hown : ∀ g, (Value.slice a6 (k + j) c6).ownBlock = some g → g < wr.heap.size := fun g e => (rows_lt HES.out.2.1 g e).2
            exact ⟨HES.out.2.1.later Mk3.out.below, ⟨_, _, rfl, ⟨_, _, rfl, hk9.1, fun _ ad e => by cases e; exact ⟨trivial, fun e => Nat.not_lt.2 hk9.2.1 (hown _ e)⟩⟩, ⟨_, _, rfl, hv9.1, fun _ ad e => by cases e; exact ⟨trivial, fun e => Nat.not_lt.2 hv9.2.1 (hown _ e)⟩⟩⟩, HES.out.2.2.trans (Mk3.out.below.mono HES.out.2.2.size)⟩
          refine wp_of_list rfl (by rintro ⟨_, _, hh⟩; first | exact hh | exact hLO.out _ hh) (wpList_append_one (K := kDd) (ok := fun _ => True) eltD rfl (.tmp 55) (.tmp 79) rfl V.heap.size (.slice a6 (k + j) c6) (ds ++ es) rfl HF.out.1 ⟨1, rv, keyK ky, [bv], 0⟩ [.int .i64 1, .int .i64 rv, .slice (some ⟨wv3.heap.size, 0, none⟩) 2 2, .slice (some ⟨Wd.heap.size, 0, none⟩) 1 1, .int .i64 0] _ _ rfl rfl HF.out.2.1 (fun _ _ => trivial) (by rw [List.length_append, ← HK.out, HES.out.1]; omega) (by decide) HF.out.2.2.size (fun v8 w8 hR8 hg8 hat8 => ?_))
          have hB8 : Below V.heap.size V w8 := below_grown HF.out.2.2 HF.out.2.2.size hg8 (fun r e => (rows_lt HF.out.1 r e).1)
          obtain ⟨a9, c9, e9⟩ := rows_form hR8
          have hl9 : (ds ++ es ++ [(⟨1, rv, keyK ky, [bv], 0⟩ : Dd)]).length = k + (j + 1) := by rw [List.length_append, List.length_append, ← HK.out, HES.out.1]; rfl
          rw [hl9] at e9
          subst e9
          have HN : Hid (StayI V ds (j + 1) (.slice a9 (k + (j + 1)) c9) w8) := ⟨es ++ [⟨1, rv, keyK ky, [bv], 0⟩], by rw [List.length_append, HES.out.1]; rfl, by rw [← List.append_assoc]; exact hR8, hB8⟩
          have hS8 := HSW.out _ hB8
          refine hK _ _ (fun _ => hS8) ?_
          clear hK K hR8 hg8 hat8 hB8 hl9 HF hS8
          refine U_one (i := 26) (by kernel_rfl) rfl rfl rfl (fun K hK => ?_)
          go_simp
          refine hK _ _ (fun hh => by cases (show true = false from hh)) ?_
          clear hK K
          refine U_done (by kernel_rfl) ?_ _
          go_wp2
          go_roundw
          case rel => exact ⟨j + 1, a9, c9, by omega, by omega, by go_num, rfl, HN.out⟩
          case measure => simp [intOf]; omega
      · go_upto_region 15 with (fail)
        clear d0 d1 d2 d3
        have M0 := put_by (Mk.start wr ky bv)
        have hS := HSV.out _ M0.out.below
        refine region_plain (fun V => V.cell? ⟨b4, off + j * 4 + 1, none⟩ = some (.int .i64 bk) ∧ V.cell? ⟨b4, off + j * 4 + 2, none⟩ = some (.int .i64 ky) ∧ V.cell? ⟨b4, off + j * 4 + 3, none⟩ = some (.int .i64 vl)) 26 (by kernel_rfl) ?_
        generalize wr.drew = Wd at M0 hS ⊢
        refine V_takeX [26] (k := 0) (v := .slice a6 (k + j) c6) rfl (by kernel_rfl) (by kernel_rfl) (by kernel_rfl) (by kernel_rfl) (by kernel_rfl) (by kernel_rfl) (fun _ _ _ h => h) (Or.inl ⟨by rfl, fun V hV => ?_⟩) hS ?_
        · obtain ⟨z0, z1, z2⟩ := hV; go_simp
        simp only [Act.put, List.setIfInBounds_toArray]
        refine V_takeX [26] (k := 1) (v := .int .i64 2) rfl (by kernel_rfl) (by kernel_rfl) (by kernel_rfl) (by kernel_rfl) (by kernel_rfl) (by kernel_rfl) (fun _ _ _ h => h) (Or.inl ⟨by rfl, fun V hV => ?_⟩) hS ?_
        · obtain ⟨z0, z1, z2⟩ := hV; go_simp
        simp only [Act.put]
        refine V_takeX [26] (k := 2) (v := .slice (some ⟨b4, off, none⟩) mn mc) rfl (by kernel_rfl) (by kernel_rfl) (by kernel_rfl) (by kernel_rfl) (by kernel_rfl) (by kernel_rfl) (fun _ _ _ h => h) (Or.inl ⟨by rfl, fun V hV => ?_⟩) hS ?_
        · obtain ⟨z0, z1, z2⟩ := hV; go_simp
        simp only [Act.put]
        refine V_takeX [26] (k := 3) (v := .int .i64 j) rfl (by kernel_rfl) (by kernel_rfl) (by kernel_rfl) (by kernel_rfl) (by kernel_rfl) (by kernel_rfl) (fun _ _ _ h => h) (Or.inl ⟨by rfl, fun V hV => ?_⟩) hS ?_
        · obtain ⟨z0, z1, z2⟩ := hV; go_simp
        simp only [Act.put]
        refine V_takeX [26] (k := 4) (v := .pointer (some ⟨b4, off + j * 4, none⟩)) rfl (by kernel_rfl) (by kernel_rfl) (by kernel_rfl) (by kernel_rfl) (by kernel_rfl) (by kernel_rfl) (fun _ _ _ h => h) (Or.inl ⟨by rfl, fun V hV => ?_⟩) hS ?_
        · obtain ⟨z0, z1, z2⟩ := hV; go_simp
        simp only [Act.put]
        refine V_takeX [26] (k := 5) (v := .pointer (some ⟨b4, off + j * 4 + 1, none⟩)) rfl (by kernel_rfl) (by kernel_rfl) (by kernel_rfl) (by kernel_rfl) (by kernel_rfl) (by kernel_rfl) (fun _ _ _ h => h) (Or.inl ⟨by rfl, fun V hV => ?_⟩) hS ?_
        · obtain ⟨z0, z1, z2⟩ := hV; go_simp
        simp only [Act.put]
        refine V_takeX [26] (k := 6) (v := .int .i64 bk) rfl (by kernel_rfl) (by kernel_rfl) (by kernel_rfl) (by kernel_rfl) (by kernel_rfl) (by kernel_rfl) (fun _ _ _ h => h) (Or.inl ⟨by rfl, fun V hV => ?_⟩) hS ?_
        · obtain ⟨z0, z1, z2⟩ := hV; go_simp
        simp only [Act.put]
        refine V_takeX [26] (k := 7) (v := .int .i64 n) rfl (by kernel_rfl) (by kernel_rfl) (by kernel_rfl) (by kernel_rfl) (by kernel_rfl) (by kernel_rfl) (fun _ _ _ h => h) (Or.inl ⟨by rfl, fun V hV => ?_⟩) hS ?_
        · obtain ⟨z0, z1, z2⟩ := hV; go_simp
        simp only [Act.put]
        refine V_takeX [26] (k := 8) (v := .int .i64 ((n : Int) + 1)) rfl (by kernel_rfl) (by kernel_rfl) (by kernel_rfl) (by kernel_rfl) (by kernel_rfl) (by kernel_rfl) (fun _ _ _ h => h) (Or.inl ⟨by rfl, fun V hV => ?_⟩) hS ?_
        · obtain ⟨z0, z1, z2⟩ := hV; go_simp
        simp only [Act.put]
        refine V_takeX [26] (k := 10) (v := .slice (some ⟨b4, off, none⟩) mn mc) rfl (by kernel_rfl) (by kernel_rfl) (by kernel_rfl) (by kernel_rfl) (by kernel_rfl) (by kernel_rfl) (fun _ _ _ h => h) (Or.inl ⟨by rfl, fun V hV => ?_⟩) hS ?_
        · obtain ⟨z0, z1, z2⟩ := hV; go_simp
        simp only [Act.put]
        refine V_takeX [26] (k := 11) (v := .int .i64 j) rfl (by kernel_rfl) (by kernel_rfl) (by kernel_rfl) (by kernel_rfl) (by kernel_rfl) (by kernel_rfl) (fun _ _ _ h => h) (Or.inl ⟨by rfl, fun V hV => ?_⟩) hS ?_
        · obtain ⟨z0, z1, z2⟩ := hV; go_simp
        simp only [Act.put]
        refine V_takeX [26] (k := 12) (v := .pointer (some ⟨b4, off + j * 4, none⟩)) rfl (by kernel_rfl) (by kernel_rfl) (by kernel_rfl) (by kernel_rfl) (by kernel_rfl) (by kernel_rfl) (fun _ _ _ h => h) (Or.inl ⟨by rfl, fun V hV => ?_⟩) hS ?_
        · obtain ⟨z0, z1, z2⟩ := hV; go_simp
        simp only [Act.put]
        refine V_takeX [26] (k := 13) (v := .pointer (some ⟨b4, off + j * 4 + 2, none⟩)) rfl (by kernel_rfl) (by kernel_rfl) (by kernel_rfl) (by kernel_rfl) (by kernel_rfl) (by kernel_rfl) (fun _ _ _ h => h) (Or.inl ⟨by rfl, fun V hV => ?_⟩) hS ?_
        · obtain ⟨z0, z1, z2⟩ := hV; go_simp
        simp only [Act.put]
        refine V_takeX [26] (k := 14) (v := .int .i64 ky) rfl (by kernel_rfl) (by kernel_rfl) (by kernel_rfl) (by kernel_rfl) (by kernel_rfl) (by kernel_rfl) (fun _ _ _ h => h) (Or.inl ⟨by rfl, fun V hV => ?_⟩) hS ?_
        · obtain ⟨z0, z1, z2⟩ := hV; go_simp
        simp only [Act.put]
        refine V_takeX [26] (k := 16) (v := .slice (some ⟨b4, off, none⟩) mn mc) rfl (by kernel_rfl) (by kernel_rfl) (by kernel_rfl) (by kernel_rfl) (by kernel_rfl) (by kernel_rfl) (fun _ _ _ h => h) (Or.inl ⟨by rfl, fun V hV => ?_⟩) hS ?_
        · obtain ⟨z0, z1, z2⟩ := hV; go_simp
        simp only [Act.put]
        refine V_takeX [26] (k := 17) (v := .int .i64 j) rfl (by kernel_rfl) (by kernel_rfl) (by kernel_rfl) (by kernel_rfl) (by kernel_rfl) (by kernel_rfl) (fun _ _ _ h => h) (Or.inl ⟨by rfl, fun V hV => ?_⟩) hS ?_
        · obtain ⟨z0, z1, z2⟩ := hV; go_simp
        simp only [Act.put]
        refine V_takeX [26] (k := 18) (v := .pointer (some ⟨b4, off + j * 4, none⟩)) rfl (by kernel_rfl) (by kernel_rfl) (by kernel_rfl) (by kernel_rfl) (by kernel_rfl) (by kernel_rfl) (fun _ _ _ h => h) (Or.inl ⟨by rfl, fun V hV => ?_⟩) hS ?_
        · obtain ⟨z0, z1, z2⟩ := hV; go_simp
        simp only [Act.put]
        refine V_takeX [26] (k := 19) (v := .pointer (some ⟨b4, off + j * 4 + 3, none⟩)) rfl (by kernel_rfl) (by kernel_rfl) (by kernel_rfl) (by kernel_rfl) (by kernel_rfl) (by kernel_rfl) (fun _ _ _ h => h) (Or.inl ⟨by rfl, fun V hV => ?_⟩) hS ?_
        · obtain ⟨z0, z1, z2⟩ := hV; go_simp
        simp only [Act.put]
        refine V_takeX [26] (k := 20) (v := .int .i64 vl) rfl (by kernel_rfl) (by kernel_rfl) (by kernel_rfl) (by kernel_rfl) (by kernel_rfl) (by kernel_rfl) (fun _ _ _ h => h) (Or.inl ⟨by rfl, fun V hV => ?_⟩) hS ?_
        · obtain ⟨z0, z1, z2⟩ := hV; go_simp
        simp only [Act.put]
        refine V_takeX [26] (k := 21) (v := .int .u8 bv) rfl (by kernel_rfl) (by kernel_rfl) (by kernel_rfl) (by kernel_rfl) (by kernel_rfl) (by kernel_rfl) (fun _ _ _ h => h) (Or.inl ⟨by rfl, fun V hV => ?_⟩) hS ?_
        · obtain ⟨z0, z1, z2⟩ := hV; go_simp
        simp only [Act.put]
        refine U_two (i := 9) (j := 22) (by kernel_rfl) rfl rfl rfl rfl (fun K hK => ?_) (fun K hK => ?_)
        · go_simp
          refine (cP.out _).mono ?_
          rintro e wp ⟨rfl, rfl⟩
          refine hK _ _ (fun _ => HSV.out _ M0.out.below) ?_
          clear hK K
          refine U_two (i := 15) (j := 22) (by kernel_rfl) rfl rfl rfl rfl (fun K hK => ?_) (fun K hK => ?_)
          · go_simp
            refine (cK.out _).mono ?_
            rintro e wk1 ⟨rfl, Hk1⟩
            have Mk1 := put_by (M0.out.keyed Hk1.out.1 Hk1.out.2.1 Hk1.out.2.2)
            refine hK _ _ (fun _ => HSV.out _ Mk1.out.below) ?_
            clear hK K Hk1
            refine U_one (i := 22) (by kernel_rfl) rfl rfl rfl (fun K hK => ?_)
            go_simp
            have Mv1 := put_by (Mk1.out.valued HBV.out)
            refine hK _ _ (fun _ => HSV.out _ Mv1.out.below) ?_
            clear hK K
            generalize World.alloc _ _ = wv1 at Mv1 ⊢
            refine U_one (i := 23) (by kernel_rfl) rfl rfl rfl (fun K hK => ?_)
            go_simp
            refine hK _ _ (fun _ => HSV.out _ Mv1.out.below) ?_
            clear hK K
            refine U_one (i := 24) (by kernel_rfl) rfl rfl rfl (fun K hK => ?_)
            go_simp
            refine hK _ _ (fun _ => HSV.out _ (Mv1.out.below.alloc Mv1.out.below.size _)) ?_
            clear hK K
            refine U_one (i := 25) (by kernel_rfl) rfl rfl rfl (fun K hK => ?_)
            have HF : Hid (Rows kDd (fun _ => True) wv1 V.heap.size 50 (.slice a6 (k + j) c6) (ds ++ es) ∧ kDd.rel (fun b => True ∧ (Value.slice a6 (k + j) c6).ownBlock ≠ some b) wv1 ⟨2, rv, keyK ky, [bv], 0⟩ [.int .i64 2, .int .i64 rv, .slice (some ⟨Wd.heap.size, 0, none⟩) 2 2, .slice (some ⟨wk1.heap.size, 0, none⟩) 1 1, .int .i64 0] ∧ Below V.heap.size V wv1) := by
              have hk9 := Mv1.out.key _ rfl
              have hv9 := Mv1.out.val _ rfl
              have hown : ∀ g, (Value.slice a6 (k + j) c6).ownBlock = some g → g < wr.heap.size := fun g e => (rows_lt HES.out.2.1 g e).2
              exact ⟨HES.out.2.1.later Mv1.out.below, ⟨_, _, rfl, ⟨_, _, rfl, hk9.1, fun _ ad e => by cases e; exact ⟨trivial, fun e => Nat.not_lt.2 hk9.2.1 (hown _ e)⟩⟩, ⟨_, _, rfl, hv9.1, fun _ ad e => by cases e; exact ⟨trivial, fun e => Nat.not_lt.2 hv9.2.1 (hown _ e)⟩⟩⟩, HES.out.2.2.trans (Mv1.out.below.mono HES.out.2.2.size)⟩
            refine wp_of_list rfl (by rintro ⟨_, _, hh⟩; first | exact hh | exact hLO.out _ hh) (wpList_append_one (K := kDd) (ok := fun _ => True) eltD rfl (.tmp 55) (.tmp 79) rfl V.heap.size (.slice a6 (k + j) c6) (ds ++ es) rfl HF.out.1 ⟨2, rv, keyK ky, [bv], 0⟩ [.int .i64 2, .int .i64 rv, .slice (some ⟨Wd.heap.size, 0, none⟩) 2 2, .slice (some ⟨wk1.heap.size, 0, none⟩) 1 1, .int .i64 0] _ _ rfl rfl HF.out.2.1 (fun _ _ => trivial) (by rw [List.length_append, ← HK.out, HES.out.1]; omega) (by decide) HF.out.2.2.size (fun v8 w8 hR8 hg8 hat8 => ?_))
            have hB8 : Below V.heap.size V w8 := below_grown HF.out.2.2 HF.out.2.2.size hg8 (fun r e => (rows_lt HF.out.1 r e).1)
            obtain ⟨a9, c9, e9⟩ := rows_form hR8
            have hl9 : (ds ++ es ++ [(⟨2, rv, keyK ky, [bv], 0⟩ : Dd)]).length = k + (j + 1) := by rw [List.length_append, List.length_append, ← HK.out, HES.out.1]; rfl
            rw [hl9] at e9
            subst e9
            have HN : Hid (StayI V ds (j + 1) (.slice a9 (k + (j + 1)) c9) w8) := ⟨es ++ [⟨2, rv, keyK ky, [bv], 0⟩], by rw [List.length_append, HES.out.1]; rfl, by rw [← List.append_assoc]; exact hR8, hB8⟩
            have hS8 := HSW.out _ hB8
            refine hK _ _ (fun _ => hS8) ?_
            clear hK K hR8 hg8 hat8 hB8 hl9 HF hS8
            refine U_one (i := 26) (by kernel_rfl) rfl rfl rfl (fun K hK => ?_)
            go_simp
            refine hK _ _ (fun hh => by cases (show true = false from hh)) ?_
            clear hK K
            refine U_done (by kernel_rfl) ?_ _
            go_wp2
            go_roundw
            case rel => exact ⟨j + 1, a9, c9, by omega, by omega, by go_num, rfl, HN.out⟩
            case measure => simp [intOf]; omega
          · go_simp
            have Mv2 := put_by (M0.out.valued HBV.out)
            refine hK _ _ (fun _ => HSV.out _ Mv2.out.below) ?_
            clear hK K
            generalize World.alloc _ _ = wv2 at Mv2 ⊢
            refine U_one (i := 15) (by kernel_rfl) rfl rfl rfl (fun K hK => ?_)
            go_simp
            refine (cK.out _).mono ?_
            rintro e wk2 ⟨rfl, Hk2⟩
            have Mk2 := put_by (Mv2.out.keyed Hk2.out.1 Hk2.out.2.1 Hk2.out.2.2)
            refine hK _ _ (fun _ => HSV.out _ Mk2.out.below) ?_
            clear hK K Hk2
            refine U_one (i := 23) (by kernel_rfl) rfl rfl rfl (fun K hK => ?_)
            go_simp
            refine hK _ _ (fun _ => HSV.out _ Mk2.out.below) ?_
            clear hK K
            refine U_one (i := 24) (by kernel_rfl) rfl rfl rfl (fun K hK => ?_)
            go_simp
            refine hK _ _ (fun _ => HSV.out _ (Mk2.out.below.alloc Mk2.out.below.size _)) ?_
            clear hK K
            refine U_one (i := 25) (by kernel_rfl) rfl rfl rfl (fun K hK => ?_)
            have HF : Hid (Rows kDd (fun _ => True) wk2 V.heap.size 50 (.slice a6 (k + j) c6) (ds ++ es) ∧ kDd.rel (fun b => True ∧ (Value.slice a6 (k + j) c6).ownBlock ≠ some b) wk2 ⟨2, rv, keyK ky, [bv], 0⟩ [.int .i64 2, .int .i64 rv, .slice (some ⟨wv2.heap.size, 0, none⟩) 2 2, .slice (some ⟨Wd.heap.size, 0, none⟩) 1 1, .int .i64 0] ∧ Below V.heap.size V wk2) := by
              have hk9 := Mk2.out.key _ rfl
              have hv9 := Mk2.out.val _ rfl
              have hown : ∀ g, (Value.slice a6 (k + j) c6).ownBlock = some g → g < wr.heap.size := fun g e => (rows_lt HES.out.2.1 g e).2
              exact ⟨HES.out.2.1.later Mk2.out.below, ⟨_, _, rfl, ⟨_, _, rfl, hk9.1, fun _ ad e => by cases e; exact ⟨trivial, fun e => Nat.not_lt.2 hk9.2.1 (hown _ e)⟩⟩, ⟨_, _, rfl, hv9.1, fun _ ad e => by cases e; exact ⟨trivial, fun e => Nat.not_lt.2 hv9.2.1 (hown _ e)⟩⟩⟩, HES.out.2.2.trans (Mk2.out.below.mono HES.out.2.2.size)⟩
            refine wp_of_list rfl (by rintro ⟨_, _, hh⟩; first | exact hh | exact hLO.out _ hh) (wpList_append_one (K := kDd) (ok := fun _ => True) eltD rfl (.tmp 55) (.tmp 79) rfl V.heap.size (.slice a6 (k + j) c6) (ds ++ es) rfl HF.out.1 ⟨2, rv, keyK ky, [bv], 0⟩ [.int .i64 2, .int .i64 rv, .slice (some ⟨wv2.heap.size, 0, none⟩) 2 2, .slice (some ⟨Wd.heap.size, 0, none⟩) 1 1, .int .i64 0] _ _ rfl rfl HF.out.2.1 (fun _ _ => trivial) (by rw [List.length_append, ← HK.out, HES.out.1]; omega) (by decide) HF.out.2.2.size (fun v8 w8 hR8 hg8 hat8 => ?_))
            have hB8 : Below V.heap.size V w8 := below_grown HF.out.2.2 HF.out.2.2.size hg8 (fun r e => (rows_lt HF.out.1 r e).1)
            obtain ⟨a9, c9, e9⟩ := rows_form hR8
            have hl9 : (ds ++ es ++ [(⟨2, rv, keyK ky, [bv], 0⟩ : Dd)]).length = k + (j + 1) := by rw [List.length_append, List.length_append, ← HK.out, HES.out.1]; rfl
            rw [hl9] at e9
            subst e9
            have HN : Hid (StayI V ds (j + 1) (.slice a9 (k + (j + 1)) c9) w8) := ⟨es ++ [⟨2, rv, keyK ky, [bv], 0⟩], by rw [List.length_append, HES.out.1]; rfl, by rw [← List.append_assoc]; exact hR8, hB8⟩
            have hS8 := HSW.out _ hB8
            refine hK _ _ (fun _ => hS8) ?_
            clear hK K hR8 hg8 hat8 hB8 hl9 HF hS8
            refine U_one (i := 26) (by kernel_rfl) rfl rfl rfl (fun K hK => ?_)
            go_simp
            refine hK _ _ (fun hh => by cases (show true = false from hh)) ?_
            clear hK K
            refine U_done (by kernel_rfl) ?_ _
            go_wp2
            go_roundw
            case rel => exact ⟨j + 1, a9, c9, by omega, by omega, by go_num, rfl, HN.out⟩
            case measure => simp [intOf]; omega
        · go_simp
          have Mv3 := put_by (M0.out.valued HBV.out)
          refine hK _ _ (fun _ => HSV.out _ Mv3.out.below) ?_
          clear hK K
          generalize World.alloc _ _ = wv3 at Mv3 ⊢
          refine U_one (i := 9) (by kernel_rfl) rfl rfl rfl (fun K hK => ?_)
          go_simp
          refine (cP.out _).mono ?_
          rintro e wp ⟨rfl, rfl⟩
          refine hK _ _ (fun _ => HSV.out _ Mv3.out.below) ?_
          clear hK K
          refine U_one (i := 15) (by kernel_rfl) rfl rfl rfl (fun K hK => ?_)
          go_simp
          refine (cK.out _).mono ?_
          rintro e wk3 ⟨rfl, Hk3⟩
          have Mk3 := put_by (Mv3.out.keyed Hk3.out.1 Hk3.out.2.1 Hk3.out.2.2)
          refine hK _ _ (fun _ => HSV.out _ Mk3.out.below) ?_
          clear hK K Hk3
          refine U_one (i := 23) (by kernel_rfl) rfl rfl rfl (fun K hK => ?_)
          go_simp
          refine hK _ _ (fun _ => HSV.out _ Mk3.out.below) ?_
          clear hK K
          refine U_one (i := 24) (by kernel_rfl) rfl rfl rfl (fun K hK => ?_)
          go_simp
          refine hK _ _ (fun _ => HSV.out _ (Mk3.out.below.alloc Mk3.out.below.size _)) ?_
          clear hK K
          refine U_one (i := 25) (by kernel_rfl) rfl rfl rfl (fun K hK => ?_)
          have HF : Hid (Rows kDd (fun _ => True) wk3 V.heap.size 50 (.slice a6 (k + j) c6) (ds ++ es) ∧ kDd.rel (fun b => True ∧ (Value.slice a6 (k + j) c6).ownBlock ≠ some b) wk3 ⟨2, rv, keyK ky, [bv], 0⟩ [.int .i64 2, .int .i64 rv, .slice (some ⟨wv3.heap.size, 0, none⟩) 2 2, .slice (some ⟨Wd.heap.size, 0, none⟩) 1 1, .int .i64 0] ∧ Below V.heap.size V wk3) := by
            have hk9 := Mk3.out.key _ rfl
            have hv9 := Mk3.out.val _ rfl
            have hown : ∀ g, (Value.slice a6 (k + j) c6).ownBlock = some g → g < wr.heap.size := fun g e => (rows_lt HES.out.2.1 g e).2
            exact ⟨HES.out.2.1.later Mk3.out.below, ⟨_, _, rfl, ⟨_, _, rfl, hk9.1, fun _ ad e => by cases e; exact ⟨trivial, fun e => Nat.not_lt.2 hk9.2.1 (hown _ e)⟩⟩, ⟨_, _, rfl, hv9.1, fun _ ad e => by cases e; exact ⟨trivial, fun e => Nat.not_lt.2 hv9.2.1 (hown _ e)⟩⟩⟩, HES.out.2.2.trans (Mk3.out.below.mono HES.out.2.2.size)⟩
          refine wp_of_list rfl (by rintro ⟨_, _, hh⟩; first | exact hh | exact hLO.out _ hh) (wpList_append_one (K := kDd) (ok := fun _ => True) eltD rfl (.tmp 55) (.tmp 79) rfl V.heap.size (.slice a6 (k + j) c6) (ds ++ es) rfl HF.out.1 ⟨2, rv, keyK ky, [bv], 0⟩ [.int .i64 2, .int .i64 rv, .slice (some ⟨wv3.heap.size, 0, none⟩) 2 2, .slice (some ⟨Wd.heap.size, 0, none⟩) 1 1, .int .i64 0] _ _ rfl rfl HF.out.2.1 (fun _ _ => trivial) (by rw [List.length_append, ← HK.out, HES.out.1]; omega) (by decide) HF.out.2.2.size (fun v8 w8 hR8 hg8 hat8 => ?_))
          have hB8 : Below V.heap.size V w8 := below_grown HF.out.2.2 HF.out.2.2.size hg8 (fun r e => (rows_lt HF.out.1 r e).1)
          obtain ⟨a9, c9, e9⟩ := rows_form hR8
          have hl9 : (ds ++ es ++ [(⟨2, rv, keyK ky, [bv], 0⟩ : Dd)]).length = k + (j + 1) := by rw [List.length_append, List.length_append, ← HK.out, HES.out.1]; rfl
          rw [hl9] at e9
          subst e9
          have HN : Hid (StayI V ds (j + 1) (.slice a9 (k + (j + 1)) c9) w8) := ⟨es ++ [⟨2, rv, keyK ky, [bv], 0⟩], by rw [List.length_append, HES.out.1]; rfl, by rw [← List.append_assoc]; exact hR8, hB8⟩
          have hS8 := HSW.out _ hB8
          refine hK _ _ (fun _ => hS8) ?_
          clear hK K hR8 hg8 hat8 hB8 hl9 HF hS8
          refine U_one (i := 26) (by kernel_rfl) rfl rfl rfl (fun K hK => ?_)
          go_simp
          refine hK _ _ (fun hh => by cases (show true = false from hh)) ?_
          clear hK K
          refine U_done (by kernel_rfl) ?_ _
          go_wp2
          go_roundw
          case rel => exact ⟨j + 1, a9, c9, by omega, by omega, by go_num, rfl, HN.out⟩
          case measure => simp [intOf]; omega
    · have H9 := HI
      have cE : Hid (Calls Try.prog 15 #[.slice a6 (k + j) c6, .int .i64 (v : Int)] wr fun e w7 => ∃ (a7 : Option Addr) (c7 : Nat), e = .returned (.tuple #[.slice a7 n3 c7, .bool true]) ∧ Hid (Calls Try.prog 18 #[.slice a3 n3 c3, .slice a7 n3 c7] w7 fun e w8 => e = .returned (.bool true) ∧ Hid (Below w.heap.size w w8))) := by
        obtain ⟨es, q1, q2, q3⟩ := HI.out
        obtain ⟨⟨e1, e2, e3, e4, e5⟩, r1, r2, r3⟩ := H3.out
        obtain ⟨a', c', e', h', -⟩ := q2.lies (fun _ _ => trivial)
        have hl : (ds ++ es).length = k + j := by rw [List.length_append, e1, q1]
        rw [hl] at e'
        simp only [Value.slice.injEq] at e'
        obtain ⟨rfl, -, rfl⟩ := e'
        obtain ⟨s1, s2⟩ := stays_last ds es r3
        have := last_any (fun _ => True) (ds ++ es) (by rw [hl]; omega) v s1 a6 c6 wr h'
        rw [hl, s2] at this
        refine this.mono ?_
        rintro e w7 ⟨a7, n7, c7, rfl, t1, t2, t3⟩
        rw [← r1] at t1
        subst t1
        refine ⟨a7, c7, rfl, ?_⟩
        have hfew := getD_few (ds := ds) v
        rw [r1]
        refine (sameEntriesK_q _ _ _ _ (by omega) a3 a7 c3 c7 w7 ((r2.later q3).later t3) t2).mono ?_
        rintro e w8 ⟨rfl, i, rfl⟩
        have h1 := e5.trans (q3.mono e5.size)
        exact ⟨by simp, drawn_later (h1.trans (t3.mono h1.size)) i⟩
      clear HI H9 H3 H0 HM
      have hdone : (¬ (j : Int) < (mn : Int)) ∨ ((j : Int) < (mn : Int) ∧ ¬ (j : Int) < 30) := by omega
      rcases hdone with h9 | ⟨h8, h9⟩
      all_goals
        go_wp2_with (first
          | (go_at_call 15; (with_reducible refine cE.out.mono ?_); clear cE; rintro e w7 ⟨a7, c7, rfl, H7⟩)
          | (go_at_call 18; (with_reducible refine H7.out.mono ?_); clear H7; rintro e w8 ⟨rfl, H8⟩))
        go_ret
        exact ⟨rfl, H8.out⟩

end Go.Proofs.Ytdjiplheomoljaa
