/- Which writes may be: what mayWrite comes to. -/
import Derived.Test.YtjjdednlddnllaaRegTake
namespace Go.Proofs.Ytjjdednlddnllaa
open Go.ChangeShapes Go.WideShapes Go.ChangeAt Go.RowKit

theorem cmpK_ge (xs ys : List Int) : decide (0 ≤ cmpK xs ys) = !ahead xs ys := by
  rw [← cmpK_lt]
  by_cases h : cmpK xs ys < 0
  · simp [h]
  · simp [h]; omega

set_option maxRecDepth 100000 in
set_option maxHeartbeats 8000000 in
theorem mayWrite_any (ok : Nat → Prop) (l : List Wt) (hfew : l.length ≤ 140737488351232) (la : Option Addr) (lc : Nat) (w : World) (hL : Lies kWt ok w la lc l) (R : Bool) (hR : R = true ↔ WtsP l) :
    Calls Try.prog 88 #[.slice la l.length lc] w fun e w' => e = .returned (.bool R) ∧ Below w.heap.size w w' := by
  obtain ⟨n, hn⟩ : ∃ n, n = l.length := ⟨_, rfl⟩
  rw [← hn]
  have HL := put_by hL
  have HN := put_by hn
  have HR := put_by hR
  have hn8 : n ≤ 140737488351232 := by omega
  clear hL hn hfew hR
  by_cases h4 : 400 < n
  · have HF : Hid (R = false) := of_not HR.out (fun h => by have := h.1; have := HN.out; omega)
    go_enter Try.func88, Try.ntmps88
    go_wp2
    go_ret
    rw [HF.out]
    exact ⟨rfl, Below.refl _ _⟩
  go_enter Try.func88, Try.ntmps88
  go_wp2
  go_loopw [10] (fun i wr => ∃ (k : Nat), k ≤ n ∧ i = .int .i64 k ∧ Hid (GoodW l k ∧ Below w.heap.size w wr)) (fun i _ => n - (intOf i).toNat)
  case atStart => exact ⟨0, Nat.zero_le _, rfl, GoodW.zero l, Below.refl _ _⟩
  case round =>
    obtain ⟨k, hk, rfl, HB⟩ := hrel
    rename World => wr
    by_cases hlt : k < n
    · have hx : k < l.length := by rw [← HN.out]; exact hlt
      have HBB := put_by HB.out.2
      obtain ⟨R1, hR1⟩ := bool_of (OkWt l[k])
      have HNO : Hid (¬ OkWt l[k] → R = false) := fun h => of_not HR.out (fun hp => h (hp.2.1 _ (List.getElem_mem hx)))
      have HG := put_by HB.out.1
      obtain ⟨b4, off, rfl, hb, _, cs, ⟨u, v, rfl, hu, hw⟩, hc⟩ := HL.out.at hx
      obtain ⟨xa, xc, rfl, hxo, -⟩ := id hu
      obtain ⟨ya, yc, rfl, hyo, -⟩ := id hw
      have hbr : b4 < wr.heap.size := Nat.lt_of_lt_of_le hb HBB.out.size
      have d0 : wr.cell? ⟨b4, off + k * 3, none⟩ = some (.slice xa (l[k]).key.length xc) := (HBB.out.cell (p := ⟨b4, off + k * 3, none⟩) hb).trans (by simpa using hc 0 _ rfl)
      have d1 : wr.cell? ⟨b4, off + k * 3 + 1, none⟩ = some (.slice ya (l[k]).val.length yc) := (HBB.out.cell (p := ⟨b4, off + k * 3 + 1, none⟩) hb).trans (hc 1 _ rfl)
      have d2 : wr.cell? ⟨b4, off + k * 3 + 2, none⟩ = some (.bool (l[k]).gone) := (HBB.out.cell (p := ⟨b4, off + k * 3 + 2, none⟩) hb).trans (hc 2 _ rfl)
      have H0 : Hid (Below w.heap.size w (wr.alloc (.cells #[.slice xa (l[k]).key.length xc, .slice ya (l[k]).val.length yc, .bool (l[k]).gone] 100)) ∧ wr.heap.size < (wr.alloc (.cells #[.slice xa (l[k]).key.length xc, .slice ya (l[k]).val.length yc, .bool (l[k]).gone] 100)).heap.size ∧
          (wr.alloc (.cells #[.slice xa (l[k]).key.length xc, .slice ya (l[k]).val.length yc, .bool (l[k]).gone] 100)).cell? ⟨wr.heap.size, 0, none⟩ = some (.slice xa (l[k]).key.length xc) ∧
          (wr.alloc (.cells #[.slice xa (l[k]).key.length xc, .slice ya (l[k]).val.length yc, .bool (l[k]).gone] 100)).cell? ⟨wr.heap.size, 1, none⟩ = some (.slice ya (l[k]).val.length yc) ∧
          (wr.alloc (.cells #[.slice xa (l[k]).key.length xc, .slice ya (l[k]).val.length yc, .bool (l[k]).gone] 100)).cell? ⟨wr.heap.size, 2, none⟩ = some (.bool (l[k]).gone)) :=
        ⟨HBB.out.trans (((Below.refl _ wr).alloc (Nat.le_refl _) _).mono HBB.out.size), by simp, by simp, by simp, by simp⟩
      have cM : Hid (∀ V, Calls Try.prog 105 #[.agg #[.slice xa (l[k]).key.length xc, .slice ya (l[k]).val.length yc, .bool (l[k]).gone]] V fun e w' => e = .returned (.bool R1) ∧ Below V.heap.size V w') := fun V => mayBeWritten_any l[k] xa ya xc yc V R1 hR1
      have HO := put_by hR1
      have ik : (k : Int) < (n : Int) := by omega
      have HX := put_by hxo
      have HC3 := put_by (And.intro hb HL.out)
      clear hc hu hw hxo hyo HB hR1
      obtain ⟨i1, e1⟩ : ∃ i1, i1 = (l[k]).key.length := ⟨_, rfl⟩
      obtain ⟨i2, e2⟩ : ∃ i2, i2 = (l[k]).val.length := ⟨_, rfl⟩
      obtain ⟨g, e3⟩ : ∃ g, g = (l[k]).gone := ⟨_, rfl⟩
      have HI := put_by e1
      rw [← e1] at d0 H0 cM
      rw [← e2] at d1 H0 cM
      rw [← e3] at d2 H0 cM
      clear e1 e2 e3
      cases R1 with
      | false =>
        have HF := put_by (HNO.out (fun h => by cases HO.out.2 h))
        go_upto_region 6 with (fail)
        generalize wr.alloc (.cells #[.slice xa i1 xc, .slice ya i2 yc, .bool g] 100) = W0 at H0 ⊢
        have bx : Below W0.heap.size W0 W0.drew := (Below.refl _ _).drew
        have HC : Hid (∀ wq, Below W0.heap.size W0 wq → wq.cell? ⟨wr.heap.size, 0, none⟩ = some (.slice xa i1 xc) ∧ wq.cell? ⟨wr.heap.size, 1, none⟩ = some (.slice ya i2 yc) ∧ wq.cell? ⟨wr.heap.size, 2, none⟩ = some (.bool g)) := fun wq hq => ⟨(hq.cell (p := ⟨wr.heap.size, 0, none⟩) H0.out.2.1).trans H0.out.2.2.1, (hq.cell (p := ⟨wr.heap.size, 1, none⟩) H0.out.2.1).trans H0.out.2.2.2.1, (hq.cell (p := ⟨wr.heap.size, 2, none⟩) H0.out.2.1).trans H0.out.2.2.2.2⟩
        replace cM : Hid (∀ V, Below W0.heap.size W0 V → Calls Try.prog 105 #[.agg #[.slice xa i1 xc, .slice ya i2 yc, .bool g]] V fun e w' => e = .returned (.bool false) ∧ Below W0.heap.size W0 w') := fun V hV => (cM.out V).mono (fun e w' h => ⟨h.1, hV.trans (h.2.mono hV.size)⟩)
        clear HL HN HR HBB HNO HG HO HX HC3 d0 d1 d2
        refine wp_region_held (S := fun W => Below W0.heap.size W0 W) (by kernel_rfl) ?_
        change wpAnyH _ _ _ _ _ 19 #[false, false, false, false, false, false, false, false, false, false, false, false, false, false, false, false, false, false, false] _ W0.drew
        refine takeH (i := 0) 15 (v := .agg #[.slice xa i1 xc, .slice ya i2 yc, .bool g]) rfl rfl (by kernel_rfl) (by kernel_rfl) (by kernel_rfl) (fun _ _ _ h => h) (Or.inl ⟨by kernel_rfl, ?_⟩) bx ?_
        · intro wq hq
          have hh := HC.out wq hq
          clear HC
          obtain ⟨q0, q1, q2⟩ := hh
          go_simp
        simp only [Act.put, List.setIfInBounds_toArray, List.set_cons_zero]
        refine wpAnyH_ready (rs := [1]) (by kernel_rfl) (by simp) ?_
        refine AllReadyH.cons rfl (fun K1 hK1 => ?_) AllReadyH.nil
        rw [if_pos (by kernel_rfl)]
        unfold Oper.wp
        go_simp
        go_wp2_with (go_at_call 105; refine (cM.out _ bx).mono ?_; rintro e w3 ⟨rfl, b3⟩)
        refine hK1.out _ _ b3 (fun _ => ?_)
        simp only [List.setIfInBounds_toArray, List.set_cons_zero, List.set_cons_succ]
        refine takeH (i := 2) 17 (v := .bool true) rfl rfl (by kernel_rfl) (by kernel_rfl) (by kernel_rfl) (fun _ _ _ h => h) (Or.inl ⟨by kernel_rfl, ?_⟩) b3 ?_
        · intro wq hq
          go_simp
        simp only [Act.put, List.setIfInBounds_toArray, List.set_cons_zero, List.set_cons_succ]
        refine takeH (i := 3) 18 (v := .bool true) rfl rfl (by kernel_rfl) (by kernel_rfl) (by kernel_rfl) (fun _ _ _ h => h) (Or.inl ⟨by kernel_rfl, ?_⟩) b3 ?_
        · intro wq hq
          go_simp
        simp only [Act.put, List.setIfInBounds_toArray, List.set_cons_zero, List.set_cons_succ]
        refine takeH (i := 4) 19 (v := undef) rfl rfl (by kernel_rfl) (by kernel_rfl) (by kernel_rfl) (fun _ _ _ h => h) (Or.inr ⟨by kernel_rfl, rfl⟩) b3 ?_
        simp only [Act.put, List.setIfInBounds_toArray, List.set_cons_zero, List.set_cons_succ]
        refine takeH (i := 5) 20 (v := undef) rfl rfl (by kernel_rfl) (by kernel_rfl) (by kernel_rfl) (fun _ _ _ h => h) (Or.inr ⟨by kernel_rfl, rfl⟩) b3 ?_
        simp only [Act.put, List.setIfInBounds_toArray, List.set_cons_zero, List.set_cons_succ]
        refine takeH (i := 6) 21 (v := undef) rfl rfl (by kernel_rfl) (by kernel_rfl) (by kernel_rfl) (fun _ _ _ h => h) (Or.inr ⟨by kernel_rfl, rfl⟩) b3 ?_
        simp only [Act.put, List.setIfInBounds_toArray, List.set_cons_zero, List.set_cons_succ]
        refine takeH (i := 7) 22 (v := undef) rfl rfl (by kernel_rfl) (by kernel_rfl) (by kernel_rfl) (fun _ _ _ h => h) (Or.inr ⟨by kernel_rfl, rfl⟩) b3 ?_
        simp only [Act.put, List.setIfInBounds_toArray, List.set_cons_zero, List.set_cons_succ]
        refine takeH (i := 8) 23 (v := undef) rfl rfl (by kernel_rfl) (by kernel_rfl) (by kernel_rfl) (fun _ _ _ h => h) (Or.inr ⟨by kernel_rfl, rfl⟩) b3 ?_
        simp only [Act.put, List.setIfInBounds_toArray, List.set_cons_zero, List.set_cons_succ]
        refine takeH (i := 9) 24 (v := undef) rfl rfl (by kernel_rfl) (by kernel_rfl) (by kernel_rfl) (fun _ _ _ h => h) (Or.inr ⟨by kernel_rfl, rfl⟩) b3 ?_
        simp only [Act.put, List.setIfInBounds_toArray, List.set_cons_zero, List.set_cons_succ]
        refine takeH (i := 10) 25 (v := undef) rfl rfl (by kernel_rfl) (by kernel_rfl) (by kernel_rfl) (fun _ _ _ h => h) (Or.inr ⟨by kernel_rfl, rfl⟩) b3 ?_
        simp only [Act.put, List.setIfInBounds_toArray, List.set_cons_zero, List.set_cons_succ]
        refine takeH (i := 11) 26 (v := undef) rfl rfl (by kernel_rfl) (by kernel_rfl) (by kernel_rfl) (fun _ _ _ h => h) (Or.inr ⟨by kernel_rfl, rfl⟩) b3 ?_
        simp only [Act.put, List.setIfInBounds_toArray, List.set_cons_zero, List.set_cons_succ]
        refine takeH (i := 12) 27 (v := undef) rfl rfl (by kernel_rfl) (by kernel_rfl) (by kernel_rfl) (fun _ _ _ h => h) (Or.inr ⟨by kernel_rfl, rfl⟩) b3 ?_
        simp only [Act.put, List.setIfInBounds_toArray, List.set_cons_zero, List.set_cons_succ]
        refine takeH (i := 13) 28 (v := undef) rfl rfl (by kernel_rfl) (by kernel_rfl) (by kernel_rfl) (fun _ _ _ h => h) (Or.inr ⟨by kernel_rfl, rfl⟩) b3 ?_
        simp only [Act.put, List.setIfInBounds_toArray, List.set_cons_zero, List.set_cons_succ]
        refine takeH (i := 14) 29 (v := undef) rfl rfl (by kernel_rfl) (by kernel_rfl) (by kernel_rfl) (fun _ _ _ h => h) (Or.inr ⟨by kernel_rfl, rfl⟩) b3 ?_
        simp only [Act.put, List.setIfInBounds_toArray, List.set_cons_zero, List.set_cons_succ]
        refine takeH (i := 15) 30 (v := undef) rfl rfl (by kernel_rfl) (by kernel_rfl) (by kernel_rfl) (fun _ _ _ h => h) (Or.inr ⟨by kernel_rfl, rfl⟩) b3 ?_
        simp only [Act.put, List.setIfInBounds_toArray, List.set_cons_zero, List.set_cons_succ]
        refine takeH (i := 16) 31 (v := undef) rfl rfl (by kernel_rfl) (by kernel_rfl) (by kernel_rfl) (fun _ _ _ h => h) (Or.inr ⟨by kernel_rfl, rfl⟩) b3 ?_
        simp only [Act.put, List.setIfInBounds_toArray, List.set_cons_zero, List.set_cons_succ]
        refine takeH (i := 17) 32 (v := undef) rfl rfl (by kernel_rfl) (by kernel_rfl) (by kernel_rfl) (fun _ _ _ h => h) (Or.inr ⟨by kernel_rfl, rfl⟩) b3 ?_
        simp only [Act.put, List.setIfInBounds_toArray, List.set_cons_zero, List.set_cons_succ]
        refine takeH (i := 18) 33 (v := .bool true) rfl rfl (by kernel_rfl) (by kernel_rfl) (by kernel_rfl) (fun _ _ _ h => h) (Or.inl ⟨by kernel_rfl, ?_⟩) b3 ?_
        · intro wq hq
          go_simp
        simp only [Act.put, List.setIfInBounds_toArray, List.set_cons_zero, List.set_cons_succ]
        refine wpAnyH_done (by kernel_rfl) ?_ _
        go_wp2
        go_ret
        rw [HF.out]
        exact ⟨rfl, H0.out.1.trans (b3.mono H0.out.1.size)⟩
      | true =>
        cases k with
        | zero =>
          rw [Nat.zero_mul, Nat.add_zero] at d0 d1 d2
          have HT : Hid (GoodW l 1) := HG.out.step hx (HO.out.1 rfl) (fun p hp => by omega)
          go_upto_region 6 with (fail)
          generalize wr.alloc (.cells #[.slice xa i1 xc, .slice ya i2 yc, .bool g] 100) = W0 at H0 ⊢
          have bx : Below W0.heap.size W0 W0.drew := (Below.refl _ _).drew
          have HC : Hid (∀ wq, Below W0.heap.size W0 wq → wq.cell? ⟨wr.heap.size, 0, none⟩ = some (.slice xa i1 xc) ∧ wq.cell? ⟨wr.heap.size, 1, none⟩ = some (.slice ya i2 yc) ∧ wq.cell? ⟨wr.heap.size, 2, none⟩ = some (.bool g)) := fun wq hq => ⟨(hq.cell (p := ⟨wr.heap.size, 0, none⟩) H0.out.2.1).trans H0.out.2.2.1, (hq.cell (p := ⟨wr.heap.size, 1, none⟩) H0.out.2.1).trans H0.out.2.2.2.1, (hq.cell (p := ⟨wr.heap.size, 2, none⟩) H0.out.2.1).trans H0.out.2.2.2.2⟩
          replace cM : Hid (∀ V, Below W0.heap.size W0 V → Calls Try.prog 105 #[.agg #[.slice xa i1 xc, .slice ya i2 yc, .bool g]] V fun e w' => e = .returned (.bool true) ∧ Below W0.heap.size W0 w') := fun V hV => (cM.out V).mono (fun e w' h => ⟨h.1, hV.trans (h.2.mono hV.size)⟩)
          clear HL HN HR HBB HNO HG HO HX HC3 d0 d1 d2
          refine wp_region_held (S := fun W => Below W0.heap.size W0 W) (by kernel_rfl) ?_
          change wpAnyH _ _ _ _ _ 19 #[false, false, false, false, false, false, false, false, false, false, false, false, false, false, false, false, false, false, false] _ W0.drew
          refine takeH (i := 0) 15 (v := .agg #[.slice xa i1 xc, .slice ya i2 yc, .bool g]) rfl rfl (by kernel_rfl) (by kernel_rfl) (by kernel_rfl) (fun _ _ _ h => h) (Or.inl ⟨by kernel_rfl, ?_⟩) bx ?_
          · intro wq hq
            have hh := HC.out wq hq
            clear HC
            obtain ⟨q0, q1, q2⟩ := hh
            go_simp
          simp only [Act.put, List.setIfInBounds_toArray, List.set_cons_zero]
          refine wpAnyH_ready (rs := [1]) (by kernel_rfl) (by simp) ?_
          refine AllReadyH.cons rfl (fun K1 hK1 => ?_) AllReadyH.nil
          rw [if_pos (by kernel_rfl)]
          unfold Oper.wp
          go_simp
          go_wp2_with (go_at_call 105; refine (cM.out _ bx).mono ?_; rintro e w3 ⟨rfl, b3⟩)
          refine hK1.out _ _ b3 (fun _ => ?_)
          simp only [List.setIfInBounds_toArray, List.set_cons_zero, List.set_cons_succ]
          refine takeH (i := 2) 17 (v := .bool false) rfl rfl (by kernel_rfl) (by kernel_rfl) (by kernel_rfl) (fun _ _ _ h => h) (Or.inl ⟨by kernel_rfl, ?_⟩) b3 ?_
          · intro wq hq
            go_simp
          simp only [Act.put, List.setIfInBounds_toArray, List.set_cons_zero, List.set_cons_succ]
          refine takeH (i := 3) 18 (v := .bool false) rfl rfl (by kernel_rfl) (by kernel_rfl) (by kernel_rfl) (fun _ _ _ h => h) (Or.inl ⟨by kernel_rfl, ?_⟩) b3 ?_
          · intro wq hq
            go_simp
          simp only [Act.put, List.setIfInBounds_toArray, List.set_cons_zero, List.set_cons_succ]
          refine takeH (i := 4) 19 (v := .int .i64 0) rfl rfl (by kernel_rfl) (by kernel_rfl) (by kernel_rfl) (fun _ _ _ h => h) (Or.inl ⟨by kernel_rfl, ?_⟩) b3 ?_
          · intro wq hq
            go_simp
          simp only [Act.put, List.setIfInBounds_toArray, List.set_cons_zero, List.set_cons_succ]
          refine takeH (i := 5) 20 (v := .bool false) rfl rfl (by kernel_rfl) (by kernel_rfl) (by kernel_rfl) (fun _ _ _ h => h) (Or.inl ⟨by kernel_rfl, ?_⟩) b3 ?_
          · intro wq hq
            go_simp
          simp only [Act.put, List.setIfInBounds_toArray, List.set_cons_zero, List.set_cons_succ]
          refine takeH (i := 6) 21 (v := .bool false) rfl rfl (by kernel_rfl) (by kernel_rfl) (by kernel_rfl) (fun _ _ _ h => h) (Or.inl ⟨by kernel_rfl, ?_⟩) b3 ?_
          · intro wq hq
            go_simp
          simp only [Act.put, List.setIfInBounds_toArray, List.set_cons_zero, List.set_cons_succ]
          refine takeH (i := 7) 22 (v := undef) rfl rfl (by kernel_rfl) (by kernel_rfl) (by kernel_rfl) (fun _ _ _ h => h) (Or.inr ⟨by kernel_rfl, rfl⟩) b3 ?_
          simp only [Act.put, List.setIfInBounds_toArray, List.set_cons_zero, List.set_cons_succ]
          refine takeH (i := 8) 23 (v := undef) rfl rfl (by kernel_rfl) (by kernel_rfl) (by kernel_rfl) (fun _ _ _ h => h) (Or.inr ⟨by kernel_rfl, rfl⟩) b3 ?_
          simp only [Act.put, List.setIfInBounds_toArray, List.set_cons_zero, List.set_cons_succ]
          refine takeH (i := 9) 24 (v := undef) rfl rfl (by kernel_rfl) (by kernel_rfl) (by kernel_rfl) (fun _ _ _ h => h) (Or.inr ⟨by kernel_rfl, rfl⟩) b3 ?_
          simp only [Act.put, List.setIfInBounds_toArray, List.set_cons_zero, List.set_cons_succ]
          refine takeH (i := 10) 25 (v := undef) rfl rfl (by kernel_rfl) (by kernel_rfl) (by kernel_rfl) (fun _ _ _ h => h) (Or.inr ⟨by kernel_rfl, rfl⟩) b3 ?_
          simp only [Act.put, List.setIfInBounds_toArray, List.set_cons_zero, List.set_cons_succ]
          refine takeH (i := 11) 26 (v := undef) rfl rfl (by kernel_rfl) (by kernel_rfl) (by kernel_rfl) (fun _ _ _ h => h) (Or.inr ⟨by kernel_rfl, rfl⟩) b3 ?_
          simp only [Act.put, List.setIfInBounds_toArray, List.set_cons_zero, List.set_cons_succ]
          refine takeH (i := 12) 27 (v := undef) rfl rfl (by kernel_rfl) (by kernel_rfl) (by kernel_rfl) (fun _ _ _ h => h) (Or.inr ⟨by kernel_rfl, rfl⟩) b3 ?_
          simp only [Act.put, List.setIfInBounds_toArray, List.set_cons_zero, List.set_cons_succ]
          refine takeH (i := 13) 28 (v := undef) rfl rfl (by kernel_rfl) (by kernel_rfl) (by kernel_rfl) (fun _ _ _ h => h) (Or.inr ⟨by kernel_rfl, rfl⟩) b3 ?_
          simp only [Act.put, List.setIfInBounds_toArray, List.set_cons_zero, List.set_cons_succ]
          refine takeH (i := 14) 29 (v := undef) rfl rfl (by kernel_rfl) (by kernel_rfl) (by kernel_rfl) (fun _ _ _ h => h) (Or.inr ⟨by kernel_rfl, rfl⟩) b3 ?_
          simp only [Act.put, List.setIfInBounds_toArray, List.set_cons_zero, List.set_cons_succ]
          refine takeH (i := 15) 30 (v := undef) rfl rfl (by kernel_rfl) (by kernel_rfl) (by kernel_rfl) (fun _ _ _ h => h) (Or.inr ⟨by kernel_rfl, rfl⟩) b3 ?_
          simp only [Act.put, List.setIfInBounds_toArray, List.set_cons_zero, List.set_cons_succ]
          refine takeH (i := 16) 31 (v := undef) rfl rfl (by kernel_rfl) (by kernel_rfl) (by kernel_rfl) (fun _ _ _ h => h) (Or.inr ⟨by kernel_rfl, rfl⟩) b3 ?_
          simp only [Act.put, List.setIfInBounds_toArray, List.set_cons_zero, List.set_cons_succ]
          refine takeH (i := 17) 32 (v := .bool false) rfl rfl (by kernel_rfl) (by kernel_rfl) (by kernel_rfl) (fun _ _ _ h => h) (Or.inl ⟨by kernel_rfl, ?_⟩) b3 ?_
          · intro wq hq
            go_simp
          simp only [Act.put, List.setIfInBounds_toArray, List.set_cons_zero, List.set_cons_succ]
          refine takeH (i := 18) 33 (v := .bool false) rfl rfl (by kernel_rfl) (by kernel_rfl) (by kernel_rfl) (fun _ _ _ h => h) (Or.inl ⟨by kernel_rfl, ?_⟩) b3 ?_
          · intro wq hq
            go_simp
          simp only [Act.put, List.setIfInBounds_toArray, List.set_cons_zero, List.set_cons_succ]
          refine wpAnyH_done (by kernel_rfl) ?_ _
          go_wp2
          go_roundw
          case rel => exact ⟨1, by omega, by go_num, HT.out, H0.out.1.trans (b3.mono H0.out.1.size)⟩
          case measure => simp [intOf]; omega
        | succ p =>
          have hp : p < l.length := by omega
          obtain ⟨b4', off', e4, hb', _, cs, ⟨u, v, rfl, hu, hw⟩, hc⟩ := HC3.out.2.at hp
          simp only [Option.some.injEq, Addr.mk.injEq, and_true] at e4
          obtain ⟨rfl, rfl⟩ := e4
          obtain ⟨pa, pc, rfl, hpo, -⟩ := id hu
          have d4 : wr.cell? ⟨b4, off + p * 3, none⟩ = some (.slice pa (l[p]).key.length pc) := (HBB.out.cell (p := ⟨b4, off + p * 3, none⟩) hb').trans (by simpa using hc 0 _ rfl)
          obtain ⟨q, hq⟩ : ∃ q, q = decide (0 ≤ cmpK (l[p]).key (l[p + 1]).key) := ⟨_, rfl⟩
          have HQ : Hid (q = !ahead (l[p]).key (l[p + 1]).key) := by rw [hq]; exact cmpK_ge _ _
          have HT : Hid (q = false → GoodW l (p + 1 + 1)) := fun h => HG.out.step hx (HO.out.1 rfl) (fun p' hp' hl => by
            obtain rfl : p' = p := by omega
            have := HQ.out
            rw [h] at this
            simpa using this.symm)
          have HF : Hid (q = true → R = false) := fun h => of_not HR.out (fun hp' => by
            have h1 := ascW_next hp'.2.2 hx
            have := HQ.out
            rw [h, h1] at this
            cases this)
          have cC : Hid (∀ V, Below wr.heap.size wr V → Calls Try.prog 47 #[.slice pa (l[p]).key.length pc, .slice xa i1 xc] V fun e w' => e = .returned (.int .i64 (cmpK (l[p]).key (l[p + 1]).key)) ∧ w' = V) := fun V hV => by
            have h := Compare_any pa xa pc xc (l[p]).key (l[p + 1]).key V ((hpo.later HBB.out).later hV) ((HX.out.later HBB.out).later hV)
            rwa [← HI.out] at h
          clear hc hu hw hpo
          obtain ⟨i4, e4⟩ : ∃ i4, i4 = (l[p]).key.length := ⟨_, rfl⟩
          rw [← e4] at d4 cC
          clear e4
          obtain ⟨cm, hcm⟩ : ∃ cm, cm = cmpK (l[p]).key (l[p + 1]).key := ⟨_, rfl⟩
          rw [← hcm] at cC hq
          clear hcm HQ
          have HQ : Hid (decide (0 ≤ cm) = q) := hq.symm
          clear hq
          have ip : IntKind.i64.wrap (p : Int) = (p : Int) := by rw [IntKind.wrap_i64]; omega
          have im : (p : Int) < (n : Int) := by omega
          go_upto_region 6 with (fail)
          have HBA : Hid (Below wr.heap.size wr (wr.alloc (.cells #[.slice xa i1 xc, .slice ya i2 yc, .bool g] 100))) := (Below.refl _ wr).alloc (Nat.le_refl _) _
          generalize wr.alloc (.cells #[.slice xa i1 xc, .slice ya i2 yc, .bool g] 100) = W0 at H0 HBA ⊢
          have bx : Below W0.heap.size W0 W0.drew := (Below.refl _ _).drew
          have HC : Hid (∀ wq, Below W0.heap.size W0 wq → wq.cell? ⟨wr.heap.size, 0, none⟩ = some (.slice xa i1 xc) ∧ wq.cell? ⟨wr.heap.size, 1, none⟩ = some (.slice ya i2 yc) ∧ wq.cell? ⟨wr.heap.size, 2, none⟩ = some (.bool g)) := fun wq hq => ⟨(hq.cell (p := ⟨wr.heap.size, 0, none⟩) H0.out.2.1).trans H0.out.2.2.1, (hq.cell (p := ⟨wr.heap.size, 1, none⟩) H0.out.2.1).trans H0.out.2.2.2.1, (hq.cell (p := ⟨wr.heap.size, 2, none⟩) H0.out.2.1).trans H0.out.2.2.2.2⟩
          have HCP : Hid (∀ wq, Below W0.heap.size W0 wq → wq.cell? ⟨b4, off + p * 3, none⟩ = some (.slice pa i4 pc)) := fun wq hq => ((HBA.out.trans (hq.mono HBA.out.size)).cell (p := ⟨b4, off + p * 3, none⟩) hbr).trans d4
          replace cM : Hid (∀ V, Below W0.heap.size W0 V → Calls Try.prog 105 #[.agg #[.slice xa i1 xc, .slice ya i2 yc, .bool g]] V fun e w' => e = .returned (.bool true) ∧ Below W0.heap.size W0 w') := fun V hV => (cM.out V).mono (fun e w' h => ⟨h.1, hV.trans (h.2.mono hV.size)⟩)
          replace cC : Hid (∀ V, Below W0.heap.size W0 V → Calls Try.prog 47 #[.slice pa i4 pc, .slice xa i1 xc] V fun e w' => e = .returned (.int .i64 cm) ∧ Below W0.heap.size W0 w') := fun V hV => (cC.out V (HBA.out.trans (hV.mono HBA.out.size))).mono (fun e w' h => ⟨h.1, by rw [h.2]; exact hV⟩)
          clear HL HN HR HBB HNO HG HO HX HC3 d0 d1 d2 d4 HI HBA
          refine wp_region_held (S := fun W => Below W0.heap.size W0 W) (by kernel_rfl) ?_
          change wpAnyH _ _ _ _ _ 19 #[false, false, false, false, false, false, false, false, false, false, false, false, false, false, false, false, false, false, false] _ W0.drew
          refine takeH (i := 0) 15 (v := .agg #[.slice xa i1 xc, .slice ya i2 yc, .bool g]) rfl rfl (by kernel_rfl) (by kernel_rfl) (by kernel_rfl) (fun _ _ _ h => h) (Or.inl ⟨by kernel_rfl, ?_⟩) bx ?_
          · intro wq hq
            have hh := HC.out wq hq
            clear HC HCP
            obtain ⟨q0, q1, q2⟩ := hh
            go_simp
          simp only [Act.put, List.setIfInBounds_toArray, List.set_cons_zero]
          refine wpAnyH_ready (rs := [1]) (by kernel_rfl) (by simp) ?_
          refine AllReadyH.cons rfl (fun K1 hK1 => ?_) AllReadyH.nil
          rw [if_pos (by kernel_rfl)]
          unfold Oper.wp
          go_simp
          go_wp2_with (go_at_call 105; refine (cM.out _ bx).mono ?_; rintro e w3 ⟨rfl, b3⟩)
          refine hK1.out _ _ b3 (fun _ => ?_)
          simp only [List.setIfInBounds_toArray, List.set_cons_zero, List.set_cons_succ]
          refine takeH (i := 2) 17 (v := .bool false) rfl rfl (by kernel_rfl) (by kernel_rfl) (by kernel_rfl) (fun _ _ _ h => h) (Or.inl ⟨by kernel_rfl, ?_⟩) b3 ?_
          · intro wq hq
            go_simp
          simp only [Act.put, List.setIfInBounds_toArray, List.set_cons_zero, List.set_cons_succ]
          refine takeH (i := 3) 18 (v := .bool false) rfl rfl (by kernel_rfl) (by kernel_rfl) (by kernel_rfl) (fun _ _ _ h => h) (Or.inl ⟨by kernel_rfl, ?_⟩) b3 ?_
          · intro wq hq
            go_simp
          simp only [Act.put, List.setIfInBounds_toArray, List.set_cons_zero, List.set_cons_succ]
          refine takeH (i := 4) 19 (v := .int .i64 ((p : Int) + 1)) rfl rfl (by kernel_rfl) (by kernel_rfl) (by kernel_rfl) (fun _ _ _ h => h) (Or.inl ⟨by kernel_rfl, ?_⟩) b3 ?_
          · intro wq hq
            go_simp
          simp only [Act.put, List.setIfInBounds_toArray, List.set_cons_zero, List.set_cons_succ]
          refine takeH (i := 5) 20 (v := .bool true) rfl rfl (by kernel_rfl) (by kernel_rfl) (by kernel_rfl) (fun _ _ _ h => h) (Or.inl ⟨by kernel_rfl, ?_⟩) b3 ?_
          · intro wq hq
            go_simp
          simp only [Act.put, List.setIfInBounds_toArray, List.set_cons_zero, List.set_cons_succ]
          refine takeH (i := 6) 21 (v := .bool true) rfl rfl (by kernel_rfl) (by kernel_rfl) (by kernel_rfl) (fun _ _ _ h => h) (Or.inl ⟨by kernel_rfl, ?_⟩) b3 ?_
          · intro wq hq
            go_simp
          simp only [Act.put, List.setIfInBounds_toArray, List.set_cons_zero, List.set_cons_succ]
          refine takeH (i := 7) 22 (v := .slice (some ⟨b4, off, none⟩) n lc) rfl rfl (by kernel_rfl) (by kernel_rfl) (by kernel_rfl) (fun _ _ _ h => h) (Or.inl ⟨by kernel_rfl, ?_⟩) b3 ?_
          · intro wq hq
            go_simp
          simp only [Act.put, List.setIfInBounds_toArray, List.set_cons_zero, List.set_cons_succ]
          refine takeH (i := 8) 23 (v := .int .i64 ((p : Int) + 1)) rfl rfl (by kernel_rfl) (by kernel_rfl) (by kernel_rfl) (fun _ _ _ h => h) (Or.inl ⟨by kernel_rfl, ?_⟩) b3 ?_
          · intro wq hq
            go_simp
          simp only [Act.put, List.setIfInBounds_toArray, List.set_cons_zero, List.set_cons_succ]
          refine takeH (i := 9) 24 (v := .int .i64 (p : Int)) rfl rfl (by kernel_rfl) (by kernel_rfl) (by kernel_rfl) (fun _ _ _ h => h) (Or.inl ⟨by kernel_rfl, ?_⟩) b3 ?_
          · intro wq hq
            go_simp
          simp only [Act.put, List.setIfInBounds_toArray, List.set_cons_zero, List.set_cons_succ]
          refine takeH (i := 10) 25 (v := .pointer (some ⟨b4, off + p * 3, none⟩)) rfl rfl (by kernel_rfl) (by kernel_rfl) (by kernel_rfl) (fun _ _ _ h => h) (Or.inl ⟨by kernel_rfl, ?_⟩) b3 ?_
          · intro wq hq
            go_simp
          simp only [Act.put, List.setIfInBounds_toArray, List.set_cons_zero, List.set_cons_succ]
          refine takeH (i := 11) 26 (v := .pointer (some ⟨b4, off + p * 3, none⟩)) rfl rfl (by kernel_rfl) (by kernel_rfl) (by kernel_rfl) (fun _ _ _ h => h) (Or.inl ⟨by kernel_rfl, ?_⟩) b3 ?_
          · intro wq hq
            go_simp
          simp only [Act.put, List.setIfInBounds_toArray, List.set_cons_zero, List.set_cons_succ]
          refine takeH (i := 12) 27 (v := .slice pa i4 pc) rfl rfl (by kernel_rfl) (by kernel_rfl) (by kernel_rfl) (fun _ _ _ h => h) (Or.inl ⟨by kernel_rfl, ?_⟩) b3 ?_
          · intro wq hq
            have hh := HCP.out wq hq
            clear HC HCP
            go_simp
          simp only [Act.put, List.setIfInBounds_toArray, List.set_cons_zero, List.set_cons_succ]
          refine takeH (i := 13) 28 (v := .pointer (some ⟨wr.heap.size, 0, none⟩)) rfl rfl (by kernel_rfl) (by kernel_rfl) (by kernel_rfl) (fun _ _ _ h => h) (Or.inl ⟨by kernel_rfl, ?_⟩) b3 ?_
          · intro wq hq
            go_simp
          simp only [Act.put, List.setIfInBounds_toArray, List.set_cons_zero, List.set_cons_succ]
          refine takeH (i := 14) 29 (v := .slice xa i1 xc) rfl rfl (by kernel_rfl) (by kernel_rfl) (by kernel_rfl) (fun _ _ _ h => h) (Or.inl ⟨by kernel_rfl, ?_⟩) b3 ?_
          · intro wq hq
            have hh := HC.out wq hq
            clear HC HCP
            obtain ⟨q0, q1, q2⟩ := hh
            go_simp
          simp only [Act.put, List.setIfInBounds_toArray, List.set_cons_zero, List.set_cons_succ]
          refine wpAnyH_ready (rs := [15]) (by kernel_rfl) (by simp) ?_
          refine AllReadyH.cons rfl (fun K1 hK2 => ?_) AllReadyH.nil
          rw [if_pos (by kernel_rfl)]
          unfold Oper.wp
          go_simp
          go_wp2_with (go_at_call 47; refine (cC.out _ b3).mono ?_; rintro e w4 ⟨rfl, b4'⟩)
          refine hK2.out _ _ b4' (fun _ => ?_)
          simp only [List.setIfInBounds_toArray, List.set_cons_zero, List.set_cons_succ]
          refine takeH (i := 16) 31 (v := .bool (decide (0 ≤ cm))) rfl rfl (by kernel_rfl) (by kernel_rfl) (by kernel_rfl) (fun _ _ _ h => h) (Or.inl ⟨by kernel_rfl, ?_⟩) b4' ?_
          · intro wq hq
            go_simp
          simp only [Act.put, List.setIfInBounds_toArray, List.set_cons_zero, List.set_cons_succ]
          refine takeH (i := 17) 32 (v := .bool (decide (0 ≤ cm))) rfl rfl (by kernel_rfl) (by kernel_rfl) (by kernel_rfl) (fun _ _ _ h => h) (Or.inl ⟨by kernel_rfl, ?_⟩) b4' ?_
          · intro wq hq
            go_simp
          simp only [Act.put, List.setIfInBounds_toArray, List.set_cons_zero, List.set_cons_succ]
          refine takeH (i := 18) 33 (v := .bool (decide (0 ≤ cm))) rfl rfl (by kernel_rfl) (by kernel_rfl) (by kernel_rfl) (fun _ _ _ h => h) (Or.inl ⟨by kernel_rfl, ?_⟩) b4' ?_
          · intro wq hq
            go_simp
          simp only [Act.put, List.setIfInBounds_toArray, List.set_cons_zero, List.set_cons_succ]
          refine wpAnyH_done (by kernel_rfl) ?_ _
          rw [HQ.out]
          cases q with
          | true =>
            have HF := put_by (HF.out rfl)
            go_wp2
            go_ret
            rw [HF.out]
            exact ⟨rfl, H0.out.1.trans (b4'.mono H0.out.1.size)⟩
            trivial
          | false =>
            have HT := put_by (HT.out rfl)
            go_wp2
            go_roundw
            case rel => exact ⟨p + 1 + 1, by omega, by go_num, HT.out, H0.out.1.trans (b4'.mono H0.out.1.size)⟩
            case measure => simp [intOf]; omega
    · have HT : Hid (R = true) := HR.out.2 ⟨by rw [← HN.out]; omega, HB.out.1.all (by rw [← HN.out]; omega)⟩
      have HBB := put_by HB.out.2
      have ik : ¬ (k : Int) < (n : Int) := by omega
      clear HB
      go_wp2
      go_ret
      rw [HT.out]
      exact ⟨rfl, HBB.out⟩

end Go.Proofs.Ytjjdednlddnllaa
