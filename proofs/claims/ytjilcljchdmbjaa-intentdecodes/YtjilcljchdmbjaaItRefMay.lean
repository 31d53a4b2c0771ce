/- Which intents may be by the document: what the reference's IntentMay comes to. -/
import Derived.Test.YtjilcljchdmbjaaItMayI
import Derived.Test.YtjilcljchdmbjaaRtOrder
namespace Go.Proofs.Ytjilcljchdmbjaa
open Go.ChangeShapes Go.WideShapes Go.ChangeAt Go.RowKit

set_option maxRecDepth 100000 in
set_option maxHeartbeats 8000000 in
theorem IntentMay_any (ok : Nat → Prop) (c n s : Int) (rs : List Ent) (ws : List Wt) (ra : Option Addr) (rc : Nat) (wa : Option Addr) (wc : Nat) (w : World) (hI : ItIs ok w rs ws ra rc wa wc) (R : Bool) (hR : R = true ↔ MayI ⟨c, n, s, rs, ws⟩) :
    Calls Try.prog 18 #[.agg #[.int .i64 c, .int .i64 n, .int .i64 s, .slice ra rs.length rc, .slice wa ws.length wc]] w fun e w' => e = .returned (.bool R) ∧ Below w.heap.size w w' := by
  obtain ⟨nr, hnr⟩ : ∃ nr, nr = rs.length := ⟨_, rfl⟩
  obtain ⟨nw, hnw⟩ : ∃ nw, nw = ws.length := ⟨_, rfl⟩
  have h8 := hI.few
  rw [← hnr, ← hnw] at h8
  rw [← hnr, ← hnw]
  have HI := put_by hI
  have HR := put_by hR
  have HN := put_by (And.intro hnr hnw)
  obtain ⟨h81, h82⟩ := h8
  have HA := put_by ((Below.refl w.heap.size w).alloc (Nat.le_refl _) (.cells #[.int .i64 c, .int .i64 n, .int .i64 s, .slice ra nr rc, .slice wa nw wc] 26))
  have HK : Hid (∀ V, Below (w.alloc (.cells #[.int .i64 c, .int .i64 n, .int .i64 s, .slice ra nr rc, .slice wa nw wc] 26)).heap.size (w.alloc (.cells #[.int .i64 c, .int .i64 n, .int .i64 s, .slice ra nr rc, .slice wa nw wc] 26)) V → V.cell? ⟨w.heap.size, 4, none⟩ = some (.slice wa nw wc)) := fun V hV => (hV.cell (p := ⟨w.heap.size, 4, none⟩) (by simp)).trans (by simp)
  have HSZ : Hid (w.heap.size < (w.alloc (.cells #[.int .i64 c, .int .i64 n, .int .i64 s, .slice ra nr rc, .slice wa nw wc] 26)).heap.size) := put_by (by simp)
  clear hI hR hnr hnw
  by_cases a0 : c < 1
  · have HF : Hid (R = false) := of_not HR.out (fun h => by have h1 := h.client; simp only at h1; omega)
    go_enter Try.func18, Try.ntmps18
    go_wp2
    go_ret
    rw [HF.out]
    exact ⟨rfl, HA.out⟩
  by_cases a1 : 1048576 < c
  · have HF : Hid (R = false) := of_not HR.out (fun h => by have h1 := h.client; simp only at h1; omega)
    go_enter Try.func18, Try.ntmps18
    go_wp2
    go_ret
    rw [HF.out]
    exact ⟨rfl, HA.out⟩
  by_cases a2 : n < 1
  · have HF : Hid (R = false) := of_not HR.out (fun h => by have h1 := h.number; simp only at h1; omega)
    go_enter Try.func18, Try.ntmps18
    go_wp2
    go_ret
    rw [HF.out]
    exact ⟨rfl, HA.out⟩
  by_cases a3 : 1048576 < n
  · have HF : Hid (R = false) := of_not HR.out (fun h => by have h1 := h.number; simp only at h1; omega)
    go_enter Try.func18, Try.ntmps18
    go_wp2
    go_ret
    rw [HF.out]
    exact ⟨rfl, HA.out⟩
  by_cases a4 : s < 0
  · have HF : Hid (R = false) := of_not HR.out (fun h => by have h1 := h.base; simp only at h1; omega)
    go_enter Try.func18, Try.ntmps18
    go_wp2
    go_ret
    rw [HF.out]
    exact ⟨rfl, HA.out⟩
  by_cases a5 : 1048576 < s
  · have HF : Hid (R = false) := of_not HR.out (fun h => by have h1 := h.base; simp only at h1; omega)
    go_enter Try.func18, Try.ntmps18
    go_wp2
    go_ret
    rw [HF.out]
    exact ⟨rfl, HA.out⟩
  by_cases a6 : 400 < nr
  · have HF : Hid (R = false) := of_not HR.out (fun h => by have h1 := h.few.1; simp only at h1; have := HN.out; omega)
    go_enter Try.func18, Try.ntmps18
    go_wp2
    go_ret
    rw [HF.out]
    exact ⟨rfl, HA.out⟩
  by_cases a7 : 400 < nw
  · have HF : Hid (R = false) := of_not HR.out (fun h => by have h1 := h.few.2; simp only at h1; have := HN.out; omega)
    go_enter Try.func18, Try.ntmps18
    go_wp2
    go_ret
    rw [HF.out]
    exact ⟨rfl, HA.out⟩
  go_enter Try.func18, Try.ntmps18
  go_wp2
  generalize w.alloc (.cells #[.int .i64 c, .int .i64 n, .int .i64 s, .slice ra nr rc, .slice wa nw wc] 26) = W1 at HA HK HSZ ⊢
  go_loopw [48] (fun i wr => ∃ (k : Nat), k ≤ nr ∧ i = .int .i64 k ∧ Hid ((∀ r ∈ rs.take k, OkRd r) ∧ Below W1.heap.size W1 wr)) (fun i _ => nr - (intOf i).toNat)
  case atStart => exact ⟨0, Nat.zero_le _, rfl, by simp, Below.refl _ _⟩
  case round =>
    obtain ⟨k, hk, rfl, HB⟩ := hrel
    rename World => wr
    by_cases hlt : k < nr
    · have hx : k < rs.length := by rw [← HN.out.1]; exact hlt
      have HBW := put_by (HA.out.trans (HB.out.2.mono HA.out.size))
      obtain ⟨b4, off, rfl, hb, _, cs, ⟨u, v, rfl, hu, hw⟩, hc⟩ := HI.out.reads.at hx
      obtain ⟨xa, xc, rfl, hxo, -⟩ := id hu
      obtain ⟨ya, yc, rfl, hyo, -⟩ := id hw
      have d0 : wr.cell? ⟨b4, off + k * 2, none⟩ = some (.slice xa (rs[k]).1.length xc) := (HBW.out.cell (p := ⟨b4, off + k * 2, none⟩) hb).trans (by simpa using hc 0 _ rfl)
      have d1 : wr.cell? ⟨b4, off + k * 2 + 1, none⟩ = some (.slice ya (rs[k]).2.length yc) := (HBW.out.cell (p := ⟨b4, off + k * 2 + 1, none⟩) hb).trans (hc 1 _ rfl)
      have HS : Hid (OkRd rs[k] → ∀ r ∈ rs.take (k + 1), OkRd r) := fun h r hr => by
        rw [take_succ' hx] at hr
        rcases List.mem_append.1 hr with h1 | h1
        · exact HB.out.1 r h1
        · rw [List.mem_singleton.1 h1]; exact h
      have HNO : Hid (¬ OkRd rs[k] → R = false) := fun h => of_not HR.out (fun hp => h (hp.reads _ (List.getElem_mem hx)))
      have HBB := put_by HB.out.2
      have e1 : OkRd rs[k] ↔ (rs[k]).1.length ≤ 1201 ∧ (rs[k]).2.length ≤ 1201 := Iff.rfl
      have HE := put_by e1
      have ik : (k : Int) < (nr : Int) := by omega
      clear hc hu hw hxo hyo HB e1
      generalize (rs[k]).1.length = i1 at d0 HE
      generalize (rs[k]).2.length = i2 at d1 HE
      by_cases h1 : i1 ≤ 1201
      · by_cases h2 : i2 ≤ 1201
        · have HT := put_by (HS.out (HE.out.2 ⟨h1, h2⟩))
          go_wp2
          go_roundw
          case rel => exact ⟨k + 1, by omega, by go_num, HT.out, HBB.out.trans (((Below.refl _ wr).alloc (Nat.le_refl _) _).mono HBB.out.size)⟩
          case measure => simp [intOf]; omega
        · have HF := put_by (HNO.out (fun h => h2 (HE.out.1 h).2))
          go_wp2
          go_ret
          rw [HF.out]
          exact ⟨rfl, HBW.out.trans (((Below.refl _ wr).alloc (Nat.le_refl _) _).mono HBW.out.size)⟩
      · have HF := put_by (HNO.out (fun h => h1 (HE.out.1 h).1))
        go_wp2
        go_ret
        rw [HF.out]
        exact ⟨rfl, HBW.out.trans (((Below.refl _ wr).alloc (Nat.le_refl _) _).mono HBW.out.size)⟩
    · have HRD : Hid (∀ r ∈ rs, OkRd r) := by have h := HB.out.1; rwa [List.take_of_length_le (by rw [← HN.out.1]; omega)] at h
      have HBB := put_by HB.out.2
      have k4 := HK.out wr HBB.out
      have ik : ¬ (k : Int) < (nr : Int) := by omega
      clear HB
      go_wp2
      go_loopw [66] (fun i wr => ∃ (k : Nat), k ≤ nw ∧ i = .int .i64 k ∧ Hid (GoodW ws k ∧ Below W1.heap.size W1 wr)) (fun i _ => nw - (intOf i).toNat)
      case atStart => exact ⟨0, Nat.zero_le _, rfl, GoodW.zero ws, HBB.out⟩
      case round =>
        clear k4 ik hlt hk HBB
        obtain ⟨k, hk, rfl, HB⟩ := hrel
        rename World => wr
        by_cases hlt : k < nw
        · have hx : k < ws.length := by rw [← HN.out.2]; exact hlt
          have HBW := put_by (HA.out.trans (HB.out.2.mono HA.out.size))
          have HBB := put_by HB.out.2
          have k4 := HK.out wr HBB.out
          have HNO : Hid (¬ OkWt ws[k] → R = false) := fun h => of_not HR.out (fun hp => h (hp.writes _ (List.getElem_mem hx)))
          have HG := put_by HB.out.1
          obtain ⟨b4, off, rfl, hb, _, cs, ⟨u, v, rfl, hu, hw⟩, hc⟩ := HI.out.writes.at hx
          obtain ⟨xa, xc, rfl, hxo, -⟩ := id hu
          obtain ⟨ya, yc, rfl, hyo, -⟩ := id hw
          have hbr : b4 < wr.heap.size := Nat.lt_of_lt_of_le hb HBW.out.size
          have hbw : w.heap.size < wr.heap.size := Nat.lt_of_lt_of_le HSZ.out HBB.out.size
          have d0 : wr.cell? ⟨b4, off + k * 3, none⟩ = some (.slice xa (ws[k]).key.length xc) := (HBW.out.cell (p := ⟨b4, off + k * 3, none⟩) hb).trans (by simpa using hc 0 _ rfl)
          have d1 : wr.cell? ⟨b4, off + k * 3 + 1, none⟩ = some (.slice ya (ws[k]).val.length yc) := (HBW.out.cell (p := ⟨b4, off + k * 3 + 1, none⟩) hb).trans (hc 1 _ rfl)
          have d2 : wr.cell? ⟨b4, off + k * 3 + 2, none⟩ = some (.bool (ws[k]).gone) := (HBW.out.cell (p := ⟨b4, off + k * 3 + 2, none⟩) hb).trans (hc 2 _ rfl)
          have HX := put_by hxo
          have e1 : OkWt ws[k] ↔ (1 ≤ (ws[k]).key.length ∧ (ws[k]).key.length ≤ 1200 ∧ (ws[k]).val.length ≤ 4000 ∧ ((ws[k]).gone = true → (ws[k]).val.length = 0)) := by
            unfold OkWt
            rw [List.length_eq_zero_iff]
          have HE := put_by e1
          have ik : (k : Int) < (nw : Int) := by omega
          clear hc hu hw hxo hyo HB e1
          obtain ⟨i1, e1⟩ : ∃ i1, i1 = (ws[k]).key.length := ⟨_, rfl⟩
          obtain ⟨i2, e2⟩ : ∃ i2, i2 = (ws[k]).val.length := ⟨_, rfl⟩
          obtain ⟨g, e3⟩ : ∃ g, g = (ws[k]).gone := ⟨_, rfl⟩
          have HJ := put_by e1
          rw [← e1, ← e2, ← e3] at HE
          rw [← e1] at d0
          rw [← e2] at d1
          rw [← e3] at d2
          clear e1 e2 e3
          have HBA := put_by ((Below.refl wr.heap.size wr).alloc (Nat.le_refl _) (.cells #[.slice xa i1 xc, .slice ya i2 yc, .bool g] 43))
          by_cases g1 : i1 = 0
          · have HF := put_by (HNO.out (fun h => by have := (HE.out.1 h).1; omega))
            subst g1
            go_wp2
            go_ret
            rw [HF.out]
            exact ⟨rfl, HBW.out.trans (HBA.out.mono HBW.out.size)⟩
          have g1b : ((i1 : Int) == 0) = false := by simpa using g1
          by_cases g2 : 1200 < i1
          · have HF := put_by (HNO.out (fun h => by have := (HE.out.1 h).2.1; omega))
            go_wp2
            go_ret
            rw [HF.out]
            exact ⟨rfl, HBW.out.trans (HBA.out.mono HBW.out.size)⟩
          by_cases g3 : 4000 < i2
          · have HF := put_by (HNO.out (fun h => by have := (HE.out.1 h).2.2.1; omega))
            go_wp2
            go_ret
            rw [HF.out]
            exact ⟨rfl, HBW.out.trans (HBA.out.mono HBW.out.size)⟩
          by_cases g4 : g = true ∧ ¬ i2 = 0
          · have HF := put_by (HNO.out (fun h => g4.2 ((HE.out.1 h).2.2.2 g4.1)))
            obtain ⟨rfl, g5⟩ := g4
            have g6 : ((i2 : Int) != 0) = true := by simpa using g5
            go_wp2
            go_ret
            rw [HF.out]
            exact ⟨rfl, HBW.out.trans (HBA.out.mono HBW.out.size)⟩
          have HO : Hid (OkWt ws[k]) := HE.out.2 ⟨by omega, by omega, by omega, fun h => Classical.byContradiction fun h2 => g4 ⟨h, h2⟩⟩
          have hg4 : g = false ∨ (g = true ∧ i2 = 0) := by
            cases g with
            | false => exact .inl rfl
            | true => exact .inr ⟨rfl, Classical.byContradiction fun h2 => g4 ⟨rfl, h2⟩⟩
          clear g4
          rcases hg4 with rfl | ⟨rfl, rfl⟩
          · have HC0 : Hid (∀ W0, W0 = wr.alloc (.cells #[.slice xa i1 xc, .slice ya i2 yc, .bool false] 43) → Below wr.heap.size wr W0 ∧ wr.heap.size < W0.heap.size ∧ W0.cell? ⟨wr.heap.size, 0, none⟩ = some (.slice xa i1 xc)) := fun W0 e => by
              rw [e]
              exact ⟨HBA.out, by simp, by simp⟩
            cases k with
            | zero =>
              rw [Nat.zero_mul, Nat.add_zero] at d0 d1 d2
              have HT : Hid (GoodW ws 1) := HG.out.step hx HO.out (fun p hp => by omega)
              clear HE HNO HX HJ HG
              go_upto_region 16 with (fail)
              obtain ⟨W0, hW0⟩ : ∃ W0, W0 = wr.alloc (.cells #[.slice xa i1 xc, .slice ya i2 yc, .bool false] 43) := ⟨_, rfl⟩
              rw [← hW0]
              have H0 := put_by (HC0.out W0 hW0)
              clear hW0 HC0
              have bx : Below W0.heap.size W0 W0.drew := (Below.refl _ _).drew
              refine wp_region_held (S := fun W => Below W0.heap.size W0 W) (by kernel_rfl) ?_
              change wpAnyH _ _ _ _ _ 15 #[false, false, false, false, false, false, false, false, false, false, false, false, false, false, false] _ W0.drew
              refine takeH (i := 0) 97 (v := .int .i64 0) rfl rfl (by kernel_rfl) (by kernel_rfl) (by kernel_rfl) (fun _ _ _ h => h) (Or.inl ⟨by kernel_rfl, ?_⟩) bx ?_
              · intro wq hq
                go_simp
              simp only [Act.put, List.setIfInBounds_toArray, List.set_cons_zero]
              refine takeH (i := 1) 98 (v := .bool false) rfl rfl (by kernel_rfl) (by kernel_rfl) (by kernel_rfl) (fun _ _ _ h => h) (Or.inl ⟨by kernel_rfl, ?_⟩) bx ?_
              · intro wq hq
                go_simp
              simp only [Act.put, List.setIfInBounds_toArray, List.set_cons_zero, List.set_cons_succ]
              refine takeH (i := 2) 99 (v := .bool false) rfl rfl (by kernel_rfl) (by kernel_rfl) (by kernel_rfl) (fun _ _ _ h => h) (Or.inl ⟨by kernel_rfl, ?_⟩) bx ?_
              · intro wq hq
                go_simp
              simp only [Act.put, List.setIfInBounds_toArray, List.set_cons_zero, List.set_cons_succ]
              refine takeH (i := 3) 100 (v := undef) rfl rfl (by kernel_rfl) (by kernel_rfl) (by kernel_rfl) (fun _ _ _ h => h) (Or.inr ⟨by kernel_rfl, rfl⟩) bx ?_
              simp only [Act.put, List.setIfInBounds_toArray, List.set_cons_zero, List.set_cons_succ]
              refine takeH (i := 4) 101 (v := undef) rfl rfl (by kernel_rfl) (by kernel_rfl) (by kernel_rfl) (fun _ _ _ h => h) (Or.inr ⟨by kernel_rfl, rfl⟩) bx ?_
              simp only [Act.put, List.setIfInBounds_toArray, List.set_cons_zero, List.set_cons_succ]
              refine takeH (i := 5) 102 (v := undef) rfl rfl (by kernel_rfl) (by kernel_rfl) (by kernel_rfl) (fun _ _ _ h => h) (Or.inr ⟨by kernel_rfl, rfl⟩) bx ?_
              simp only [Act.put, List.setIfInBounds_toArray, List.set_cons_zero, List.set_cons_succ]
              refine takeH (i := 6) 103 (v := undef) rfl rfl (by kernel_rfl) (by kernel_rfl) (by kernel_rfl) (fun _ _ _ h => h) (Or.inr ⟨by kernel_rfl, rfl⟩) bx ?_
              simp only [Act.put, List.setIfInBounds_toArray, List.set_cons_zero, List.set_cons_succ]
              refine takeH (i := 7) 104 (v := undef) rfl rfl (by kernel_rfl) (by kernel_rfl) (by kernel_rfl) (fun _ _ _ h => h) (Or.inr ⟨by kernel_rfl, rfl⟩) bx ?_
              simp only [Act.put, List.setIfInBounds_toArray, List.set_cons_zero, List.set_cons_succ]
              refine takeH (i := 8) 105 (v := undef) rfl rfl (by kernel_rfl) (by kernel_rfl) (by kernel_rfl) (fun _ _ _ h => h) (Or.inr ⟨by kernel_rfl, rfl⟩) bx ?_
              simp only [Act.put, List.setIfInBounds_toArray, List.set_cons_zero, List.set_cons_succ]
              refine takeH (i := 9) 106 (v := undef) rfl rfl (by kernel_rfl) (by kernel_rfl) (by kernel_rfl) (fun _ _ _ h => h) (Or.inr ⟨by kernel_rfl, rfl⟩) bx ?_
              simp only [Act.put, List.setIfInBounds_toArray, List.set_cons_zero, List.set_cons_succ]
              refine takeH (i := 10) 107 (v := undef) rfl rfl (by kernel_rfl) (by kernel_rfl) (by kernel_rfl) (fun _ _ _ h => h) (Or.inr ⟨by kernel_rfl, rfl⟩) bx ?_
              simp only [Act.put, List.setIfInBounds_toArray, List.set_cons_zero, List.set_cons_succ]
              refine takeH (i := 11) 108 (v := undef) rfl rfl (by kernel_rfl) (by kernel_rfl) (by kernel_rfl) (fun _ _ _ h => h) (Or.inr ⟨by kernel_rfl, rfl⟩) bx ?_
              simp only [Act.put, List.setIfInBounds_toArray, List.set_cons_zero, List.set_cons_succ]
              refine takeH (i := 12) 109 (v := undef) rfl rfl (by kernel_rfl) (by kernel_rfl) (by kernel_rfl) (fun _ _ _ h => h) (Or.inr ⟨by kernel_rfl, rfl⟩) bx ?_
              simp only [Act.put, List.setIfInBounds_toArray, List.set_cons_zero, List.set_cons_succ]
              refine takeH (i := 13) 110 (v := undef) rfl rfl (by kernel_rfl) (by kernel_rfl) (by kernel_rfl) (fun _ _ _ h => h) (Or.inr ⟨by kernel_rfl, rfl⟩) bx ?_
              simp only [Act.put, List.setIfInBounds_toArray, List.set_cons_zero, List.set_cons_succ]
              refine takeH (i := 14) 111 (v := .bool false) rfl rfl (by kernel_rfl) (by kernel_rfl) (by kernel_rfl) (fun _ _ _ h => h) (Or.inl ⟨by kernel_rfl, ?_⟩) bx ?_
              · intro wq hq
                go_simp
              simp only [Act.put, List.setIfInBounds_toArray, List.set_cons_zero, List.set_cons_succ]
              refine wpAnyH_done (by kernel_rfl) ?_ _
              go_wp2
              go_roundw
              case rel => exact ⟨1, by omega, by go_num, HT.out, HBB.out.trans ((H0.out.1.trans (bx.mono H0.out.1.size)).mono HBB.out.size)⟩
              case measure => simp [intOf]; omega
            | succ p =>
              have hp : p < ws.length := by omega
              obtain ⟨b4', off', e4, hb', _, cs, ⟨u, v, rfl, hu, hw⟩, hc⟩ := HI.out.writes.at hp
              simp only [Option.some.injEq, Addr.mk.injEq, and_true] at e4
              obtain ⟨rfl, rfl⟩ := e4
              obtain ⟨pa, pc, rfl, hpo, -⟩ := id hu
              have d4 : wr.cell? ⟨b4, off + p * 3, none⟩ = some (.slice pa (ws[p]).key.length pc) := (HBW.out.cell (p := ⟨b4, off + p * 3, none⟩) hb').trans (by simpa using hc 0 _ rfl)
              obtain ⟨q, hq⟩ : ∃ q, q = ahead (ws[p]).key (ws[p + 1]).key := ⟨_, rfl⟩
              have HT : Hid (q = true → GoodW ws (p + 1 + 1)) := fun h => HG.out.step hx HO.out (fun p' hp' hl => by
                obtain rfl : p' = p := by omega
                rw [← hq]
                exact h)
              have HF : Hid (q = false → R = false) := fun h => of_not HR.out (fun hp' => by
                have h1 := ascW_next hp'.asc hx
                rw [← hq, h] at h1
                cases h1)
              have cC : Hid (∀ V, Below wr.heap.size wr V → Calls Try.prog 38 #[.slice pa (ws[p]).key.length pc, .slice xa i1 xc] V fun e w' => e = .returned (.bool q) ∧ Below V.heap.size V w') := fun V hV => by
                have h := bytesLess_any pa xa pc xc (ws[p]).key (ws[p + 1]).key V ((hpo.later HBW.out).later hV) ((HX.out.later HBW.out).later hV)
                rwa [← HJ.out, ← hq] at h
              clear hc hu hw hpo
              obtain ⟨i4, e4⟩ : ∃ i4, i4 = (ws[p]).key.length := ⟨_, rfl⟩
              rw [← e4] at d4 cC
              clear e4 hq
              have ip : IntKind.i64.wrap (p : Int) = (p : Int) := by rw [IntKind.wrap_i64]; omega
              have im : (p : Int) < (nw : Int) := by omega
              clear HE HNO HX HJ HG
              go_upto_region 16 with (fail)
              obtain ⟨W0, hW0⟩ : ∃ W0, W0 = wr.alloc (.cells #[.slice xa i1 xc, .slice ya i2 yc, .bool false] 43) := ⟨_, rfl⟩
              rw [← hW0]
              have H0 := put_by (HC0.out W0 hW0)
              clear hW0 HC0
              have bx : Below W0.heap.size W0 W0.drew := (Below.refl _ _).drew
              replace cC : Hid (∀ V, Below W0.heap.size W0 V → Calls Try.prog 38 #[.slice pa i4 pc, .slice xa i1 xc] V fun e w' => e = .returned (.bool q) ∧ Below W0.heap.size W0 w') := fun V hV => (cC.out V (H0.out.1.trans (hV.mono H0.out.1.size))).mono (fun e w' h => ⟨h.1, hV.trans (h.2.mono hV.size)⟩)
              have HC : Hid (∀ wq, Below W0.heap.size W0 wq → wq.cell? ⟨w.heap.size, 4, none⟩ = some (.slice (some ⟨b4, off, none⟩) nw wc) ∧ wq.cell? ⟨b4, off + p * 3, none⟩ = some (.slice pa i4 pc) ∧ wq.cell? ⟨wr.heap.size, 0, none⟩ = some (.slice xa i1 xc)) := fun wq hq => ⟨((H0.out.1.trans (hq.mono H0.out.1.size)).cell (p := ⟨w.heap.size, 4, none⟩) hbw).trans k4, ((H0.out.1.trans (hq.mono H0.out.1.size)).cell (p := ⟨b4, off + p * 3, none⟩) hbr).trans d4, (hq.cell (p := ⟨wr.heap.size, 0, none⟩) H0.out.2.1).trans H0.out.2.2⟩
              clear d0 d1 d2 d4 k4
              refine wp_region_held (S := fun W => Below W0.heap.size W0 W) (by kernel_rfl) ?_
              change wpAnyH _ _ _ _ _ 15 #[false, false, false, false, false, false, false, false, false, false, false, false, false, false, false] _ W0.drew
              refine takeH (i := 0) 97 (v := .int .i64 ((p : Int) + 1)) rfl rfl (by kernel_rfl) (by kernel_rfl) (by kernel_rfl) (fun _ _ _ h => h) (Or.inl ⟨by kernel_rfl, ?_⟩) bx ?_
              · intro wq hq
                go_simp
              simp only [Act.put, List.setIfInBounds_toArray, List.set_cons_zero]
              refine takeH (i := 1) 98 (v := .bool true) rfl rfl (by kernel_rfl) (by kernel_rfl) (by kernel_rfl) (fun _ _ _ h => h) (Or.inl ⟨by kernel_rfl, ?_⟩) bx ?_
              · intro wq hq
                go_simp
              simp only [Act.put, List.setIfInBounds_toArray, List.set_cons_zero, List.set_cons_succ]
              refine takeH (i := 2) 99 (v := .bool true) rfl rfl (by kernel_rfl) (by kernel_rfl) (by kernel_rfl) (fun _ _ _ h => h) (Or.inl ⟨by kernel_rfl, ?_⟩) bx ?_
              · intro wq hq
                go_simp
              simp only [Act.put, List.setIfInBounds_toArray, List.set_cons_zero, List.set_cons_succ]
              refine takeH (i := 3) 100 (v := .pointer (some ⟨w.heap.size, 4, none⟩)) rfl rfl (by kernel_rfl) (by kernel_rfl) (by kernel_rfl) (fun _ _ _ h => h) (Or.inl ⟨by kernel_rfl, ?_⟩) bx ?_
              · intro wq hq
                go_simp
              simp only [Act.put, List.setIfInBounds_toArray, List.set_cons_zero, List.set_cons_succ]
              refine takeH (i := 4) 101 (v := .slice (some ⟨b4, off, none⟩) nw wc) rfl rfl (by kernel_rfl) (by kernel_rfl) (by kernel_rfl) (fun _ _ _ h => h) (Or.inl ⟨by kernel_rfl, ?_⟩) bx ?_
              · intro wq hq
                have hh := HC.out wq hq
                clear HC
                obtain ⟨q0, q1, q2⟩ := hh
                go_simp
              simp only [Act.put, List.setIfInBounds_toArray, List.set_cons_zero, List.set_cons_succ]
              refine takeH (i := 5) 102 (v := .int .i64 ((p : Int) + 1)) rfl rfl (by kernel_rfl) (by kernel_rfl) (by kernel_rfl) (fun _ _ _ h => h) (Or.inl ⟨by kernel_rfl, ?_⟩) bx ?_
              · intro wq hq
                go_simp
              simp only [Act.put, List.setIfInBounds_toArray, List.set_cons_zero, List.set_cons_succ]
              refine takeH (i := 6) 103 (v := .int .i64 (p : Int)) rfl rfl (by kernel_rfl) (by kernel_rfl) (by kernel_rfl) (fun _ _ _ h => h) (Or.inl ⟨by kernel_rfl, ?_⟩) bx ?_
              · intro wq hq
                go_simp
              simp only [Act.put, List.setIfInBounds_toArray, List.set_cons_zero, List.set_cons_succ]
              refine takeH (i := 7) 104 (v := .pointer (some ⟨b4, off + p * 3, none⟩)) rfl rfl (by kernel_rfl) (by kernel_rfl) (by kernel_rfl) (fun _ _ _ h => h) (Or.inl ⟨by kernel_rfl, ?_⟩) bx ?_
              · intro wq hq
                go_simp
              simp only [Act.put, List.setIfInBounds_toArray, List.set_cons_zero, List.set_cons_succ]
              refine takeH (i := 8) 105 (v := .pointer (some ⟨b4, off + p * 3, none⟩)) rfl rfl (by kernel_rfl) (by kernel_rfl) (by kernel_rfl) (fun _ _ _ h => h) (Or.inl ⟨by kernel_rfl, ?_⟩) bx ?_
              · intro wq hq
                go_simp
              simp only [Act.put, List.setIfInBounds_toArray, List.set_cons_zero, List.set_cons_succ]
              refine takeH (i := 9) 106 (v := .slice pa i4 pc) rfl rfl (by kernel_rfl) (by kernel_rfl) (by kernel_rfl) (fun _ _ _ h => h) (Or.inl ⟨by kernel_rfl, ?_⟩) bx ?_
              · intro wq hq
                have hh := HC.out wq hq
                clear HC
                obtain ⟨q0, q1, q2⟩ := hh
                go_simp
              simp only [Act.put, List.setIfInBounds_toArray, List.set_cons_zero, List.set_cons_succ]
              refine takeH (i := 10) 107 (v := .pointer (some ⟨wr.heap.size, 0, none⟩)) rfl rfl (by kernel_rfl) (by kernel_rfl) (by kernel_rfl) (fun _ _ _ h => h) (Or.inl ⟨by kernel_rfl, ?_⟩) bx ?_
              · intro wq hq
                go_simp
              simp only [Act.put, List.setIfInBounds_toArray, List.set_cons_zero, List.set_cons_succ]
              refine takeH (i := 11) 108 (v := .slice xa i1 xc) rfl rfl (by kernel_rfl) (by kernel_rfl) (by kernel_rfl) (fun _ _ _ h => h) (Or.inl ⟨by kernel_rfl, ?_⟩) bx ?_
              · intro wq hq
                have hh := HC.out wq hq
                clear HC
                obtain ⟨q0, q1, q2⟩ := hh
                go_simp
              simp only [Act.put, List.setIfInBounds_toArray, List.set_cons_zero, List.set_cons_succ]
              refine wpAnyH_ready (rs := [12]) (by kernel_rfl) (by simp) ?_
              refine AllReadyH.cons rfl (fun K1 hK1 => ?_) AllReadyH.nil
              rw [if_pos (by kernel_rfl)]
              unfold Oper.wp
              go_simp
              go_wp2_with (go_at_call 38; refine (cC.out _ bx).mono ?_; rintro e w4 ⟨rfl, b3⟩)
              refine hK1.out _ _ b3 (fun _ => ?_)
              simp only [List.setIfInBounds_toArray, List.set_cons_zero, List.set_cons_succ]
              refine takeH (i := 13) 110 (v := .bool (!q)) rfl rfl (by kernel_rfl) (by kernel_rfl) (by kernel_rfl) (fun _ _ _ h => h) (Or.inl ⟨by kernel_rfl, ?_⟩) b3 ?_
              · intro wq hq
                go_simp
              simp only [Act.put, List.setIfInBounds_toArray, List.set_cons_zero, List.set_cons_succ]
              refine takeH (i := 14) 111 (v := .bool (!q)) rfl rfl (by kernel_rfl) (by kernel_rfl) (by kernel_rfl) (fun _ _ _ h => h) (Or.inl ⟨by kernel_rfl, ?_⟩) b3 ?_
              · intro wq hq
                go_simp
              simp only [Act.put, List.setIfInBounds_toArray, List.set_cons_zero, List.set_cons_succ]
              refine wpAnyH_done (by kernel_rfl) ?_ _
              cases q with
              | false =>
                have HF := put_by (HF.out rfl)
                go_wp2
                go_ret
                rw [HF.out]
                exact ⟨rfl, HBW.out.trans ((H0.out.1.trans (b3.mono H0.out.1.size)).mono HBW.out.size)⟩
                trivial
              | true =>
                have HT := put_by (HT.out rfl)
                go_wp2
                go_roundw
                case rel => exact ⟨p + 1 + 1, by omega, by go_num, HT.out, HBB.out.trans ((H0.out.1.trans (b3.mono H0.out.1.size)).mono HBB.out.size)⟩
                case measure => simp [intOf]; omega
          · have HC0 : Hid (∀ W0, W0 = wr.alloc (.cells #[.slice xa i1 xc, .slice ya 0 yc, .bool true] 43) → Below wr.heap.size wr W0 ∧ wr.heap.size < W0.heap.size ∧ W0.cell? ⟨wr.heap.size, 0, none⟩ = some (.slice xa i1 xc)) := fun W0 e => by
              rw [e]
              exact ⟨HBA.out, by simp, by simp⟩
            cases k with
            | zero =>
              rw [Nat.zero_mul, Nat.add_zero] at d0 d1 d2
              have HT : Hid (GoodW ws 1) := HG.out.step hx HO.out (fun p hp => by omega)
              clear HE HNO HX HJ HG
              go_upto_region 16 with (fail)
              obtain ⟨W0, hW0⟩ : ∃ W0, W0 = wr.alloc (.cells #[.slice xa i1 xc, .slice ya 0 yc, .bool true] 43) := ⟨_, rfl⟩
              rw [← hW0]
              have H0 := put_by (HC0.out W0 hW0)
              clear hW0 HC0
              have bx : Below W0.heap.size W0 W0.drew := (Below.refl _ _).drew
              refine wp_region_held (S := fun W => Below W0.heap.size W0 W) (by kernel_rfl) ?_
              change wpAnyH _ _ _ _ _ 15 #[false, false, false, false, false, false, false, false, false, false, false, false, false, false, false] _ W0.drew
              refine takeH (i := 0) 97 (v := .int .i64 0) rfl rfl (by kernel_rfl) (by kernel_rfl) (by kernel_rfl) (fun _ _ _ h => h) (Or.inl ⟨by kernel_rfl, ?_⟩) bx ?_
              · intro wq hq
                go_simp
              simp only [Act.put, List.setIfInBounds_toArray, List.set_cons_zero]
              refine takeH (i := 1) 98 (v := .bool false) rfl rfl (by kernel_rfl) (by kernel_rfl) (by kernel_rfl) (fun _ _ _ h => h) (Or.inl ⟨by kernel_rfl, ?_⟩) bx ?_
              · intro wq hq
                go_simp
              simp only [Act.put, List.setIfInBounds_toArray, List.set_cons_zero, List.set_cons_succ]
              refine takeH (i := 2) 99 (v := .bool false) rfl rfl (by kernel_rfl) (by kernel_rfl) (by kernel_rfl) (fun _ _ _ h => h) (Or.inl ⟨by kernel_rfl, ?_⟩) bx ?_
              · intro wq hq
                go_simp
              simp only [Act.put, List.setIfInBounds_toArray, List.set_cons_zero, List.set_cons_succ]
              refine takeH (i := 3) 100 (v := undef) rfl rfl (by kernel_rfl) (by kernel_rfl) (by kernel_rfl) (fun _ _ _ h => h) (Or.inr ⟨by kernel_rfl, rfl⟩) bx ?_
              simp only [Act.put, List.setIfInBounds_toArray, List.set_cons_zero, List.set_cons_succ]
              refine takeH (i := 4) 101 (v := undef) rfl rfl (by kernel_rfl) (by kernel_rfl) (by kernel_rfl) (fun _ _ _ h => h) (Or.inr ⟨by kernel_rfl, rfl⟩) bx ?_
              simp only [Act.put, List.setIfInBounds_toArray, List.set_cons_zero, List.set_cons_succ]
              refine takeH (i := 5) 102 (v := undef) rfl rfl (by kernel_rfl) (by kernel_rfl) (by kernel_rfl) (fun _ _ _ h => h) (Or.inr ⟨by kernel_rfl, rfl⟩) bx ?_
              simp only [Act.put, List.setIfInBounds_toArray, List.set_cons_zero, List.set_cons_succ]
              refine takeH (i := 6) 103 (v := undef) rfl rfl (by kernel_rfl) (by kernel_rfl) (by kernel_rfl) (fun _ _ _ h => h) (Or.inr ⟨by kernel_rfl, rfl⟩) bx ?_
              simp only [Act.put, List.setIfInBounds_toArray, List.set_cons_zero, List.set_cons_succ]
              refine takeH (i := 7) 104 (v := undef) rfl rfl (by kernel_rfl) (by kernel_rfl) (by kernel_rfl) (fun _ _ _ h => h) (Or.inr ⟨by kernel_rfl, rfl⟩) bx ?_
              simp only [Act.put, List.setIfInBounds_toArray, List.set_cons_zero, List.set_cons_succ]
              refine takeH (i := 8) 105 (v := undef) rfl rfl (by kernel_rfl) (by kernel_rfl) (by kernel_rfl) (fun _ _ _ h => h) (Or.inr ⟨by kernel_rfl, rfl⟩) bx ?_
              simp only [Act.put, List.setIfInBounds_toArray, List.set_cons_zero, List.set_cons_succ]
              refine takeH (i := 9) 106 (v := undef) rfl rfl (by kernel_rfl) (by kernel_rfl) (by kernel_rfl) (fun _ _ _ h => h) (Or.inr ⟨by kernel_rfl, rfl⟩) bx ?_
              simp only [Act.put, List.setIfInBounds_toArray, List.set_cons_zero, List.set_cons_succ]
              refine takeH (i := 10) 107 (v := undef) rfl rfl (by kernel_rfl) (by kernel_rfl) (by kernel_rfl) (fun _ _ _ h => h) (Or.inr ⟨by kernel_rfl, rfl⟩) bx ?_
              simp only [Act.put, List.setIfInBounds_toArray, List.set_cons_zero, List.set_cons_succ]
              refine takeH (i := 11) 108 (v := undef) rfl rfl (by kernel_rfl) (by kernel_rfl) (by kernel_rfl) (fun _ _ _ h => h) (Or.inr ⟨by kernel_rfl, rfl⟩) bx ?_
              simp only [Act.put, List.setIfInBounds_toArray, List.set_cons_zero, List.set_cons_succ]
              refine takeH (i := 12) 109 (v := undef) rfl rfl (by kernel_rfl) (by kernel_rfl) (by kernel_rfl) (fun _ _ _ h => h) (Or.inr ⟨by kernel_rfl, rfl⟩) bx ?_
              simp only [Act.put, List.setIfInBounds_toArray, List.set_cons_zero, List.set_cons_succ]
              refine takeH (i := 13) 110 (v := undef) rfl rfl (by kernel_rfl) (by kernel_rfl) (by kernel_rfl) (fun _ _ _ h => h) (Or.inr ⟨by kernel_rfl, rfl⟩) bx ?_
              simp only [Act.put, List.setIfInBounds_toArray, List.set_cons_zero, List.set_cons_succ]
              refine takeH (i := 14) 111 (v := .bool false) rfl rfl (by kernel_rfl) (by kernel_rfl) (by kernel_rfl) (fun _ _ _ h => h) (Or.inl ⟨by kernel_rfl, ?_⟩) bx ?_
              · intro wq hq
                go_simp
              simp only [Act.put, List.setIfInBounds_toArray, List.set_cons_zero, List.set_cons_succ]
              refine wpAnyH_done (by kernel_rfl) ?_ _
              go_wp2
              go_roundw
              case rel => exact ⟨1, by omega, by go_num, HT.out, HBB.out.trans ((H0.out.1.trans (bx.mono H0.out.1.size)).mono HBB.out.size)⟩
              case measure => simp [intOf]; omega
            | succ p =>
              have hp : p < ws.length := by omega
              obtain ⟨b4', off', e4, hb', _, cs, ⟨u, v, rfl, hu, hw⟩, hc⟩ := HI.out.writes.at hp
              simp only [Option.some.injEq, Addr.mk.injEq, and_true] at e4
              obtain ⟨rfl, rfl⟩ := e4
              obtain ⟨pa, pc, rfl, hpo, -⟩ := id hu
              have d4 : wr.cell? ⟨b4, off + p * 3, none⟩ = some (.slice pa (ws[p]).key.length pc) := (HBW.out.cell (p := ⟨b4, off + p * 3, none⟩) hb').trans (by simpa using hc 0 _ rfl)
              obtain ⟨q, hq⟩ : ∃ q, q = ahead (ws[p]).key (ws[p + 1]).key := ⟨_, rfl⟩
              have HT : Hid (q = true → GoodW ws (p + 1 + 1)) := fun h => HG.out.step hx HO.out (fun p' hp' hl => by
                obtain rfl : p' = p := by omega
                rw [← hq]
                exact h)
              have HF : Hid (q = false → R = false) := fun h => of_not HR.out (fun hp' => by
                have h1 := ascW_next hp'.asc hx
                rw [← hq, h] at h1
                cases h1)
              have cC : Hid (∀ V, Below wr.heap.size wr V → Calls Try.prog 38 #[.slice pa (ws[p]).key.length pc, .slice xa i1 xc] V fun e w' => e = .returned (.bool q) ∧ Below V.heap.size V w') := fun V hV => by
                have h := bytesLess_any pa xa pc xc (ws[p]).key (ws[p + 1]).key V ((hpo.later HBW.out).later hV) ((HX.out.later HBW.out).later hV)
                rwa [← HJ.out, ← hq] at h
              clear hc hu hw hpo
              obtain ⟨i4, e4⟩ : ∃ i4, i4 = (ws[p]).key.length := ⟨_, rfl⟩
              rw [← e4] at d4 cC
              clear e4 hq
              have ip : IntKind.i64.wrap (p : Int) = (p : Int) := by rw [IntKind.wrap_i64]; omega
              have im : (p : Int) < (nw : Int) := by omega
              clear HE HNO HX HJ HG
              go_upto_region 16 with (fail)
              obtain ⟨W0, hW0⟩ : ∃ W0, W0 = wr.alloc (.cells #[.slice xa i1 xc, .slice ya 0 yc, .bool true] 43) := ⟨_, rfl⟩
              rw [← hW0]
              have H0 := put_by (HC0.out W0 hW0)
              clear hW0 HC0
              have bx : Below W0.heap.size W0 W0.drew := (Below.refl _ _).drew
              replace cC : Hid (∀ V, Below W0.heap.size W0 V → Calls Try.prog 38 #[.slice pa i4 pc, .slice xa i1 xc] V fun e w' => e = .returned (.bool q) ∧ Below W0.heap.size W0 w') := fun V hV => (cC.out V (H0.out.1.trans (hV.mono H0.out.1.size))).mono (fun e w' h => ⟨h.1, hV.trans (h.2.mono hV.size)⟩)
              have HC : Hid (∀ wq, Below W0.heap.size W0 wq → wq.cell? ⟨w.heap.size, 4, none⟩ = some (.slice (some ⟨b4, off, none⟩) nw wc) ∧ wq.cell? ⟨b4, off + p * 3, none⟩ = some (.slice pa i4 pc) ∧ wq.cell? ⟨wr.heap.size, 0, none⟩ = some (.slice xa i1 xc)) := fun wq hq => ⟨((H0.out.1.trans (hq.mono H0.out.1.size)).cell (p := ⟨w.heap.size, 4, none⟩) hbw).trans k4, ((H0.out.1.trans (hq.mono H0.out.1.size)).cell (p := ⟨b4, off + p * 3, none⟩) hbr).trans d4, (hq.cell (p := ⟨wr.heap.size, 0, none⟩) H0.out.2.1).trans H0.out.2.2⟩
              clear d0 d1 d2 d4 k4
              refine wp_region_held (S := fun W => Below W0.heap.size W0 W) (by kernel_rfl) ?_
              change wpAnyH _ _ _ _ _ 15 #[false, false, false, false, false, false, false, false, false, false, false, false, false, false, false] _ W0.drew
              refine takeH (i := 0) 97 (v := .int .i64 ((p : Int) + 1)) rfl rfl (by kernel_rfl) (by kernel_rfl) (by kernel_rfl) (fun _ _ _ h => h) (Or.inl ⟨by kernel_rfl, ?_⟩) bx ?_
              · intro wq hq
                go_simp
              simp only [Act.put, List.setIfInBounds_toArray, List.set_cons_zero]
              refine takeH (i := 1) 98 (v := .bool true) rfl rfl (by kernel_rfl) (by kernel_rfl) (by kernel_rfl) (fun _ _ _ h => h) (Or.inl ⟨by kernel_rfl, ?_⟩) bx ?_
              · intro wq hq
                go_simp
              simp only [Act.put, List.setIfInBounds_toArray, List.set_cons_zero, List.set_cons_succ]
              refine takeH (i := 2) 99 (v := .bool true) rfl rfl (by kernel_rfl) (by kernel_rfl) (by kernel_rfl) (fun _ _ _ h => h) (Or.inl ⟨by kernel_rfl, ?_⟩) bx ?_
              · intro wq hq
                go_simp
              simp only [Act.put, List.setIfInBounds_toArray, List.set_cons_zero, List.set_cons_succ]
              refine takeH (i := 3) 100 (v := .pointer (some ⟨w.heap.size, 4, none⟩)) rfl rfl (by kernel_rfl) (by kernel_rfl) (by kernel_rfl) (fun _ _ _ h => h) (Or.inl ⟨by kernel_rfl, ?_⟩) bx ?_
              · intro wq hq
                go_simp
              simp only [Act.put, List.setIfInBounds_toArray, List.set_cons_zero, List.set_cons_succ]
              refine takeH (i := 4) 101 (v := .slice (some ⟨b4, off, none⟩) nw wc) rfl rfl (by kernel_rfl) (by kernel_rfl) (by kernel_rfl) (fun _ _ _ h => h) (Or.inl ⟨by kernel_rfl, ?_⟩) bx ?_
              · intro wq hq
                have hh := HC.out wq hq
                clear HC
                obtain ⟨q0, q1, q2⟩ := hh
                go_simp
              simp only [Act.put, List.setIfInBounds_toArray, List.set_cons_zero, List.set_cons_succ]
              refine takeH (i := 5) 102 (v := .int .i64 ((p : Int) + 1)) rfl rfl (by kernel_rfl) (by kernel_rfl) (by kernel_rfl) (fun _ _ _ h => h) (Or.inl ⟨by kernel_rfl, ?_⟩) bx ?_
              · intro wq hq
                go_simp
              simp only [Act.put, List.setIfInBounds_toArray, List.set_cons_zero, List.set_cons_succ]
              refine takeH (i := 6) 103 (v := .int .i64 (p : Int)) rfl rfl (by kernel_rfl) (by kernel_rfl) (by kernel_rfl) (fun _ _ _ h => h) (Or.inl ⟨by kernel_rfl, ?_⟩) bx ?_
              · intro wq hq
                go_simp
              simp only [Act.put, List.setIfInBounds_toArray, List.set_cons_zero, List.set_cons_succ]
              refine takeH (i := 7) 104 (v := .pointer (some ⟨b4, off + p * 3, none⟩)) rfl rfl (by kernel_rfl) (by kernel_rfl) (by kernel_rfl) (fun _ _ _ h => h) (Or.inl ⟨by kernel_rfl, ?_⟩) bx ?_
              · intro wq hq
                go_simp
              simp only [Act.put, List.setIfInBounds_toArray, List.set_cons_zero, List.set_cons_succ]
              refine takeH (i := 8) 105 (v := .pointer (some ⟨b4, off + p * 3, none⟩)) rfl rfl (by kernel_rfl) (by kernel_rfl) (by kernel_rfl) (fun _ _ _ h => h) (Or.inl ⟨by kernel_rfl, ?_⟩) bx ?_
              · intro wq hq
                go_simp
              simp only [Act.put, List.setIfInBounds_toArray, List.set_cons_zero, List.set_cons_succ]
              refine takeH (i := 9) 106 (v := .slice pa i4 pc) rfl rfl (by kernel_rfl) (by kernel_rfl) (by kernel_rfl) (fun _ _ _ h => h) (Or.inl ⟨by kernel_rfl, ?_⟩) bx ?_
              · intro wq hq
                have hh := HC.out wq hq
                clear HC
                obtain ⟨q0, q1, q2⟩ := hh
                go_simp
              simp only [Act.put, List.setIfInBounds_toArray, List.set_cons_zero, List.set_cons_succ]
              refine takeH (i := 10) 107 (v := .pointer (some ⟨wr.heap.size, 0, none⟩)) rfl rfl (by kernel_rfl) (by kernel_rfl) (by kernel_rfl) (fun _ _ _ h => h) (Or.inl ⟨by kernel_rfl, ?_⟩) bx ?_
              · intro wq hq
                go_simp
              simp only [Act.put, List.setIfInBounds_toArray, List.set_cons_zero, List.set_cons_succ]
              refine takeH (i := 11) 108 (v := .slice xa i1 xc) rfl rfl (by kernel_rfl) (by kernel_rfl) (by kernel_rfl) (fun _ _ _ h => h) (Or.inl ⟨by kernel_rfl, ?_⟩) bx ?_
              · intro wq hq
                have hh := HC.out wq hq
                clear HC
                obtain ⟨q0, q1, q2⟩ := hh
                go_simp
              simp only [Act.put, List.setIfInBounds_toArray, List.set_cons_zero, List.set_cons_succ]
              refine wpAnyH_ready (rs := [12]) (by kernel_rfl) (by simp) ?_
              refine AllReadyH.cons rfl (fun K1 hK1 => ?_) AllReadyH.nil
              rw [if_pos (by kernel_rfl)]
              unfold Oper.wp
              go_simp
              go_wp2_with (go_at_call 38; refine (cC.out _ bx).mono ?_; rintro e w4 ⟨rfl, b3⟩)
              refine hK1.out _ _ b3 (fun _ => ?_)
              simp only [List.setIfInBounds_toArray, List.set_cons_zero, List.set_cons_succ]
              refine takeH (i := 13) 110 (v := .bool (!q)) rfl rfl (by kernel_rfl) (by kernel_rfl) (by kernel_rfl) (fun _ _ _ h => h) (Or.inl ⟨by kernel_rfl, ?_⟩) b3 ?_
              · intro wq hq
                go_simp
              simp only [Act.put, List.setIfInBounds_toArray, List.set_cons_zero, List.set_cons_succ]
              refine takeH (i := 14) 111 (v := .bool (!q)) rfl rfl (by kernel_rfl) (by kernel_rfl) (by kernel_rfl) (fun _ _ _ h => h) (Or.inl ⟨by kernel_rfl, ?_⟩) b3 ?_
              · intro wq hq
                go_simp
              simp only [Act.put, List.setIfInBounds_toArray, List.set_cons_zero, List.set_cons_succ]
              refine wpAnyH_done (by kernel_rfl) ?_ _
              cases q with
              | false =>
                have HF := put_by (HF.out rfl)
                go_wp2
                go_ret
                rw [HF.out]
                exact ⟨rfl, HBW.out.trans ((H0.out.1.trans (b3.mono H0.out.1.size)).mono HBW.out.size)⟩
                trivial
              | true =>
                have HT := put_by (HT.out rfl)
                go_wp2
                go_roundw
                case rel => exact ⟨p + 1 + 1, by omega, by go_num, HT.out, HBB.out.trans ((H0.out.1.trans (b3.mono H0.out.1.size)).mono HBB.out.size)⟩
                case measure => simp [intOf]; omega
        · have HT : Hid (R = true) := HR.out.2 ⟨⟨by omega, by omega⟩, ⟨by omega, by omega⟩, ⟨by omega, by omega⟩, ⟨by have := HN.out.1; simp only; omega, by have := HN.out.2; simp only; omega⟩, HRD.out, (HB.out.1.all (by rw [← HN.out.2]; omega)).1, (HB.out.1.all (by rw [← HN.out.2]; omega)).2⟩
          have HBW := put_by (HA.out.trans (HB.out.2.mono HA.out.size))
          have ik : ¬ (k : Int) < (nw : Int) := by omega
          clear HB
          go_wp2
          go_ret
          rw [HT.out]
          exact ⟨rfl, HBW.out⟩

end Go.Proofs.Ytjilcljchdmbjaa
