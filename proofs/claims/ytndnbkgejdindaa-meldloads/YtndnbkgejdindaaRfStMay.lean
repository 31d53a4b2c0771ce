/- Which states may be by the document: what the reference's StateMay comes to. -/
import Derived.Test.YtndnbkgejdindaaMlMayS
import Derived.Test.YtndnbkgejdindaaRtOrder
namespace Go.Proofs.Ytndnbkgejdindaa
open Go.ChangeShapes Go.WideShapes Go.ChangeAt Go.RowKit

set_option maxRecDepth 100000 in
set_option maxHeartbeats 4000000 in
theorem doneAhead_any (x y : Dn) (w : World) :
    Calls Try.prog 37 #[.agg #[.int .i64 x.client, .int .i64 x.number, .int .i64 x.pos, .bool x.kept], .agg #[.int .i64 y.client, .int .i64 y.number, .int .i64 y.pos, .bool y.kept]] w fun e w' => e = .returned (.bool (dnAhead x y)) ∧ Below w.heap.size w w' := by
  obtain ⟨r, hr⟩ : ∃ r, r = dnAhead x y := ⟨_, rfl⟩
  rw [← hr]
  have HR : Hid (r = decide (x.client < y.client ∨ x.client = y.client ∧ x.number < y.number)) := hr
  clear hr
  obtain ⟨a, b, c, d⟩ := x
  obtain ⟨a', b', c', d'⟩ := y
  simp only at HR ⊢
  have HB := put_by (((Below.refl w.heap.size w).alloc (Nat.le_refl _) (.cells #[.int .i64 a, .int .i64 b, .int .i64 c, .bool d] 53)).alloc (by simp) (.cells #[.int .i64 a', .int .i64 b', .int .i64 c', .bool d'] 53))
  by_cases h1 : a < a'
  · have HF : Hid (r = true) := by rw [HR.out]; exact decide_eq_true (.inl h1)
    go_enter Try.func37, Try.ntmps37
    go_wp2
    go_ret
    rw [HF.out]
    exact ⟨rfl, HB.out⟩
  · by_cases h2 : a = a'
    · subst h2
      by_cases h3 : b < b'
      · have HF : Hid (r = true) := by rw [HR.out]; exact decide_eq_true (.inr ⟨rfl, h3⟩)
        go_enter Try.func37, Try.ntmps37
        go_wp2
        go_ret
        rw [HF.out]
        exact ⟨rfl, HB.out⟩
      · have HF : Hid (r = false) := by rw [HR.out]; exact decide_eq_false (by rintro (h | ⟨_, h⟩) <;> omega)
        go_enter Try.func37, Try.ntmps37
        go_wp2
        go_ret
        rw [HF.out]
        exact ⟨rfl, HB.out⟩
    · have HF : Hid (r = false) := by rw [HR.out]; exact decide_eq_false (by rintro (h | ⟨h, _⟩) <;> omega)
      have h4 : (a == a') = false := by simpa using h2
      go_enter Try.func37, Try.ntmps37
      go_wp2
      go_ret
      rw [HF.out]
      exact ⟨rfl, HB.out⟩

set_option maxRecDepth 100000 in
set_option maxHeartbeats 4000000 in
theorem StateMay_any (ok : Nat → Prop) (p : Int) (cs : List Cel) (ds : List Dn) (ca : Option Addr) (cc : Nat) (da : Option Addr) (dc : Nat) (w : World) (hI : StIs ok w cs ds ca cc da dc) (R : Bool) (hR : R = true ↔ MayS ⟨p, cs, ds⟩) :
    Calls Try.prog 19 #[.agg #[.int .i64 p, .slice ca cs.length cc, .slice da ds.length dc]] w fun e w' => e = .returned (.bool R) ∧ Below w.heap.size w w' := by
  rw [mayS_iff] at hR
  obtain ⟨n1, hn1⟩ : ∃ n, n = cs.length := ⟨_, rfl⟩
  obtain ⟨n2, hn2⟩ : ∃ n, n = ds.length := ⟨_, rfl⟩
  have h8 := hI.few
  rw [← hn1, ← hn2] at h8
  rw [← hn1, ← hn2]
  have h81 : n1 ≤ 140737488351232 := by omega
  have h82 : n2 ≤ 140737488351232 := by omega
  have HI := put_by hI
  have HR := put_by hR
  have HN := put_by (And.intro hn1 hn2)
  have HA := put_by ((Below.refl w.heap.size w).alloc (Nat.le_refl _) (.cells #[.int .i64 p, .slice ca n1 cc, .slice da n2 dc] 25))
  have HK : Hid (∀ V, Below (w.alloc (.cells #[.int .i64 p, .slice ca n1 cc, .slice da n2 dc] 25)).heap.size (w.alloc (.cells #[.int .i64 p, .slice ca n1 cc, .slice da n2 dc] 25)) V → V.cell? ⟨w.heap.size, 0, none⟩ = some (.int .i64 p) ∧ V.cell? ⟨w.heap.size, 1, none⟩ = some (.slice ca n1 cc) ∧ V.cell? ⟨w.heap.size, 2, none⟩ = some (.slice da n2 dc)) := fun V hV => ⟨(hV.cell (p := ⟨w.heap.size, 0, none⟩) (by simp)).trans (by simp), (hV.cell (p := ⟨w.heap.size, 1, none⟩) (by simp)).trans (by simp), (hV.cell (p := ⟨w.heap.size, 2, none⟩) (by simp)).trans (by simp)⟩
  have HSZ : Hid ((w.alloc (.cells #[.int .i64 p, .slice ca n1 cc, .slice da n2 dc] 25)).heap.size = w.heap.size + 1) := by simp [Hid]
  clear hI hR hn1 hn2 h8
  by_cases p0 : p < 0
  · have HF : Hid (R = false) := of_not HR.out (fun h => by have := h.1.1; omega)
    go_enter Try.func19, Try.ntmps19
    go_wp2
    go_ret
    rw [HF.out]
    exact ⟨rfl, HA.out⟩
  by_cases p1 : 1048576 < p
  · have HF : Hid (R = false) := of_not HR.out (fun h => by have := h.1.2; omega)
    go_enter Try.func19, Try.ntmps19
    go_wp2
    go_ret
    rw [HF.out]
    exact ⟨rfl, HA.out⟩
  go_enter Try.func19, Try.ntmps19
  go_upto_region 4 with (fail)
  generalize w.alloc (.cells #[.int .i64 p, .slice ca n1 cc, .slice da n2 dc] _) = W0 at HA HK HSZ ⊢
  go_loopw [18] (fun i wr => ∃ (k : Nat), k ≤ n1 ∧ i = .int .i64 k ∧ Hid (GoodL (OkC p) (fun a b => ahead a.key b.key = true) cs k ∧ Below W0.heap.size W0 wr)) (fun i _ => n1 - (intOf i).toNat)
  case atStart => exact ⟨0, Nat.zero_le _, rfl, GoodL.zero _ _ cs, Below.refl _ _⟩
  case round =>
    obtain ⟨k, hk, rfl, HB⟩ := hrel
    rename World => wr
    by_cases hlt : k < n1
    · have hx : k < cs.length := by rw [← HN.out.1]; exact hlt
      have HG := put_by HB.out.1
      have HWW0 := put_by HB.out.2
      have HBB := put_by (HA.out.trans (HB.out.2.mono HA.out.size))
      have hws : w.heap.size < wr.heap.size := by have := HB.out.2.size; have := HSZ.out; omega
      have HNO : Hid (¬ OkC p cs[k] → R = false) := fun h => of_not HR.out (fun hp => h (hp.2.1.1 _ (List.getElem_mem hx)))
      obtain ⟨bb, off, a1, c1, a2, c2, rfl, hk1, hk2, hb, hc⟩ := cel_at HI.out.cells hx
      obtain ⟨d0, d1, d2, d3⟩ := hc wr HBB.out
      obtain ⟨s0, s1, s2⟩ := HK.out wr HB.out.2
      have HX : Hid (Octs w a1 c1 (cs[k]).key) := by obtain ⟨xa, xc, e, hxo, -⟩ := hk1; cases e; exact hxo
      have HO : Hid (OkC p cs[k] ↔ 1 ≤ (cs[k]).key.length ∧ (cs[k]).key.length ≤ 1200 ∧ (cs[k]).val.length ≤ 4000 ∧ ((cs[k]).gone = true → (cs[k]).val.length = 0) ∧ 1 ≤ (cs[k]).since ∧ (cs[k]).since ≤ p) := by unfold OkC; rw [List.length_eq_zero_iff]; exact Iff.rfl
      have HAA := put_by ((Below.refl wr.heap.size wr).alloc (Nat.le_refl _) (.cells #[.slice a1 (cs[k]).key.length c1, .slice a2 (cs[k]).val.length c2, .bool (cs[k]).gone, .int .i64 (cs[k]).since] 51))
      have HCN : Hid (∀ W, Below (wr.alloc (.cells #[.slice a1 (cs[k]).key.length c1, .slice a2 (cs[k]).val.length c2, .bool (cs[k]).gone, .int .i64 (cs[k]).since] 51)).heap.size (wr.alloc (.cells #[.slice a1 (cs[k]).key.length c1, .slice a2 (cs[k]).val.length c2, .bool (cs[k]).gone, .int .i64 (cs[k]).since] 51)) W → W.cell? ⟨wr.heap.size, 0, none⟩ = some (.slice a1 (cs[k]).key.length c1)) := fun W hW => (hW.cell (p := ⟨wr.heap.size, 0, none⟩) (by simp)).trans (by simp)
      have ik : (k : Int) < (n1 : Int) := by omega
      clear hc hk1 hk2 HB
      obtain ⟨i1, e1⟩ : ∃ i1, i1 = (cs[k]).key.length := ⟨_, rfl⟩
      obtain ⟨i2, e2⟩ : ∃ i2, i2 = (cs[k]).val.length := ⟨_, rfl⟩
      obtain ⟨g, e3⟩ : ∃ g, g = (cs[k]).gone := ⟨_, rfl⟩
      obtain ⟨s, e4⟩ : ∃ s, s = (cs[k]).since := ⟨_, rfl⟩
      have HL1 := put_by e1
      rw [← e1] at d0 HAA HCN HO
      rw [← e2] at d1 HAA HCN HO
      rw [← e3] at d2 HAA HCN HO
      rw [← e4] at d3 HAA HCN HO
      clear e1 e2 e3 e4
      have HA1 := put_by (HBB.out.trans (HAA.out.mono HBB.out.size))
      have HWW := put_by (HWW0.out.trans (HAA.out.mono HWW0.out.size))
      by_cases hb1 : (i1 : Int) < 1
      · have HF := put_by (HNO.out (fun h => by have := (HO.out.1 h).1; omega))
        clear HI HG HNO HO
        go_wp2
        go_ret
        rw [HF.out]
        exact ⟨rfl, HA1.out⟩
      by_cases hb2 : (1200 : Int) < (i1 : Int)
      · have HF := put_by (HNO.out (fun h => by have := (HO.out.1 h).2.1; omega))
        clear HI HG HNO HO
        go_wp2
        go_ret
        rw [HF.out]
        exact ⟨rfl, HA1.out⟩
      by_cases hb3 : (4000 : Int) < (i2 : Int)
      · have HF := put_by (HNO.out (fun h => by have := (HO.out.1 h).2.2.1; omega))
        clear HI HG HNO HO
        go_wp2
        go_ret
        rw [HF.out]
        exact ⟨rfl, HA1.out⟩
      by_cases hb4 : g = true ∧ (0 : Int) < (i2 : Int)
      · obtain ⟨rfl, hb5⟩ := hb4
        have HF := put_by (HNO.out (fun h => by have := (HO.out.1 h).2.2.2.1 rfl; omega))
        clear HI HG HNO HO
        go_wp2
        go_ret
        rw [HF.out]
        exact ⟨rfl, HA1.out⟩
      have hg : g = true → i2 = 0 := fun e => by
        have : ¬ (0 : Int) < (i2 : Int) := fun h => hb4 ⟨e, h⟩
        omega
      by_cases hb6 : s < 1
      · have HF := put_by (HNO.out (fun h => by have := (HO.out.1 h).2.2.2.2.1; omega))
        clear HI HG HNO HO
        cases g with
        | false =>
          clear hg hb4
          go_wp2
          go_ret
          rw [HF.out]
          exact ⟨rfl, HA1.out⟩
        | true =>
          obtain rfl : i2 = 0 := hg rfl
          clear hg hb4
          go_wp2
          go_ret
          rw [HF.out]
          exact ⟨rfl, HA1.out⟩
      by_cases hb8 : p < s
      · have HF := put_by (HNO.out (fun h => by have := (HO.out.1 h).2.2.2.2.2; omega))
        clear HI HG HNO HO
        cases g with
        | false =>
          clear hg hb4
          go_wp2
          go_ret
          rw [HF.out]
          exact ⟨rfl, HA1.out⟩
        | true =>
          obtain rfl : i2 = 0 := hg rfl
          clear hg hb4
          go_wp2
          go_ret
          rw [HF.out]
          exact ⟨rfl, HA1.out⟩
      have HOk := put_by (HO.out.2 ⟨by omega, by omega, by omega, hg, by omega, by omega⟩)
      cases k with
      | zero =>
        rw [Nat.zero_mul, Nat.add_zero] at d0 d1 d2 d3
        have HT : Hid (GoodL (OkC p) (fun a b => ahead a.key b.key = true) cs 1) := GoodL.step (R := fun a b : Cel => ahead a.key b.key = true) (fun h1 h2 => ahead_trans h1 h2) hx HG.out HOk.out (fun p hp _ => by omega)
        clear HI HG HNO HO HX
        cases g with
        | false =>
          clear hg hb4
          go_upto_region 8 with (fail)
          generalize wr.alloc (.cells #[.slice a1 i1 c1, .slice a2 i2 c2, .bool false, .int .i64 s] _) = W1 at HA1 HAA HWW HCN ⊢
          go_quiet (fail)
          go_wp2
          go_roundw
          case rel => exact ⟨1, by omega, by go_num, HT.out, drawn_below HWW.out _⟩
          case measure => simp [intOf]; omega
        | true =>
          obtain rfl : i2 = 0 := hg rfl
          clear hg hb4
          go_upto_region 8 with (fail)
          generalize wr.alloc (.cells #[.slice a1 i1 c1, .slice a2 0 c2, .bool true, .int .i64 s] _) = W1 at HA1 HAA HWW HCN ⊢
          go_quiet (fail)
          go_wp2
          go_roundw
          case rel => exact ⟨1, by omega, by go_num, HT.out, drawn_below HWW.out _⟩
          case measure => simp [intOf]; omega
      | succ q =>
        have hq : q < cs.length := by omega
        obtain ⟨bb', off', a3, c3, a4, c4, e', hk3, -, -, hc3⟩ := cel_at HI.out.cells hq
        cases e'
        have HY : Hid (Octs w a3 c3 (cs[q]).key) := by obtain ⟨xa, xc, e, hxo, -⟩ := hk3; cases e; exact hxo
        obtain ⟨rq, hrq⟩ : ∃ rq, rq = ahead (cs[q]).key (cs[q + 1]).key := ⟨_, rfl⟩
        have HRq := put_by hrq
        obtain ⟨i3, e5⟩ : ∃ i3, i3 = (cs[q]).key.length := ⟨_, rfl⟩
        have HC3 : Hid (∀ W, Below w.heap.size w W → W.cell? ⟨bb, off + q * 4, none⟩ = some (.slice a3 i3 c3)) := fun W hW => by rw [e5]; exact (hc3 W hW).1
        have cC : Hid (∀ V, Below w.heap.size w V → Calls Try.prog 36 #[.slice a3 i3 c3, .slice a1 i1 c1] V fun e w' => e = .returned (.bool rq) ∧ Below V.heap.size V w') := fun V hV => by rw [e5, HL1.out, hrq]; exact bytesLess_any a3 a1 c3 c1 _ _ V (HY.out.later hV) (HX.out.later hV)
        have HT : Hid (ahead (cs[q]).key (cs[q + 1]).key = true → GoodL (OkC p) (fun a b => ahead a.key b.key = true) cs (q + 2)) := fun h => GoodL.step (R := fun a b : Cel => ahead a.key b.key = true) (fun h1 h2 => ahead_trans h1 h2) hx HG.out HOk.out (fun p hp _ => by have e : p = q := (by omega); subst e; exact h)
        have HNA : Hid (¬ ahead (cs[q]).key (cs[q + 1]).key = true → R = false) := fun h => of_not HR.out (fun hp => h (pair_next hp.2.1.2 hx))
        clear hk3 hc3 hrq e5 HI HG HNO HO HX HY
        have iq : (q : Int) < (n1 : Int) := by omega
        have iz : (0 : Int) < (q : Int) + 1 := by omega
        have iw : IntKind.i64.wrap (q : Int) = (q : Int) := by rw [IntKind.wrap_i64]; omega
        cases g with
        | false =>
          clear hg hb4
          go_upto_region 8 with (fail)
          generalize wr.alloc (.cells #[.slice a1 i1 c1, .slice a2 i2 c2, .bool false, .int .i64 s] _) = W1 at HA1 HAA HWW HCN ⊢
          have bx : Below W1.heap.size W1 W1.drew := (Below.refl _ _).drew
          have HCS : Hid (∀ W, Below W1.heap.size W1 W → W.cell? ⟨w.heap.size, 0, none⟩ = some (.int .i64 p) ∧ W.cell? ⟨w.heap.size, 1, none⟩ = some (.slice (some ⟨bb, off, none⟩) n1 cc) ∧ W.cell? ⟨w.heap.size, 2, none⟩ = some (.slice da n2 dc)) := fun W hW => HK.out W (HWW.out.trans (hW.mono HWW.out.size))
          have HCP : Hid (∀ W, Below W1.heap.size W1 W → W.cell? ⟨bb, off + q * 4, none⟩ = some (.slice a3 i3 c3)) := fun W hW => HC3.out W (HA1.out.trans (hW.mono HA1.out.size))
          replace cC : Hid (∀ V, Below W1.heap.size W1 V → Calls Try.prog 36 #[.slice a3 i3 c3, .slice a1 i1 c1] V fun e w' => e = .returned (.bool rq) ∧ Below W1.heap.size W1 w') := fun V hV => (cC.out V (HA1.out.trans (hV.mono HA1.out.size))).mono (fun e w' h => ⟨h.1, hV.trans (h.2.mono hV.size)⟩)
          clear d0 d1 d2 d3 s0 s1 s2 HC3
          refine wp_region_held (S := fun W => Below W1.heap.size W1 W) (by kernel_rfl) ?_
          change wpAnyH _ _ _ _ _ 15 #[false, false, false, false, false, false, false, false, false, false, false, false, false, false, false] _ W1.drew
          refine takeH (i := 0) 61 (v := .int .i64 ((q : Int) + 1)) rfl rfl (by kernel_rfl) (by kernel_rfl) (by kernel_rfl) (fun _ _ _ h => h) (Or.inl ⟨by kernel_rfl, ?_⟩) bx ?_
          · intro wq hq
            go_simp
          simp only [Act.put, List.setIfInBounds_toArray, List.set_cons_zero]
          refine takeH (i := 1) 62 (v := .bool true) rfl rfl (by kernel_rfl) (by kernel_rfl) (by kernel_rfl) (fun _ _ _ h => h) (Or.inl ⟨by kernel_rfl, ?_⟩) bx ?_
          · intro wq hq
            go_simp
          simp only [Act.put, List.setIfInBounds_toArray, List.set_cons_zero, List.set_cons_succ]
          refine takeH (i := 2) 63 (v := .bool true) rfl rfl (by kernel_rfl) (by kernel_rfl) (by kernel_rfl) (fun _ _ _ h => h) (Or.inl ⟨by kernel_rfl, ?_⟩) bx ?_
          · intro wq hq
            go_simp
          simp only [Act.put, List.setIfInBounds_toArray, List.set_cons_zero, List.set_cons_succ]
          refine takeH (i := 3) 64 (v := .pointer (some ⟨w.heap.size, 1, none⟩)) rfl rfl (by kernel_rfl) (by kernel_rfl) (by kernel_rfl) (fun _ _ _ h => h) (Or.inl ⟨by kernel_rfl, ?_⟩) bx ?_
          · intro wq hq
            go_simp
          simp only [Act.put, List.setIfInBounds_toArray, List.set_cons_zero, List.set_cons_succ]
          refine takeH (i := 4) 65 (v := .slice (some ⟨bb, off, none⟩) n1 cc) rfl rfl (by kernel_rfl) (by kernel_rfl) (by kernel_rfl) (fun _ _ _ h => h) (Or.inl ⟨by kernel_rfl, ?_⟩) bx ?_
          · intro wq hq
            have hh := HCS.out wq hq
            clear HCS HCP HCN
            obtain ⟨q0, q1, q2⟩ := hh
            go_simp
          simp only [Act.put, List.setIfInBounds_toArray, List.set_cons_zero, List.set_cons_succ]
          refine takeH (i := 5) 66 (v := .int .i64 ((q : Int) + 1)) rfl rfl (by kernel_rfl) (by kernel_rfl) (by kernel_rfl) (fun _ _ _ h => h) (Or.inl ⟨by kernel_rfl, ?_⟩) bx ?_
          · intro wq hq
            go_simp
          simp only [Act.put, List.setIfInBounds_toArray, List.set_cons_zero, List.set_cons_succ]
          refine takeH (i := 6) 67 (v := .int .i64 (q : Int)) rfl rfl (by kernel_rfl) (by kernel_rfl) (by kernel_rfl) (fun _ _ _ h => h) (Or.inl ⟨by kernel_rfl, ?_⟩) bx ?_
          · intro wq hq
            go_simp
          simp only [Act.put, List.setIfInBounds_toArray, List.set_cons_zero, List.set_cons_succ]
          refine takeH (i := 7) 68 (v := .pointer (some ⟨bb, off + q * 4, none⟩)) rfl rfl (by kernel_rfl) (by kernel_rfl) (by kernel_rfl) (fun _ _ _ h => h) (Or.inl ⟨by kernel_rfl, ?_⟩) bx ?_
          · intro wq hq
            go_simp
          simp only [Act.put, List.setIfInBounds_toArray, List.set_cons_zero, List.set_cons_succ]
          refine takeH (i := 8) 69 (v := .pointer (some ⟨bb, off + q * 4, none⟩)) rfl rfl (by kernel_rfl) (by kernel_rfl) (by kernel_rfl) (fun _ _ _ h => h) (Or.inl ⟨by kernel_rfl, ?_⟩) bx ?_
          · intro wq hq
            go_simp
          simp only [Act.put, List.setIfInBounds_toArray, List.set_cons_zero, List.set_cons_succ]
          refine takeH (i := 9) 70 (v := .slice a3 i3 c3) rfl rfl (by kernel_rfl) (by kernel_rfl) (by kernel_rfl) (fun _ _ _ h => h) (Or.inl ⟨by kernel_rfl, ?_⟩) bx ?_
          · intro wq hq
            have hh := HCP.out wq hq
            clear HCS HCP HCN
            go_simp
          simp only [Act.put, List.setIfInBounds_toArray, List.set_cons_zero, List.set_cons_succ]
          refine takeH (i := 10) 71 (v := .pointer (some ⟨wr.heap.size, 0, none⟩)) rfl rfl (by kernel_rfl) (by kernel_rfl) (by kernel_rfl) (fun _ _ _ h => h) (Or.inl ⟨by kernel_rfl, ?_⟩) bx ?_
          · intro wq hq
            go_simp
          simp only [Act.put, List.setIfInBounds_toArray, List.set_cons_zero, List.set_cons_succ]
          refine takeH (i := 11) 72 (v := .slice a1 i1 c1) rfl rfl (by kernel_rfl) (by kernel_rfl) (by kernel_rfl) (fun _ _ _ h => h) (Or.inl ⟨by kernel_rfl, ?_⟩) bx ?_
          · intro wq hq
            have hh := HCN.out wq hq
            clear HCS HCP HCN
            go_simp
          simp only [Act.put, List.setIfInBounds_toArray, List.set_cons_zero, List.set_cons_succ]
          refine wpAnyH_ready (rs := [12]) (by kernel_rfl) (by simp) ?_
          refine AllReadyH.cons rfl (fun K1 hK1 => ?_) AllReadyH.nil
          rw [if_pos (by kernel_rfl)]
          unfold Oper.wp
          go_simp
          go_wp2_with (go_at_call 36; (with_reducible refine (cC.out _ bx).mono ?_); clear cC; rintro e w1 ⟨rfl, b3⟩)
          refine hK1.out _ _ b3 (fun _ => ?_)
          simp only [List.setIfInBounds_toArray, List.set_cons_zero, List.set_cons_succ]
          refine takeH (i := 13) 74 (v := .bool (!rq)) rfl rfl (by kernel_rfl) (by kernel_rfl) (by kernel_rfl) (fun _ _ _ h => h) (Or.inl ⟨by kernel_rfl, ?_⟩) b3 ?_
          · intro wq hq
            go_simp
          simp only [Act.put, List.setIfInBounds_toArray, List.set_cons_zero, List.set_cons_succ]
          refine takeH (i := 14) 75 (v := .bool (!rq)) rfl rfl (by kernel_rfl) (by kernel_rfl) (by kernel_rfl) (fun _ _ _ h => h) (Or.inl ⟨by kernel_rfl, ?_⟩) b3 ?_
          · intro wq hq
            go_simp
          simp only [Act.put, List.setIfInBounds_toArray, List.set_cons_zero, List.set_cons_succ]
          refine wpAnyH_done (by kernel_rfl) ?_ _
          cases rq with
          | false =>
            have HF := put_by (HNA.out (fun h => by have := HRq.out; rw [h] at this; cases this))
            go_wp2
            go_ret
            rw [HF.out]
            exact ⟨rfl, HA1.out.trans (b3.mono HA1.out.size)⟩
          | true =>
            have HTT := put_by (HT.out HRq.out.symm)
            go_wp2
            go_roundw
            case rel => exact ⟨q + 2, by omega, by go_num, HTT.out, HWW.out.trans (b3.mono HWW.out.size)⟩
            case measure => simp [intOf]; omega
        | true =>
          obtain rfl : i2 = 0 := hg rfl
          clear hg hb4
          go_upto_region 8 with (fail)
          generalize wr.alloc (.cells #[.slice a1 i1 c1, .slice a2 0 c2, .bool true, .int .i64 s] _) = W1 at HA1 HAA HWW HCN ⊢
          have bx : Below W1.heap.size W1 W1.drew := (Below.refl _ _).drew
          have HCS : Hid (∀ W, Below W1.heap.size W1 W → W.cell? ⟨w.heap.size, 0, none⟩ = some (.int .i64 p) ∧ W.cell? ⟨w.heap.size, 1, none⟩ = some (.slice (some ⟨bb, off, none⟩) n1 cc) ∧ W.cell? ⟨w.heap.size, 2, none⟩ = some (.slice da n2 dc)) := fun W hW => HK.out W (HWW.out.trans (hW.mono HWW.out.size))
          have HCP : Hid (∀ W, Below W1.heap.size W1 W → W.cell? ⟨bb, off + q * 4, none⟩ = some (.slice a3 i3 c3)) := fun W hW => HC3.out W (HA1.out.trans (hW.mono HA1.out.size))
          replace cC : Hid (∀ V, Below W1.heap.size W1 V → Calls Try.prog 36 #[.slice a3 i3 c3, .slice a1 i1 c1] V fun e w' => e = .returned (.bool rq) ∧ Below W1.heap.size W1 w') := fun V hV => (cC.out V (HA1.out.trans (hV.mono HA1.out.size))).mono (fun e w' h => ⟨h.1, hV.trans (h.2.mono hV.size)⟩)
          clear d0 d1 d2 d3 s0 s1 s2 HC3
          refine wp_region_held (S := fun W => Below W1.heap.size W1 W) (by kernel_rfl) ?_
          change wpAnyH _ _ _ _ _ 15 #[false, false, false, false, false, false, false, false, false, false, false, false, false, false, false] _ W1.drew
          refine takeH (i := 0) 61 (v := .int .i64 ((q : Int) + 1)) rfl rfl (by kernel_rfl) (by kernel_rfl) (by kernel_rfl) (fun _ _ _ h => h) (Or.inl ⟨by kernel_rfl, ?_⟩) bx ?_
          · intro wq hq
            go_simp
          simp only [Act.put, List.setIfInBounds_toArray, List.set_cons_zero]
          refine takeH (i := 1) 62 (v := .bool true) rfl rfl (by kernel_rfl) (by kernel_rfl) (by kernel_rfl) (fun _ _ _ h => h) (Or.inl ⟨by kernel_rfl, ?_⟩) bx ?_
          · intro wq hq
            go_simp
          simp only [Act.put, List.setIfInBounds_toArray, List.set_cons_zero, List.set_cons_succ]
          refine takeH (i := 2) 63 (v := .bool true) rfl rfl (by kernel_rfl) (by kernel_rfl) (by kernel_rfl) (fun _ _ _ h => h) (Or.inl ⟨by kernel_rfl, ?_⟩) bx ?_
          · intro wq hq
            go_simp
          simp only [Act.put, List.setIfInBounds_toArray, List.set_cons_zero, List.set_cons_succ]
          refine takeH (i := 3) 64 (v := .pointer (some ⟨w.heap.size, 1, none⟩)) rfl rfl (by kernel_rfl) (by kernel_rfl) (by kernel_rfl) (fun _ _ _ h => h) (Or.inl ⟨by kernel_rfl, ?_⟩) bx ?_
          · intro wq hq
            go_simp
          simp only [Act.put, List.setIfInBounds_toArray, List.set_cons_zero, List.set_cons_succ]
          refine takeH (i := 4) 65 (v := .slice (some ⟨bb, off, none⟩) n1 cc) rfl rfl (by kernel_rfl) (by kernel_rfl) (by kernel_rfl) (fun _ _ _ h => h) (Or.inl ⟨by kernel_rfl, ?_⟩) bx ?_
          · intro wq hq
            have hh := HCS.out wq hq
            clear HCS HCP HCN
            obtain ⟨q0, q1, q2⟩ := hh
            go_simp
          simp only [Act.put, List.setIfInBounds_toArray, List.set_cons_zero, List.set_cons_succ]
          refine takeH (i := 5) 66 (v := .int .i64 ((q : Int) + 1)) rfl rfl (by kernel_rfl) (by kernel_rfl) (by kernel_rfl) (fun _ _ _ h => h) (Or.inl ⟨by kernel_rfl, ?_⟩) bx ?_
          · intro wq hq
            go_simp
          simp only [Act.put, List.setIfInBounds_toArray, List.set_cons_zero, List.set_cons_succ]
          refine takeH (i := 6) 67 (v := .int .i64 (q : Int)) rfl rfl (by kernel_rfl) (by kernel_rfl) (by kernel_rfl) (fun _ _ _ h => h) (Or.inl ⟨by kernel_rfl, ?_⟩) bx ?_
          · intro wq hq
            go_simp
          simp only [Act.put, List.setIfInBounds_toArray, List.set_cons_zero, List.set_cons_succ]
          refine takeH (i := 7) 68 (v := .pointer (some ⟨bb, off + q * 4, none⟩)) rfl rfl (by kernel_rfl) (by kernel_rfl) (by kernel_rfl) (fun _ _ _ h => h) (Or.inl ⟨by kernel_rfl, ?_⟩) bx ?_
          · intro wq hq
            go_simp
          simp only [Act.put, List.setIfInBounds_toArray, List.set_cons_zero, List.set_cons_succ]
          refine takeH (i := 8) 69 (v := .pointer (some ⟨bb, off + q * 4, none⟩)) rfl rfl (by kernel_rfl) (by kernel_rfl) (by kernel_rfl) (fun _ _ _ h => h) (Or.inl ⟨by kernel_rfl, ?_⟩) bx ?_
          · intro wq hq
            go_simp
          simp only [Act.put, List.setIfInBounds_toArray, List.set_cons_zero, List.set_cons_succ]
          refine takeH (i := 9) 70 (v := .slice a3 i3 c3) rfl rfl (by kernel_rfl) (by kernel_rfl) (by kernel_rfl) (fun _ _ _ h => h) (Or.inl ⟨by kernel_rfl, ?_⟩) bx ?_
          · intro wq hq
            have hh := HCP.out wq hq
            clear HCS HCP HCN
            go_simp
          simp only [Act.put, List.setIfInBounds_toArray, List.set_cons_zero, List.set_cons_succ]
          refine takeH (i := 10) 71 (v := .pointer (some ⟨wr.heap.size, 0, none⟩)) rfl rfl (by kernel_rfl) (by kernel_rfl) (by kernel_rfl) (fun _ _ _ h => h) (Or.inl ⟨by kernel_rfl, ?_⟩) bx ?_
          · intro wq hq
            go_simp
          simp only [Act.put, List.setIfInBounds_toArray, List.set_cons_zero, List.set_cons_succ]
          refine takeH (i := 11) 72 (v := .slice a1 i1 c1) rfl rfl (by kernel_rfl) (by kernel_rfl) (by kernel_rfl) (fun _ _ _ h => h) (Or.inl ⟨by kernel_rfl, ?_⟩) bx ?_
          · intro wq hq
            have hh := HCN.out wq hq
            clear HCS HCP HCN
            go_simp
          simp only [Act.put, List.setIfInBounds_toArray, List.set_cons_zero, List.set_cons_succ]
          refine wpAnyH_ready (rs := [12]) (by kernel_rfl) (by simp) ?_
          refine AllReadyH.cons rfl (fun K1 hK1 => ?_) AllReadyH.nil
          rw [if_pos (by kernel_rfl)]
          unfold Oper.wp
          go_simp
          go_wp2_with (go_at_call 36; (with_reducible refine (cC.out _ bx).mono ?_); clear cC; rintro e w1 ⟨rfl, b3⟩)
          refine hK1.out _ _ b3 (fun _ => ?_)
          simp only [List.setIfInBounds_toArray, List.set_cons_zero, List.set_cons_succ]
          refine takeH (i := 13) 74 (v := .bool (!rq)) rfl rfl (by kernel_rfl) (by kernel_rfl) (by kernel_rfl) (fun _ _ _ h => h) (Or.inl ⟨by kernel_rfl, ?_⟩) b3 ?_
          · intro wq hq
            go_simp
          simp only [Act.put, List.setIfInBounds_toArray, List.set_cons_zero, List.set_cons_succ]
          refine takeH (i := 14) 75 (v := .bool (!rq)) rfl rfl (by kernel_rfl) (by kernel_rfl) (by kernel_rfl) (fun _ _ _ h => h) (Or.inl ⟨by kernel_rfl, ?_⟩) b3 ?_
          · intro wq hq
            go_simp
          simp only [Act.put, List.setIfInBounds_toArray, List.set_cons_zero, List.set_cons_succ]
          refine wpAnyH_done (by kernel_rfl) ?_ _
          cases rq with
          | false =>
            have HF := put_by (HNA.out (fun h => by have := HRq.out; rw [h] at this; cases this))
            go_wp2
            go_ret
            rw [HF.out]
            exact ⟨rfl, HA1.out.trans (b3.mono HA1.out.size)⟩
          | true =>
            have HTT := put_by (HT.out HRq.out.symm)
            go_wp2
            go_roundw
            case rel => exact ⟨q + 2, by omega, by go_num, HTT.out, HWW.out.trans (b3.mono HWW.out.size)⟩
            case measure => simp [intOf]; omega
    · have HT : Hid (CelsP p cs) := HB.out.1.all (by rw [← HN.out.1]; omega)
      have HWW1 := put_by HB.out.2
      have ik : ¬ (k : Int) < (n1 : Int) := by omega
      obtain ⟨s0, s1, s2⟩ := HK.out wr HB.out.2
      clear HB
      go_upto_region 12 with (fail)
      go_loopw [80] (fun i wr => ∃ (k : Nat), k ≤ n2 ∧ i = .int .i64 k ∧ Hid (GoodL (OkD p) (fun a b => dnAhead a b = true) ds k ∧ Below W0.heap.size W0 wr)) (fun i _ => n2 - (intOf i).toNat)
      case atStart => exact ⟨0, Nat.zero_le _, rfl, GoodL.zero _ _ ds, HWW1.out⟩
      case round =>
        obtain ⟨k, hk, rfl, HB⟩ := hrel
        rename World => wr
        by_cases hlt : k < n2
        · have hx : k < ds.length := by rw [← HN.out.2]; exact hlt
          have HG := put_by HB.out.1
          have HWW0 := put_by HB.out.2
          have HBB := put_by (HA.out.trans (HB.out.2.mono HA.out.size))
          have hws : w.heap.size < wr.heap.size := by have := HB.out.2.size; have := HSZ.out; omega
          have HNO : Hid (¬ OkD p ds[k] → R = false) := fun h => of_not HR.out (fun hp => h (hp.2.2.1 _ (List.getElem_mem hx)))
          obtain ⟨bb, off, rfl, hb, hc⟩ := dn_at HI.out.dones hx
          obtain ⟨d0, d1, d2, d3⟩ := hc wr HBB.out
          obtain ⟨s0, s1, s2⟩ := HK.out wr HB.out.2
          have HO : Hid (OkD p ds[k] ↔ (1 ≤ (ds[k]).client ∧ (ds[k]).client ≤ 1048576) ∧ (1 ≤ (ds[k]).number ∧ (ds[k]).number ≤ 1048576) ∧ 1 ≤ (ds[k]).pos ∧ (ds[k]).pos ≤ p) := Iff.rfl
          have HAA := put_by ((Below.refl wr.heap.size wr).alloc (Nat.le_refl _) (.cells #[.int .i64 (ds[k]).client, .int .i64 (ds[k]).number, .int .i64 (ds[k]).pos, .bool (ds[k]).kept] 53))
          have HCN : Hid (∀ W, Below (wr.alloc (.cells #[.int .i64 (ds[k]).client, .int .i64 (ds[k]).number, .int .i64 (ds[k]).pos, .bool (ds[k]).kept] 53)).heap.size (wr.alloc (.cells #[.int .i64 (ds[k]).client, .int .i64 (ds[k]).number, .int .i64 (ds[k]).pos, .bool (ds[k]).kept] 53)) W → W.cell? ⟨wr.heap.size, 0, none⟩ = some (.int .i64 (ds[k]).client) ∧ W.cell? ⟨wr.heap.size, 1, none⟩ = some (.int .i64 (ds[k]).number) ∧ W.cell? ⟨wr.heap.size, 2, none⟩ = some (.int .i64 (ds[k]).pos) ∧ W.cell? ⟨wr.heap.size, 3, none⟩ = some (.bool (ds[k]).kept)) := fun W hW => ⟨(hW.cell (p := ⟨wr.heap.size, 0, none⟩) (by simp)).trans (by simp), (hW.cell (p := ⟨wr.heap.size, 1, none⟩) (by simp)).trans (by simp), (hW.cell (p := ⟨wr.heap.size, 2, none⟩) (by simp)).trans (by simp), (hW.cell (p := ⟨wr.heap.size, 3, none⟩) (by simp)).trans (by simp)⟩
          have ik : (k : Int) < (n2 : Int) := by omega
          clear hc HB
          obtain ⟨c, e1⟩ : ∃ c, c = (ds[k]).client := ⟨_, rfl⟩
          obtain ⟨m, e2⟩ : ∃ m, m = (ds[k]).number := ⟨_, rfl⟩
          obtain ⟨s, e3⟩ : ∃ s, s = (ds[k]).pos := ⟨_, rfl⟩
          obtain ⟨g, e4⟩ : ∃ g, g = (ds[k]).kept := ⟨_, rfl⟩
          have HE : Hid (ds[k] = ⟨c, m, s, g⟩) := by rw [e1, e2, e3, e4]; exact rfl
          rw [← e1] at d0 HAA HCN HO
          rw [← e2] at d1 HAA HCN HO
          rw [← e3] at d2 HAA HCN HO
          rw [← e4] at d3 HAA HCN
          clear e1 e2 e3 e4
          have HA1 := put_by (HBB.out.trans (HAA.out.mono HBB.out.size))
          have HWW := put_by (HWW0.out.trans (HAA.out.mono HWW0.out.size))
          by_cases hb1 : c < 1
          · have HF := put_by (HNO.out (fun h => by have := (HO.out.1 h).1.1; omega))
            clear HI HG HNO HO
            go_wp2
            go_ret
            rw [HF.out]
            exact ⟨rfl, HA1.out⟩
          by_cases hb2 : 1048576 < c
          · have HF := put_by (HNO.out (fun h => by have := (HO.out.1 h).1.2; omega))
            clear HI HG HNO HO
            go_wp2
            go_ret
            rw [HF.out]
            exact ⟨rfl, HA1.out⟩
          by_cases hb3 : m < 1
          · have HF := put_by (HNO.out (fun h => by have := (HO.out.1 h).2.1.1; omega))
            clear HI HG HNO HO
            go_wp2
            go_ret
            rw [HF.out]
            exact ⟨rfl, HA1.out⟩
          by_cases hb4 : 1048576 < m
          · have HF := put_by (HNO.out (fun h => by have := (HO.out.1 h).2.1.2; omega))
            clear HI HG HNO HO
            go_wp2
            go_ret
            rw [HF.out]
            exact ⟨rfl, HA1.out⟩
          by_cases hb5 : s < 1
          · have HF := put_by (HNO.out (fun h => by have := (HO.out.1 h).2.2.1; omega))
            clear HI HG HNO HO
            go_wp2
            go_ret
            rw [HF.out]
            exact ⟨rfl, HA1.out⟩
          by_cases hb6 : p < s
          · have HF := put_by (HNO.out (fun h => by have := (HO.out.1 h).2.2.2; omega))
            clear HI HG HNO HO
            go_wp2
            go_ret
            rw [HF.out]
            exact ⟨rfl, HA1.out⟩
          have HOk := put_by (HO.out.2 ⟨⟨by omega, by omega⟩, ⟨by omega, by omega⟩, by omega, by omega⟩)
          cases k with
          | zero =>
            rw [Nat.zero_mul, Nat.add_zero] at d0 d1 d2 d3
            have HTT : Hid (GoodL (OkD p) (fun a b => dnAhead a b = true) ds 1) := GoodL.step (R := fun a b : Dn => dnAhead a b = true) (fun h1 h2 => dnAhead_trans h1 h2) hx HG.out HOk.out (fun p hp _ => by omega)
            clear HI HG HNO HO
            go_upto_region 16 with (fail)
            generalize wr.alloc (.cells #[.int .i64 c, .int .i64 m, .int .i64 s, .bool g] _) = W1 at HA1 HAA HWW HCN ⊢
            go_quiet (fail)
            go_wp2
            go_roundw
            case rel => exact ⟨1, by omega, by go_num, HTT.out, drawn_below HWW.out _⟩
            case measure => simp [intOf]; omega
          | succ q =>
            have hq : q < ds.length := by omega
            obtain ⟨bb', off', e', -, hc3⟩ := dn_at HI.out.dones hq
            cases e'
            obtain ⟨rq, hrq⟩ : ∃ rq, rq = dnAhead ds[q] ds[q + 1] := ⟨_, rfl⟩
            have HRq := put_by hrq
            have cC : Hid (∀ V, Below w.heap.size w V → Calls Try.prog 37 #[.agg #[.int .i64 (ds[q]).client, .int .i64 (ds[q]).number, .int .i64 (ds[q]).pos, .bool (ds[q]).kept], .agg #[.int .i64 c, .int .i64 m, .int .i64 s, .bool g]] V fun e w' => e = .returned (.bool rq) ∧ Below V.heap.size V w') := fun V hV => by
              rw [hrq, HE.out]
              exact doneAhead_any ds[q] ⟨c, m, s, g⟩ V
            replace HT : Hid (dnAhead ds[q] ds[q + 1] = true → GoodL (OkD p) (fun a b => dnAhead a b = true) ds (q + 2)) := fun h => GoodL.step (R := fun a b : Dn => dnAhead a b = true) (fun h1 h2 => dnAhead_trans h1 h2) hx HG.out HOk.out (fun p hp _ => by have e : p = q := (by omega); subst e; exact h)
            have HNA : Hid (¬ dnAhead ds[q] ds[q + 1] = true → R = false) := fun h => of_not HR.out (fun hp => h (pair_next hp.2.2.2 hx))
            generalize (ds[q]).client = c' at hc3 cC
            generalize (ds[q]).number = m' at hc3 cC
            generalize (ds[q]).pos = s' at hc3 cC
            generalize (ds[q]).kept = g' at hc3 cC
            have HC3 := put_by hc3
            clear hc3 hrq HI HG HNO HO
            have iq : (q : Int) < (n2 : Int) := by omega
            have iz : (0 : Int) < (q : Int) + 1 := by omega
            have iw : IntKind.i64.wrap (q : Int) = (q : Int) := by rw [IntKind.wrap_i64]; omega
            go_upto_region 16 with (fail)
            generalize wr.alloc (.cells #[.int .i64 c, .int .i64 m, .int .i64 s, .bool g] _) = W1 at HA1 HAA HWW HCN ⊢
            have bx : Below W1.heap.size W1 W1.drew := (Below.refl _ _).drew
            have HCS : Hid (∀ W, Below W1.heap.size W1 W → W.cell? ⟨w.heap.size, 0, none⟩ = some (.int .i64 p) ∧ W.cell? ⟨w.heap.size, 1, none⟩ = some (.slice ca n1 cc) ∧ W.cell? ⟨w.heap.size, 2, none⟩ = some (.slice (some ⟨bb, off, none⟩) n2 dc)) := fun W hW => HK.out W (HWW.out.trans (hW.mono HWW.out.size))
            have HCP : Hid (∀ W, Below W1.heap.size W1 W → W.cell? ⟨bb, off + q * 4, none⟩ = some (.int .i64 c') ∧ W.cell? ⟨bb, off + q * 4 + 1, none⟩ = some (.int .i64 m') ∧ W.cell? ⟨bb, off + q * 4 + 2, none⟩ = some (.int .i64 s') ∧ W.cell? ⟨bb, off + q * 4 + 3, none⟩ = some (.bool g')) := fun W hW => HC3.out W (HA1.out.trans (hW.mono HA1.out.size))
            replace cC : Hid (∀ V, Below W1.heap.size W1 V → Calls Try.prog 37 #[.agg #[.int .i64 c', .int .i64 m', .int .i64 s', .bool g'], .agg #[.int .i64 c, .int .i64 m, .int .i64 s, .bool g]] V fun e w' => e = .returned (.bool rq) ∧ Below W1.heap.size W1 w') := fun V hV => (cC.out V (HA1.out.trans (hV.mono HA1.out.size))).mono (fun e w' h => ⟨h.1, hV.trans (h.2.mono hV.size)⟩)
            clear d0 d1 d2 d3 s0 s1 s2 HC3
            refine wp_region_held (S := fun W => Below W1.heap.size W1 W) (by kernel_rfl) ?_
            change wpAnyH _ _ _ _ _ 13 #[false, false, false, false, false, false, false, false, false, false, false, false, false] _ W1.drew
            refine takeH (i := 0) 115 (v := .int .i64 ((q : Int) + 1)) rfl rfl (by kernel_rfl) (by kernel_rfl) (by kernel_rfl) (fun _ _ _ h => h) (Or.inl ⟨by kernel_rfl, ?_⟩) bx ?_
            · intro wq hq
              go_simp
            simp only [Act.put, List.setIfInBounds_toArray, List.set_cons_zero]
            refine takeH (i := 1) 116 (v := .bool true) rfl rfl (by kernel_rfl) (by kernel_rfl) (by kernel_rfl) (fun _ _ _ h => h) (Or.inl ⟨by kernel_rfl, ?_⟩) bx ?_
            · intro wq hq
              go_simp
            simp only [Act.put, List.setIfInBounds_toArray, List.set_cons_zero, List.set_cons_succ]
            refine takeH (i := 2) 117 (v := .bool true) rfl rfl (by kernel_rfl) (by kernel_rfl) (by kernel_rfl) (fun _ _ _ h => h) (Or.inl ⟨by kernel_rfl, ?_⟩) bx ?_
            · intro wq hq
              go_simp
            simp only [Act.put, List.setIfInBounds_toArray, List.set_cons_zero, List.set_cons_succ]
            refine takeH (i := 3) 118 (v := .pointer (some ⟨w.heap.size, 2, none⟩)) rfl rfl (by kernel_rfl) (by kernel_rfl) (by kernel_rfl) (fun _ _ _ h => h) (Or.inl ⟨by kernel_rfl, ?_⟩) bx ?_
            · intro wq hq
              go_simp
            simp only [Act.put, List.setIfInBounds_toArray, List.set_cons_zero, List.set_cons_succ]
            refine takeH (i := 4) 119 (v := .slice (some ⟨bb, off, none⟩) n2 dc) rfl rfl (by kernel_rfl) (by kernel_rfl) (by kernel_rfl) (fun _ _ _ h => h) (Or.inl ⟨by kernel_rfl, ?_⟩) bx ?_
            · intro wq hq
              have hh := HCS.out wq hq
              clear HCS HCP HCN
              obtain ⟨q0, q1, q2⟩ := hh
              go_simp
            simp only [Act.put, List.setIfInBounds_toArray, List.set_cons_zero, List.set_cons_succ]
            refine takeH (i := 5) 120 (v := .int .i64 ((q : Int) + 1)) rfl rfl (by kernel_rfl) (by kernel_rfl) (by kernel_rfl) (fun _ _ _ h => h) (Or.inl ⟨by kernel_rfl, ?_⟩) bx ?_
            · intro wq hq
              go_simp
            simp only [Act.put, List.setIfInBounds_toArray, List.set_cons_zero, List.set_cons_succ]
            refine takeH (i := 6) 121 (v := .int .i64 (q : Int)) rfl rfl (by kernel_rfl) (by kernel_rfl) (by kernel_rfl) (fun _ _ _ h => h) (Or.inl ⟨by kernel_rfl, ?_⟩) bx ?_
            · intro wq hq
              go_simp
            simp only [Act.put, List.setIfInBounds_toArray, List.set_cons_zero, List.set_cons_succ]
            refine takeH (i := 7) 122 (v := .pointer (some ⟨bb, off + q * 4, none⟩)) rfl rfl (by kernel_rfl) (by kernel_rfl) (by kernel_rfl) (fun _ _ _ h => h) (Or.inl ⟨by kernel_rfl, ?_⟩) bx ?_
            · intro wq hq
              go_simp
            simp only [Act.put, List.setIfInBounds_toArray, List.set_cons_zero, List.set_cons_succ]
            refine takeH (i := 8) 123 (v := .agg #[.int .i64 c', .int .i64 m', .int .i64 s', .bool g']) rfl rfl (by kernel_rfl) (by kernel_rfl) (by kernel_rfl) (fun _ _ _ h => h) (Or.inl ⟨by kernel_rfl, ?_⟩) bx ?_
            · intro wq hq
              have hh := HCP.out wq hq
              clear HCS HCP HCN
              obtain ⟨q0, q1, q2, q3⟩ := hh
              go_simp
            simp only [Act.put, List.setIfInBounds_toArray, List.set_cons_zero, List.set_cons_succ]
            refine takeH (i := 9) 124 (v := .agg #[.int .i64 c, .int .i64 m, .int .i64 s, .bool g]) rfl rfl (by kernel_rfl) (by kernel_rfl) (by kernel_rfl) (fun _ _ _ h => h) (Or.inl ⟨by kernel_rfl, ?_⟩) bx ?_
            · intro wq hq
              have hh := HCN.out wq hq
              clear HCS HCP HCN
              obtain ⟨q0, q1, q2, q3⟩ := hh
              go_simp
            simp only [Act.put, List.setIfInBounds_toArray, List.set_cons_zero, List.set_cons_succ]
            refine wpAnyH_ready (rs := [10]) (by kernel_rfl) (by simp) ?_
            refine AllReadyH.cons rfl (fun K1 hK1 => ?_) AllReadyH.nil
            rw [if_pos (by kernel_rfl)]
            unfold Oper.wp
            go_simp
            go_wp2_with (go_at_call 37; (with_reducible refine (cC.out _ bx).mono ?_); clear cC; rintro e w1 ⟨rfl, b3⟩)
            refine hK1.out _ _ b3 (fun _ => ?_)
            simp only [List.setIfInBounds_toArray, List.set_cons_zero, List.set_cons_succ]
            refine takeH (i := 11) 126 (v := .bool (!rq)) rfl rfl (by kernel_rfl) (by kernel_rfl) (by kernel_rfl) (fun _ _ _ h => h) (Or.inl ⟨by kernel_rfl, ?_⟩) b3 ?_
            · intro wq hq
              go_simp
            simp only [Act.put, List.setIfInBounds_toArray, List.set_cons_zero, List.set_cons_succ]
            refine takeH (i := 12) 127 (v := .bool (!rq)) rfl rfl (by kernel_rfl) (by kernel_rfl) (by kernel_rfl) (fun _ _ _ h => h) (Or.inl ⟨by kernel_rfl, ?_⟩) b3 ?_
            · intro wq hq
              go_simp
            simp only [Act.put, List.setIfInBounds_toArray, List.set_cons_zero, List.set_cons_succ]
            refine wpAnyH_done (by kernel_rfl) ?_ _
            cases rq with
            | false =>
              have HF := put_by (HNA.out (fun h => by have := HRq.out; rw [h] at this; cases this))
              go_wp2
              go_ret
              rw [HF.out]
              exact ⟨rfl, HA1.out.trans (b3.mono HA1.out.size)⟩
            | true =>
              have HTT := put_by (HT.out HRq.out.symm)
              go_wp2
              go_roundw
              case rel => exact ⟨q + 2, by omega, by go_num, HTT.out, HWW.out.trans (b3.mono HWW.out.size)⟩
              case measure => simp [intOf]; omega
        · have HF : Hid (R = true) := HR.out.2 ⟨⟨by omega, by omega⟩, HT.out, HB.out.1.all (by rw [← HN.out.2]; omega)⟩
          have HWW := put_by (HA.out.trans (HB.out.2.mono HA.out.size))
          have ik : ¬ (k : Int) < (n2 : Int) := by omega
          clear HB
          go_wp2
          go_ret
          rw [HF.out]
          exact ⟨rfl, HWW.out⟩

end Go.Proofs.Ytndnbkgejdindaa
