/- Which dones a state may have: what mayHaveDone comes to. -/
import Derived.Test.YtndnbkgejdindaaMlHave
namespace Go.Proofs.Ytndnbkgejdindaa
open Go.ChangeShapes Go.WideShapes Go.ChangeAt Go.RowKit

set_option maxRecDepth 100000 in
set_option maxHeartbeats 2000000 in
theorem mayHaveDone_any (ok : Nat → Prop) (p : Int) (l : List Dn) (hfew : l.length * 32 ≤ 140737488351232) (la : Option Addr) (lc : Nat) (w : World) (hL : Lies kDn ok w la lc l) (R : Bool) (hR : R = true ↔ DnsP p l) :
    Calls Try.prog 28 #[.slice la l.length lc, .int .i64 p] w fun e w' => e = .returned (.bool R) ∧ Below w.heap.size w w' := by
  obtain ⟨n, hn⟩ : ∃ n, n = l.length := ⟨_, rfl⟩
  rw [← hn]
  have HL := put_by hL
  have HN := put_by hn
  have HR := put_by hR
  have hn8 : n ≤ 140737488351232 := by omega
  clear hL hn hfew hR
  go_enter Try.func28, Try.ntmps28
  go_wp2
  go_loopw [9] (fun i wr => ∃ (k : Nat), k ≤ n ∧ i = .int .i64 k ∧ Hid (GoodL (OkD p) (fun a b => dnAhead a b = true) l k ∧ Below w.heap.size w wr)) (fun i _ => n - (intOf i).toNat)
  case atStart => exact ⟨0, Nat.zero_le _, rfl, GoodL.zero _ _ l, Below.refl _ _⟩
  case round =>
    obtain ⟨k, hk, rfl, HB⟩ := hrel
    rename World => wr
    by_cases hlt : k < n
    · have hx : k < l.length := by rw [← HN.out]; exact hlt
      have HBB := put_by HB.out.2
      have HG := put_by HB.out.1
      have HNO : Hid (¬ OkD p l[k] → R = false) := fun h => of_not HR.out (fun hp => h (hp.1 _ (List.getElem_mem hx)))
      obtain ⟨bb, off, rfl, hb, hc⟩ := dn_at HL.out hx
      obtain ⟨d0, d1, d2, d3⟩ := hc wr HBB.out
      have HA := put_by (HBB.out.trans (((Below.refl wr.heap.size wr).alloc (Nat.le_refl _) (.cells #[.int .i64 (l[k]).client, .int .i64 (l[k]).number, .int .i64 (l[k]).pos, .bool (l[k]).kept] 53)).mono HBB.out.size))
      have ik : (k : Int) < (n : Int) := by omega
      clear hc HB
      have HO : Hid (OkD p l[k] ↔ (1 ≤ (l[k]).client ∧ (l[k]).client ≤ 1048576) ∧ (1 ≤ (l[k]).number ∧ (l[k]).number ≤ 1048576) ∧ 1 ≤ (l[k]).pos ∧ (l[k]).pos ≤ p) := Iff.rfl
      obtain ⟨c, e1⟩ : ∃ c, c = (l[k]).client := ⟨_, rfl⟩
      obtain ⟨m, e2⟩ : ∃ m, m = (l[k]).number := ⟨_, rfl⟩
      obtain ⟨s, e3⟩ : ∃ s, s = (l[k]).pos := ⟨_, rfl⟩
      obtain ⟨g, e4⟩ : ∃ g, g = (l[k]).kept := ⟨_, rfl⟩
      have HE : Hid (l[k] = ⟨c, m, s, g⟩) := by rw [e1, e2, e3, e4]; exact rfl
      rw [← e1] at d0 HO HA
      rw [← e2] at d1 HO HA
      rw [← e3] at d2 HO HA
      rw [← e4] at d3 HA
      clear e1 e2 e3 e4
      have cK : Hid (∀ (x : Int) (r : Bool) (V : World), decide (1 ≤ x ∧ x ≤ 1048576) = r → Calls Try.prog 54 #[.int .i64 x] V fun e w' => e = .returned (.bool r) ∧ w' = V) := fun x r V h => by rw [← h]; exact mayCount_any x V
      obtain ⟨r1, h1⟩ : ∃ r, decide (1 ≤ c ∧ c ≤ 1048576) = r := ⟨_, rfl⟩
      obtain ⟨r2, h2⟩ : ∃ r, decide (1 ≤ m ∧ m ≤ 1048576) = r := ⟨_, rfl⟩
      have K1 := put_by (fun V => cK.out c r1 V h1)
      have K2 := put_by (fun V => cK.out m r2 V h2)
      have H1 := put_by h1
      have H2 := put_by h2
      clear cK h1 h2
      by_cases hall : r1 = true ∧ r2 = true ∧ 1 ≤ s ∧ s ≤ p
      · obtain ⟨rfl, rfl, hs1, hs2⟩ := hall
        have HOk := put_by (HO.out.2 ⟨by have := H1.out; simpa using this, by have := H2.out; simpa using this, hs1, hs2⟩)
        have is1 : ¬ s < 1 := by omega
        have is2 : ¬ p < s := by omega
        cases k with
        | zero =>
          rw [Nat.zero_mul, Nat.add_zero] at d0 d1 d2 d3
          have HT : Hid (GoodL (OkD p) (fun a b => dnAhead a b = true) l 1) := GoodL.step (R := fun a b : Dn => dnAhead a b = true) (fun h1 h2 => dnAhead_trans h1 h2) hx HG.out HOk.out (fun p hp _ => by omega)
          clear HL HG HNO HO
          go_upto_region 6 with (first
            | (go_at_call 54; (with_reducible refine (K1.out _).mono ?_); rintro e w1 ⟨rfl, rfl⟩)
            | (go_at_call 54; (with_reducible refine (K2.out _).mono ?_); rintro e w1 ⟨rfl, rfl⟩))
          go_quiet (fail)
          go_wp2
          go_roundw
          case rel => exact ⟨1, by omega, by go_num, HT.out, drawn_below HA.out _⟩
          case measure => simp [intOf]; omega
        | succ q =>
          have hq : q < l.length := by omega
          obtain ⟨bb', off', e', -, hc3⟩ := dn_at HL.out hq
          cases e'
          have HT : Hid (dnAhead l[q] l[q + 1] = true → GoodL (OkD p) (fun a b => dnAhead a b = true) l (q + 2)) := fun h => GoodL.step (R := fun a b : Dn => dnAhead a b = true) (fun h1 h2 => dnAhead_trans h1 h2) hx HG.out HOk.out (fun p hp _ => by have e : p = q := (by omega); subst e; exact h)
          have HNA : Hid (¬ dnAhead l[q] l[q + 1] = true → R = false) := fun h => of_not HR.out (fun hp => h (pair_next hp.2 hx))
          obtain ⟨cm, hcm⟩ : ∃ cm, cm = cmpD l[q] l[q + 1] := ⟨_, rfl⟩
          have HCm : Hid (cm < 0 ↔ dnAhead l[q] l[q + 1] = true) := by rw [hcm]; exact cmpD_lt _ _
          have cC : Hid (∀ V, Below w.heap.size w V → Calls Try.prog 32 #[.agg #[.int .i64 (l[q]).client, .int .i64 (l[q]).number, .int .i64 (l[q]).pos, .bool (l[q]).kept], .agg #[.int .i64 c, .int .i64 m, .int .i64 s, .bool g]] V fun e w' => e = .returned (.int .i64 cm) ∧ Below V.heap.size V w') := fun V hV => by
            rw [hcm, HE.out]
            exact compareDones_any l[q] ⟨c, m, s, g⟩ V
          generalize (l[q]).client = c' at hc3 cC
          generalize (l[q]).number = m' at hc3 cC
          generalize (l[q]).pos = s' at hc3 cC
          generalize (l[q]).kept = g' at hc3 cC
          have HC3 := put_by hc3
          clear HL HG HNO HO hcm hc3
          have iq : (q : Int) < (n : Int) := by omega
          have iz : (0 : Int) < (q : Int) + 1 := by omega
          have iw : IntKind.i64.wrap (q : Int) = (q : Int) := by rw [IntKind.wrap_i64]; omega
          go_upto_region 6 with (first
            | (go_at_call 54; (with_reducible refine (K1.out _).mono ?_); rintro e w1 ⟨rfl, rfl⟩)
            | (go_at_call 54; (with_reducible refine (K2.out _).mono ?_); rintro e w1 ⟨rfl, rfl⟩))
          have n0 : (wr.alloc (.cells #[.int .i64 c, .int .i64 m, .int .i64 s, .bool g] 53)).cell? ⟨wr.heap.size, 0, none⟩ = some (.int .i64 c) := by simp
          have n1 : (wr.alloc (.cells #[.int .i64 c, .int .i64 m, .int .i64 s, .bool g] 53)).cell? ⟨wr.heap.size, 1, none⟩ = some (.int .i64 m) := by simp
          have n2 : (wr.alloc (.cells #[.int .i64 c, .int .i64 m, .int .i64 s, .bool g] 53)).cell? ⟨wr.heap.size, 2, none⟩ = some (.int .i64 s) := by simp
          have n3 : (wr.alloc (.cells #[.int .i64 c, .int .i64 m, .int .i64 s, .bool g] 53)).cell? ⟨wr.heap.size, 3, none⟩ = some (.bool g) := by simp
          have HCN : Hid (∀ W, Below (wr.alloc (.cells #[.int .i64 c, .int .i64 m, .int .i64 s, .bool g] 53)).heap.size (wr.alloc (.cells #[.int .i64 c, .int .i64 m, .int .i64 s, .bool g] 53)) W → W.cell? ⟨wr.heap.size, 0, none⟩ = some (.int .i64 c) ∧ W.cell? ⟨wr.heap.size, 1, none⟩ = some (.int .i64 m) ∧ W.cell? ⟨wr.heap.size, 2, none⟩ = some (.int .i64 s) ∧ W.cell? ⟨wr.heap.size, 3, none⟩ = some (.bool g)) := fun W hW => ⟨(hW.cell (p := ⟨wr.heap.size, 0, none⟩) (by simp)).trans n0, (hW.cell (p := ⟨wr.heap.size, 1, none⟩) (by simp)).trans n1, (hW.cell (p := ⟨wr.heap.size, 2, none⟩) (by simp)).trans n2, (hW.cell (p := ⟨wr.heap.size, 3, none⟩) (by simp)).trans n3⟩
          clear n0 n1 n2 n3
          generalize wr.alloc (.cells #[.int .i64 c, .int .i64 m, .int .i64 s, .bool g] _) = W0 at HA HCN ⊢
          have bx : Below W0.heap.size W0 W0.drew := (Below.refl _ _).drew
          replace cC : Hid (∀ V, Below W0.heap.size W0 V → Calls Try.prog 32 #[.agg #[.int .i64 c', .int .i64 m', .int .i64 s', .bool g'], .agg #[.int .i64 c, .int .i64 m, .int .i64 s, .bool g]] V fun e w' => e = .returned (.int .i64 cm) ∧ Hid (Below w.heap.size w w') ∧ Below W0.heap.size W0 w') := fun V hV => (cC.out V (HA.out.trans (hV.mono HA.out.size))).mono (fun e w' h => ⟨h.1, HA.out.trans ((hV.trans (h.2.mono hV.size)).mono HA.out.size), hV.trans (h.2.mono hV.size)⟩)
          clear d0 d1 d2 d3
          refine wp_region_held (S := fun W => Below W0.heap.size W0 W) (by kernel_rfl) ?_
          change wpAnyH _ _ _ _ _ 12 #[false, false, false, false, false, false, false, false, false, false, false, false] _ W0.drew
          refine takeH (i := 0) 35 (v := .int .i64 ((q : Int) + 1)) rfl rfl (by kernel_rfl) (by kernel_rfl) (by kernel_rfl) (fun _ _ _ h => h) (Or.inl ⟨by kernel_rfl, ?_⟩) bx ?_
          · intro wq hq
            go_simp
          simp only [Act.put, List.setIfInBounds_toArray, List.set_cons_zero]
          refine takeH (i := 1) 36 (v := .bool true) rfl rfl (by kernel_rfl) (by kernel_rfl) (by kernel_rfl) (fun _ _ _ h => h) (Or.inl ⟨by kernel_rfl, ?_⟩) bx ?_
          · intro wq hq
            go_simp
          simp only [Act.put, List.setIfInBounds_toArray, List.set_cons_zero, List.set_cons_succ]
          refine takeH (i := 2) 37 (v := .bool true) rfl rfl (by kernel_rfl) (by kernel_rfl) (by kernel_rfl) (fun _ _ _ h => h) (Or.inl ⟨by kernel_rfl, ?_⟩) bx ?_
          · intro wq hq
            go_simp
          simp only [Act.put, List.setIfInBounds_toArray, List.set_cons_zero, List.set_cons_succ]
          refine takeH (i := 3) 38 (v := .slice (some ⟨bb, off, none⟩) n lc) rfl rfl (by kernel_rfl) (by kernel_rfl) (by kernel_rfl) (fun _ _ _ h => h) (Or.inl ⟨by kernel_rfl, ?_⟩) bx ?_
          · intro wq hq
            go_simp
          simp only [Act.put, List.setIfInBounds_toArray, List.set_cons_zero, List.set_cons_succ]
          refine takeH (i := 4) 39 (v := .int .i64 ((q : Int) + 1)) rfl rfl (by kernel_rfl) (by kernel_rfl) (by kernel_rfl) (fun _ _ _ h => h) (Or.inl ⟨by kernel_rfl, ?_⟩) bx ?_
          · intro wq hq
            go_simp
          simp only [Act.put, List.setIfInBounds_toArray, List.set_cons_zero, List.set_cons_succ]
          refine takeH (i := 5) 40 (v := .int .i64 (q : Int)) rfl rfl (by kernel_rfl) (by kernel_rfl) (by kernel_rfl) (fun _ _ _ h => h) (Or.inl ⟨by kernel_rfl, ?_⟩) bx ?_
          · intro wq hq
            go_simp
          simp only [Act.put, List.setIfInBounds_toArray, List.set_cons_zero, List.set_cons_succ]
          refine takeH (i := 6) 41 (v := .pointer (some ⟨bb, off + q * 4, none⟩)) rfl rfl (by kernel_rfl) (by kernel_rfl) (by kernel_rfl) (fun _ _ _ h => h) (Or.inl ⟨by kernel_rfl, ?_⟩) bx ?_
          · intro wq hq
            go_simp
          simp only [Act.put, List.setIfInBounds_toArray, List.set_cons_zero, List.set_cons_succ]
          refine takeH (i := 7) 42 (v := .agg #[.int .i64 c', .int .i64 m', .int .i64 s', .bool g']) rfl rfl (by kernel_rfl) (by kernel_rfl) (by kernel_rfl) (fun _ _ _ h => h) (Or.inl ⟨by kernel_rfl, ?_⟩) bx ?_
          · intro wq hq
            have hh := HC3.out wq (HA.out.trans (hq.mono HA.out.size))
            clear HC3
            obtain ⟨q0, q1, q2, q3⟩ := hh
            go_simp
          simp only [Act.put, List.setIfInBounds_toArray, List.set_cons_zero, List.set_cons_succ]
          refine takeH (i := 8) 43 (v := .agg #[.int .i64 c, .int .i64 m, .int .i64 s, .bool g]) rfl rfl (by kernel_rfl) (by kernel_rfl) (by kernel_rfl) (fun _ _ _ h => h) (Or.inl ⟨by kernel_rfl, ?_⟩) bx ?_
          · intro wq hq
            have hh := HCN.out wq hq
            clear HC3 HCN
            obtain ⟨q0, q1, q2, q3⟩ := hh
            go_simp
          simp only [Act.put, List.setIfInBounds_toArray, List.set_cons_zero, List.set_cons_succ]
          refine wpAnyH_ready (rs := [9]) (by kernel_rfl) (by simp) ?_
          refine AllReadyH.cons rfl (fun K1 hK1 => ?_) AllReadyH.nil
          rw [if_pos (by kernel_rfl)]
          unfold Oper.wp
          go_simp
          go_wp2_with (go_at_call 32; (with_reducible refine (cC.out _ bx).mono ?_); clear cC; rintro e w1 ⟨rfl, H3, b3⟩)
          refine hK1.out _ _ b3 (fun _ => ?_)
          simp only [List.setIfInBounds_toArray, List.set_cons_zero, List.set_cons_succ]
          refine takeH (i := 10) 45 (v := .bool (decide (0 ≤ cm))) rfl rfl (by kernel_rfl) (by kernel_rfl) (by kernel_rfl) (fun _ _ _ h => h) (Or.inl ⟨by kernel_rfl, ?_⟩) b3 ?_
          · intro wq hq
            go_simp
          simp only [Act.put, List.setIfInBounds_toArray, List.set_cons_zero, List.set_cons_succ]
          refine takeH (i := 11) 46 (v := .bool (decide (0 ≤ cm))) rfl rfl (by kernel_rfl) (by kernel_rfl) (by kernel_rfl) (fun _ _ _ h => h) (Or.inl ⟨by kernel_rfl, ?_⟩) b3 ?_
          · intro wq hq
            go_simp
          simp only [Act.put, List.setIfInBounds_toArray, List.set_cons_zero, List.set_cons_succ]
          refine wpAnyH_done (by kernel_rfl) ?_ _
          by_cases hcz : 0 ≤ cm
          · have hF : R = false := HNA.out (fun h => by have := HCm.out.2 h; omega)
            have HF := put_by hF
            clear hF
            go_wp2
            go_ret
            rw [HF.out]
            exact ⟨rfl, H3.out⟩
          · have HTT := put_by (HT.out (HCm.out.1 (by omega)))
            go_wp2
            go_roundw
            case rel => exact ⟨q + 2, by omega, by go_num, HTT.out, H3.out⟩
            case measure => simp [intOf]; omega
      · have HF := put_by (HNO.out (fun h => hall ⟨by rw [← H1.out]; exact decide_eq_true (HO.out.1 h).1, by rw [← H2.out]; exact decide_eq_true (HO.out.1 h).2.1, (HO.out.1 h).2.2.1, (HO.out.1 h).2.2.2⟩))
        clear HL HG HNO HO H1 H2
        cases r1 with
        | false =>
          go_wp2_with (first
            | (go_at_call 54; (with_reducible refine (K1.out _).mono ?_); rintro e w1 ⟨rfl, rfl⟩)
            | (go_at_call 54; (with_reducible refine (K2.out _).mono ?_); rintro e w1 ⟨rfl, rfl⟩))
          go_ret
          rw [HF.out]
          exact ⟨rfl, HA.out⟩
        | true =>
          cases r2 with
          | false =>
            go_wp2_with (first
              | (go_at_call 54; (with_reducible refine (K1.out _).mono ?_); rintro e w1 ⟨rfl, rfl⟩)
              | (go_at_call 54; (with_reducible refine (K2.out _).mono ?_); rintro e w1 ⟨rfl, rfl⟩))
            go_ret
            rw [HF.out]
            exact ⟨rfl, HA.out⟩
          | true =>
            by_cases hs1 : s < 1
            · clear hall
              go_wp2_with (first
                | (go_at_call 54; (with_reducible refine (K1.out _).mono ?_); rintro e w1 ⟨rfl, rfl⟩)
                | (go_at_call 54; (with_reducible refine (K2.out _).mono ?_); rintro e w1 ⟨rfl, rfl⟩))
              go_ret
              rw [HF.out]
              exact ⟨rfl, HA.out⟩
            · have hs2 : p < s := by
                refine Int.not_le.1 (fun h => hall ⟨rfl, rfl, by omega, h⟩)
              clear hall
              go_wp2_with (first
                | (go_at_call 54; (with_reducible refine (K1.out _).mono ?_); rintro e w1 ⟨rfl, rfl⟩)
                | (go_at_call 54; (with_reducible refine (K2.out _).mono ?_); rintro e w1 ⟨rfl, rfl⟩))
              go_ret
              rw [HF.out]
              exact ⟨rfl, HA.out⟩
    · have HT : Hid (R = true) := HR.out.2 (HB.out.1.all (by rw [← HN.out]; omega))
      have HBB := put_by HB.out.2
      have ik : ¬ (k : Int) < (n : Int) := by omega
      clear HB
      go_wp2
      go_ret
      rw [HT.out]
      exact ⟨rfl, HBB.out⟩

end Go.Proofs.Ytndnbkgejdindaa
