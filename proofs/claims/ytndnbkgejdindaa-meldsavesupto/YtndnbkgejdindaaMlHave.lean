/- Which cells a state may have: what mayHave comes to. -/
import Derived.Test.YtndnbkgejdindaaMlCmp
namespace Go.Proofs.Ytndnbkgejdindaa
open Go.ChangeShapes Go.WideShapes Go.ChangeAt Go.RowKit

theorem cmpK_geq (xs ys : List Int) : decide (0 ≤ cmpK xs ys) = !ahead xs ys := by
  rw [← cmpK_lt]
  by_cases h : cmpK xs ys < 0
  · simp [h]
  · simp [h]; omega

set_option maxRecDepth 100000 in
set_option maxHeartbeats 2000000 in
theorem mayHave_any (ok : Nat → Prop) (p : Int) (l : List Cel) (hfew : l.length * 64 ≤ 140737488351232) (la : Option Addr) (lc : Nat) (w : World) (hL : Lies kCel ok w la lc l) (R : Bool) (hR : R = true ↔ CelsP p l) :
    Calls Try.prog 27 #[.slice la l.length lc, .int .i64 p] w fun e w' => e = .returned (.bool R) ∧ Below w.heap.size w w' := by
  obtain ⟨n, hn⟩ : ∃ n, n = l.length := ⟨_, rfl⟩
  rw [← hn]
  have HL := put_by hL
  have HN := put_by hn
  have HR := put_by hR
  have hn8 : n ≤ 140737488351232 := by omega
  clear hL hn hfew hR
  go_enter Try.func27, Try.ntmps27
  go_wp2
  go_loopw [9] (fun i wr => ∃ (k : Nat), k ≤ n ∧ i = .int .i64 k ∧ Hid (GoodL (OkC p) (fun a b => ahead a.key b.key = true) l k ∧ Below w.heap.size w wr)) (fun i _ => n - (intOf i).toNat)
  case atStart => exact ⟨0, Nat.zero_le _, rfl, GoodL.zero _ _ l, Below.refl _ _⟩
  case round =>
    obtain ⟨k, hk, rfl, HB⟩ := hrel
    rename World => wr
    by_cases hlt : k < n
    · have hx : k < l.length := by rw [← HN.out]; exact hlt
      have HBB := put_by HB.out.2
      have HG := put_by HB.out.1
      obtain ⟨R1, hR1⟩ := bool_of (1 ≤ (l[k]).key.length ∧ (l[k]).key.length ≤ 1200 ∧ (l[k]).val.length ≤ 4000 ∧ ((l[k]).gone = true → (l[k]).val = []))
      have HO : Hid (OkC p l[k] ↔ R1 = true ∧ 1 ≤ (l[k]).since ∧ (l[k]).since ≤ p) := by
        rw [hR1]
        exact ⟨fun h => ⟨⟨h.1, h.2.1, h.2.2.1, h.2.2.2.1⟩, h.2.2.2.2⟩, fun h => ⟨h.1.1, h.1.2.1, h.1.2.2.1, h.1.2.2.2, h.2⟩⟩
      have HNO : Hid (¬ OkC p l[k] → R = false) := fun h => of_not HR.out (fun hp => h (hp.1 _ (List.getElem_mem hx)))
      obtain ⟨bb, off, a1, c1, a2, c2, rfl, hk1, hk2, hb, hc⟩ := cel_at HL.out hx
      obtain ⟨d0, d1, d2, d3⟩ := hc wr HBB.out
      have HX : Hid (Octs w a1 c1 (l[k]).key) := by obtain ⟨xa, xc, e, hxo, -⟩ := hk1; cases e; exact hxo
      have cM : Hid (Calls Try.prog 52 #[.agg #[.slice a1 (l[k]).key.length c1, .slice a2 (l[k]).val.length c2, .bool (l[k]).gone, .int .i64 (l[k]).since]] (wr.alloc (.cells #[.slice a1 (l[k]).key.length c1, .slice a2 (l[k]).val.length c2, .bool (l[k]).gone, .int .i64 (l[k]).since] 51)) fun e w' => e = .returned (.bool R1) ∧ w'.cell? ⟨wr.heap.size, 0, none⟩ = some (.slice a1 (l[k]).key.length c1) ∧ w'.cell? ⟨wr.heap.size, 3, none⟩ = some (.int .i64 (l[k]).since) ∧ Hid (Below w.heap.size w w')) :=
        (mayBeCell_any l[k] a1 a2 c1 c2 _ R1 hR1).mono (fun e w' h => ⟨h.1, (h.2.cell (p := ⟨wr.heap.size, 0, none⟩) (by simp)).trans (by simp), (h.2.cell (p := ⟨wr.heap.size, 3, none⟩) (by simp)).trans (by simp), (HBB.out.trans (((Below.refl _ wr).alloc (Nat.le_refl _) _).mono HBB.out.size)).trans (h.2.mono (Nat.le_trans HBB.out.size ((Below.refl wr.heap.size wr).alloc (Nat.le_refl _) _).size))⟩)
      have ik : (k : Int) < (n : Int) := by omega
      have HIl : Hid ((l[k]).key.length = (l[k]).key.length) := rfl
      clear hc hk1 hk2 HB hR1
      obtain ⟨i1, e1⟩ : ∃ i1, i1 = (l[k]).key.length := ⟨_, rfl⟩
      obtain ⟨i2, e2⟩ : ∃ i2, i2 = (l[k]).val.length := ⟨_, rfl⟩
      obtain ⟨g, e3⟩ : ∃ g, g = (l[k]).gone := ⟨_, rfl⟩
      obtain ⟨s, e4⟩ : ∃ s, s = (l[k]).since := ⟨_, rfl⟩
      have HI := put_by e1
      rw [← e1] at d0 cM
      rw [← e2] at d1 cM
      rw [← e3] at d2 cM
      rw [← e4] at d3 cM HO
      clear e1 e2 e3 e4 HIl
      cases R1 with
      | false =>
        have HF := put_by (HNO.out (fun h => by cases (HO.out.1 h).1))
        clear HL HG HNO HO HX
        go_wp2_with (first
          | (go_at_call 52; (with_reducible refine cM.out.mono ?_); clear cM; rintro e w1 ⟨rfl, x0, x3, H1⟩))
        go_ret
        rw [HF.out]
        exact ⟨rfl, H1.out⟩
      | true =>
        by_cases hs1 : s < 1
        · have HF := put_by (HNO.out (fun h => by have := (HO.out.1 h).2.1; omega))
          clear HL HG HNO HO HX
          go_wp2_with (first
            | (go_at_call 52; (with_reducible refine cM.out.mono ?_); clear cM; rintro e w1 ⟨rfl, x0, x3, H1⟩))
          go_ret
          rw [HF.out]
          exact ⟨rfl, H1.out⟩
        · by_cases hs2 : p < s
          · have HF := put_by (HNO.out (fun h => by have := (HO.out.1 h).2.2; omega))
            clear HL HG HNO HO HX
            go_wp2_with (first
              | (go_at_call 52; (with_reducible refine cM.out.mono ?_); clear cM; rintro e w1 ⟨rfl, x0, x3, H1⟩))
            go_ret
            rw [HF.out]
            exact ⟨rfl, H1.out⟩
          · have HOk := put_by (HO.out.2 ⟨rfl, by omega, by omega⟩)
            cases k with
            | zero =>
              rw [Nat.zero_mul, Nat.add_zero] at d0 d1 d2 d3
              have HT : Hid (GoodL (OkC p) (fun a b => ahead a.key b.key = true) l 1) := GoodL.step (R := fun a b : Cel => ahead a.key b.key = true) (fun h1 h2 => ahead_trans h1 h2) hx HG.out HOk.out (fun p hp _ => by omega)
              clear HL HG HNO HO HX
              go_upto_region 6 with (first
                | (go_at_call 52; (with_reducible refine cM.out.mono ?_); clear cM; rintro e w1 ⟨rfl, x0, x3, H1⟩))
              go_quiet (fail)
              go_wp2
              go_roundw
              case rel => exact ⟨1, by omega, by go_num, HT.out, drawn_below H1.out _⟩
              case measure => simp [intOf]; omega
            | succ q =>
              have hq : q < l.length := by omega
              obtain ⟨bb', off', a3, c3, a4, c4, e', hk3, -, -, hc3⟩ := cel_at HL.out hq
              cases e'
              have HY : Hid (Octs w a3 c3 (l[q]).key) := by obtain ⟨xa, xc, e, hxo, -⟩ := hk3; cases e; exact hxo
              obtain ⟨cm, hcm⟩ : ∃ cm, cm = cmpK (l[q]).key (l[q + 1]).key := ⟨_, rfl⟩
              have hcw := cmpK_wf (l[q]).key (l[q + 1]).key
              rw [← hcm] at hcw
              obtain ⟨i3, e5⟩ : ∃ i3, i3 = (l[q]).key.length := ⟨_, rfl⟩
              have HC3 : Hid (∀ W, Below w.heap.size w W → W.cell? ⟨bb, off + q * 4, none⟩ = some (.slice a3 i3 c3)) := fun W hW => by rw [e5]; exact (hc3 W hW).1
              have cC : Hid (∀ V, Below w.heap.size w V → Calls Try.prog 53 #[.slice a3 i3 c3, .slice a1 i1 c1] V fun e w' => e = .returned (.int .i64 cm) ∧ w' = V) := fun V hV => by rw [e5, HI.out, hcm]; exact Compare_any a3 a1 c3 c1 _ _ V (HY.out.later hV) (HX.out.later hV)
              have HCm : Hid (decide (0 ≤ cm) = !ahead (l[q]).key (l[q + 1]).key) := by rw [hcm]; exact cmpK_geq _ _
              have HT : Hid (ahead (l[q]).key (l[q + 1]).key = true → GoodL (OkC p) (fun a b => ahead a.key b.key = true) l (q + 2)) := fun h => GoodL.step (R := fun a b : Cel => ahead a.key b.key = true) (fun h1 h2 => ahead_trans h1 h2) hx HG.out HOk.out (fun p hp _ => by have e : p = q := (by omega); subst e; exact h)
              have HNA : Hid (¬ ahead (l[q]).key (l[q + 1]).key = true → R = false) := fun h => of_not HR.out (fun hp => h (pair_next hp.2 hx))
              clear hk3 hc3 hcm e5 HL HNO HO HX HY
              have iq : (q : Int) < (n : Int) := by omega
              have iz : (0 : Int) < (q : Int) + 1 := by omega
              go_upto_region 6 with (first
                | (go_at_call 52; (with_reducible refine cM.out.mono ?_); clear cM; rintro e w1 ⟨rfl, x0, x3, H1⟩))
              have x5 := HC3.out _ H1.out
              have cC2 : Hid (∀ j, Calls Try.prog 53 #[.slice a3 i3 c3, .slice a1 i1 c1] (w1.drewN j) fun e w' => e = .returned (.int .i64 cm) ∧ w' = w1.drewN j) := fun j => cC.out _ (drawn_below H1.out j)
              clear cC HC3
              go_quiet (first | (go_at_call 53; with_reducible exact Calls.quiet_of_same (cC2.out _)))
              by_cases hcz : 0 ≤ cm
              · have hF : R = false := HNA.out (fun h => by have := HCm.out; rw [h] at this; simp [hcz] at this)
                have HF := put_by hF
                clear hF
                go_wp2
                go_ret
                rw [HF.out]
                exact ⟨rfl, drawn_below H1.out _⟩
              · have HTT := put_by (HT.out (by have := HCm.out; simp only [hcz, decide_false] at this; simpa using this.symm))
                go_wp2
                go_roundw
                case rel => exact ⟨q + 2, by omega, by go_num, HTT.out, drawn_below H1.out _⟩
                case measure => simp [intOf]; omega
    · have HT : Hid (R = true) := HR.out.2 (HB.out.1.all (by rw [← HN.out]; omega))
      have HBB := put_by HB.out.2
      have ik : ¬ (k : Int) < (n : Int) := by omega
      clear HB
      go_wp2
      go_ret
      rw [HT.out]
      exact ⟨rfl, HBB.out⟩

end Go.Proofs.Ytndnbkgejdindaa
