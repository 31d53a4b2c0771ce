/- A unit that was swapped and swapped back leaves the chains as they were: the walk. -/
import Derived.Test.YtcffikfjbpeggabSwBackP
import Derived.Test.YtcffikfjbpeggabSameLay
namespace Go.Proofs.Ytcffikfjbpeggab
open Go.ChangeShapes Go.WideShapes Go.ChangeAt Go.RowKit

theorem box_keeps (W : World) (p q : Value) (ty : TypeId) : Hid (∀ V, Below (W.alloc (.cells #[p, q] ty)).heap.size (W.alloc (.cells #[p, q] ty)) V → V.cell? ⟨W.heap.size, 0, none⟩ = some p ∧ V.cell? ⟨W.heap.size, 1, none⟩ = some q) := fun _ hV =>
  ⟨((Duo.new W p q ty).later hV).c0, ((Duo.new W p q ty).later hV).c1⟩

theorem for_at0 {ok : Nat → Prop} (la : Option Addr) (m lc : Nat) (ls : List Int) (turn : Int) (hml : m = ls.length) (hm8 : m * 8 ≤ 140737488351232) (w : World) (hL : Lies kInt ok w la lc ls) (ep : Int) (h0 : 0 ≤ ep) (h1 : ep < 1000000) :
    Calls Try.prog 6 #[.slice la m lc, .int .i64 ep, .int .i64 turn] w fun e w' => ∃ (cs : List (List Int)) (a : Option Addr) (n c : Nat), e = .returned (.agg #[.int .i64 ep, .slice a n c]) ∧ Hid ((n = cs.length ∧ LayAt w' a c cs) ∧ Below w.heap.size w w') := by
  refine (for_at la m lc ls ep turn hml hm8 w hL).mono ?_
  rintro e w' ⟨cs, a, n, c, rfl, h2, h3⟩
  rw [Int.emod_eq_of_lt h0 h1]
  exact ⟨cs, a, n, c, rfl, put_by ⟨h2, h3⟩⟩

set_option maxRecDepth 100000 in
set_option maxHeartbeats 8000000 in
theorem SwapBack_any {ok : Nat → Prop} (la : Option Addr) (m lc : Nat) (ls : List Int) (epoch turn which pos : Int) (hml : m = ls.length) (hm8 : m * 8 ≤ 140737488351232) (w : World) (hL : Lies kInt ok w la lc ls) :
    Calls Try.prog 5 #[.slice la m lc, .int .i64 epoch, .int .i64 turn, .int .i64 which, .int .i64 pos] w fun e w' => e = .returned (.bool true) ∧ Below w.heap.size w w' := by
  obtain ⟨ep, hep⟩ : ∃ ep, ep = epoch % 999998 := ⟨_, rfl⟩
  have ep0 : 0 ≤ ep := by omega
  have ep1 : ep ≤ 999997 := by omega
  have HF := put_by (for_at0 la m lc ls turn hml hm8 w hL ep ep0 (by omega))
  have HP := put_by (fun V => Picked_any epoch 999998 (by decide) (by decide) V)
  rw [← hep] at HP
  clear hL hml hm8 hep
  go_enter Try.func5, Try.ntmps5
  go_wp2_with (first
    | (go_at_call 7; (with_reducible refine (HP.out _).mono ?_); clear HP; rintro e w' ⟨rfl, rfl⟩)
    | (go_at_call 6; (with_reducible refine (HF.out).mono ?_); clear HF; rintro e V1 ⟨cs, a, n, c, rfl, HA1⟩; refine hidGoal ?_))
  unfold Hid
  obtain ⟨l1, l5⟩ := HA1.out.1.2.len
  rw [← HA1.out.1.1] at l1 l5
  have HK := box_keeps V1 (.int .i64 ep) (.slice a n c) 25
  have hB2 : Below V1.heap.size V1 (V1.alloc (.cells #[.int .i64 ep, .slice a n c] 25)) := (Below.refl _ _).alloc (Nat.le_refl _) _
  have HA := put_by (And.intro HA1.out.1.1 (HA1.out.1.2.later hB2))
  have HBw := put_by (HA1.out.2.trans (hB2.mono HA1.out.2.size))
  clear HA1 hB2
  go_upto_region 2 with (fail)
  generalize V1.alloc (.cells #[.int .i64 ep, .slice a n c] 25) = W1 at HA HK HBw ⊢
  obtain ⟨k0, k1⟩ := HK.out W1 (Below.refl _ _)
  have HFor := put_by HA.out.2.1
  go_wp2
  clear k0 k1
  go_loopw [12, 13] (fun v iv wr => ∃ (k : Nat) (ta : Option Addr) (ti tc : Nat), k ≤ n ∧ iv = .int .i64 k ∧ v = .slice ta ti tc ∧ Hid (Rows kInt (fun _ => True) wr W1.heap.size 3 (.slice ta ti tc) (cs.take k).flatten ∧ Below W1.heap.size W1 wr)) (fun _ iv _ => n - (intOf iv).toNat)
  case atStart => exact ⟨0, none, 0, 0, Nat.zero_le _, rfl, rfl, put_by ⟨Rows.nil _ _ _ _ _, Below.refl _ _⟩⟩
  case round =>
    obtain ⟨k, ta, ti, tc, hk, rfl, rfl, HJ⟩ := hrel
    obtain ⟨k0, k1⟩ := HK.out wr HJ.out.2
    by_cases hlt : k < n
    · have hkc : k < cs.length := by have := HA.out.1; omega
      obtain ⟨b, off, a2, c2, rfl, hb, -, hc, hL2⟩ := row_at HA.out.2.2 hkc
      have hc1 : wr.cell? ⟨b, off + k, none⟩ = some (.slice a2 cs[k].length c2) := (HJ.out.2.cell (p := ⟨b, off + k, none⟩) hb).trans hc
      have hm3 : cs[k].length ≤ 3 := (HFor.out.2.2.1 _ (List.getElem_mem _)).2
      have HL2 : Hid (Lies kInt (fun b => b < W1.heap.size) wr a2 c2 cs[k]) := put_by (hL2.move (Kept.of_below HJ.out.2) (fun _ _ h => h))
      have HTF := put_by (take_flatten hkc)
      have HW : Hid ((cs.take k).flatten.length ≤ 18) := put_by (flatten_few (by rw [List.length_take]; omega) (fun c hc => (HFor.out.2.2.1 c (List.mem_of_mem_take hc)).2))
      obtain ⟨z, hz⟩ : ∃ z, z = cs[k].length := ⟨_, rfl⟩
      rw [← hz] at hc1 hm3
      have HZ := put_by hz
      clear hc hb hL2 hz
      go_wp2_with (at_builtin; refine wpList_append_rows (K := kInt) (ok := fun _ => True) (ok2 := fun b => b < W1.heap.size) eltI rfl (.tmp 44) (.tmp 49) rfl W1.heap.size (.slice ta ti tc) _ rfl HJ.out.1 a2 c2 z cs[k] rfl HZ.out HL2.out (fun _ _ _ _ => trivial) (fun b _ h e => by have := (rows_lt HJ.out.1 b e).1; omega) (by have := HW.out; omega) (by decide) HJ.out.2.size ?_; intro v' w5 r1 r2 r3; refine hidGoal ?_)
      obtain ⟨a3, c3, e3⟩ := rows_form r1
      subst e3
      obtain ⟨n3, hn3⟩ : ∃ n3, n3 = ((cs.take k).flatten ++ cs[k]).length := ⟨_, rfl⟩
      rw [← hn3] at r1 ⊢
      rw [← HTF.out] at r1
      have HJ2 := put_by (And.intro r1 (HJ.out.2.grown r2 HJ.out.2.size (fun g hg => (rows_lt HJ.out.1 g hg).1)))
      clear r1 r2 r3 hn3
      unfold Hid
      go_wp2
      go_roundw
      case rel => exact ⟨k + 1, a3, n3, c3, by omega, by simp, rfl, HJ2⟩
      case measure => simp [intOf]; omega
    · obtain rfl : k = n := by omega
      have HAl : Hid (ti = cs.flatten.length ∧ Lies kInt (fun _ => True) wr ta tc cs.flatten) := put_by (by
        have h1 := HJ.out.1
        rw [HA.out.1, List.take_length] at h1
        obtain ⟨h2, h3, -, -⟩ := rows_lies h1 (fun _ _ => trivial)
        exact ⟨h2, h3⟩)
      have HBr := put_by HJ.out.2
      have t5 : ti ≤ 5 := by have := HAl.out.1; have := HFor.out.2.2.2.2; omega
      have t1 : 1 ≤ ti := by
        have h1 := HAl.out.1
        have h2 := flatten_many (cs := cs) (fun c hc => (HFor.out.2.2.1 c hc).1)
        have h3 := HA.out.1
        omega
      obtain ⟨qn, hqn⟩ : ∃ qn : Nat, which % (ti : Int) = qn := ⟨(which % (ti : Int)).toNat, by have := Int.emod_nonneg which (show (ti : Int) ≠ 0 by omega); omega⟩
      have hq2 : qn < ti := by have := Int.emod_lt_of_pos which (show (0 : Int) < ti by omega); omega
      have HP := put_by (fun V => Picked_any which (ti : Int) (by omega) (by omega) V)
      rw [hqn] at HP
      have hqc : qn < cs.flatten.length := by have := HAl.out.1; omega
      obtain ⟨b9, o9, rfl, -, -, hc9⟩ := int_at HAl.out.2 hqc
      have HOld := put_by (List.getElem_mem hqc)
      have HOr := put_by (HFor.out.1 _ (List.getElem_mem hqc))
      generalize cs.flatten[qn] = old at hc9 HOld HOr
      clear hqn HJ hqc
      go_wp2_with (go_at_call 7; (with_reducible refine (HP.out _).mono ?_); clear HP; rintro e w' ⟨rfl, rfl⟩)
      rename World => W2
      go_loopw [15, 16] (fun fv iv wr => wr = W2 ∧ ∃ (k g : Nat), k ≤ ti ∧ iv = .int .i64 k ∧ fv = .int .i64 g ∧ Hid (FreeK cs.flatten k g)) (fun _ iv _ => ti - (intOf iv).toNat)
      case atStart => exact ⟨rfl, 0, 0, Nat.zero_le _, rfl, rfl, put_by ⟨fun j hj => absurd hj (Nat.not_lt_zero _), .inr (Nat.le_refl _)⟩⟩
      case round =>
        obtain ⟨rfl, k2, g, hk2, rfl, rfl, HG⟩ := hrel
        have hg5 : g ≤ 5 := by have := HG.out.1.le; have := HAl.out.1; omega
        by_cases hlt2 : k2 < ti
        · go_wp2
          go_loopw [15, 17] (fun fv iv ws => ws = wr ∧ ∃ (i g2 : Nat), i ≤ ti ∧ iv = .int .i64 i ∧ fv = .int .i64 g2 ∧ Hid (FreeI cs.flatten g i g2)) (fun _ iv _ => ti - (intOf iv).toNat)
          case atStart => exact ⟨rfl, 0, g, Nat.zero_le _, rfl, rfl, put_by HG.out.begin⟩
          case round =>
            obtain ⟨rfl, i, g2, hi, rfl, rfl, HI⟩ := hrel
            have hg52 : g2 ≤ 5 := by have := HI.out.1.le; have := HAl.out.1; omega
            by_cases hit : i < ti
            · have hic : i < cs.flatten.length := by have := HAl.out.1; omega
              obtain ⟨b8, o8, e8, -, -, hc8⟩ := int_at HAl.out.2 hic
              cases e8
              have HY := put_by (fun e => HI.out.yes hic e)
              have HN := put_by (fun e => HI.out.no hic e)
              generalize cs.flatten[i] = x at hc8 HY HN
              by_cases e : x = (g2 : Int)
              · have HI2 := put_by (HY.out e)
                subst e
                clear HY HN
                go_wp2
                go_roundw
                case rel => exact ⟨trivial, i + 1, g2 + 1, by omega, by simp, by simp, HI2⟩
                case measure => simp [intOf]; omega
              · have HI2 := put_by (HN.out e)
                have ze : (x == (g2 : Int)) = false := by simpa using e
                clear HY HN
                go_wp2
                go_roundw
                case rel => exact ⟨trivial, i + 1, g2, by omega, by simp, rfl, HI2⟩
                case measure => simp [intOf]; omega
            · obtain rfl : i = ti := by omega
              have HG2 : Hid (FreeK cs.flatten (k2 + 1) g2) := put_by (by
                have h1 := HI.out
                rw [HAl.out.1] at h1
                exact h1.done HG.out)
              go_wp2
              go_roundw
              case rel => exact ⟨trivial, k2 + 1, g2, by omega, by simp, rfl, HG2⟩
              case measure => simp [intOf]; omega
        · obtain rfl : k2 = ti := by omega
          have HFr : Hid ((g : Int) ∉ cs.flatten ∧ g ≤ 5) := put_by (by
            have h1 := HG.out
            rw [HAl.out.1] at h1
            exact ⟨h1.free.1, hg5⟩)
          clear HG HAl hc9
          -- the swaps
          obtain ⟨f1, f2, f3⟩ := swC_for HFor.out HOld.out HFr.out.1 (by omega) (by have := HFr.out.2; omega)
          have HSw := put_by (And.intro f1 (And.intro f2 f3))
          have hbk : swC (g : Int) old (swC old (g : Int) cs) = cs := swC_back HFr.out.1
          clear f1 f2 f3
          have h1ep : ep + 1 + 1 = ep + 2 := by omega
          have c1 := put_by (swap_at (HA.out.2.later HBr.out) ep ep0 (by omega) k HA.out.1 old (g : Int) (by have := HFr.out.2; omega) HOld.out HFr.out.1)
          obtain ⟨k0, k1⟩ := HK.out wr HBr.out
          go_wp2_with (go_at_call 11; (with_reducible refine (c1.out).mono ?_); clear c1; rintro e V3 ⟨b3, d3, rfl, H3⟩; refine hidGoal ?_)
          unfold Hid
          have HK3 := box_keeps V3 (.int .i64 (ep + 1)) (.slice b3 k d3) 25
          have hA3 := (Below.refl V3.heap.size V3).alloc (Nat.le_refl _) (.cells #[.int .i64 (ep + 1), .slice b3 k d3] 25)
          have HX3 := put_by (H3.out.1.later hA3)
          have HB3 := put_by (HBr.out.trans ((H3.out.2.trans (hA3.mono H3.out.2.size)).mono HBr.out.size))
          clear H3 hA3
          go_upto_region 18 with (fail)
          generalize V3.alloc (.cells #[.int .i64 (ep + 1), .slice b3 k d3] 25) = W3 at HK3 HX3 HB3 ⊢
          obtain ⟨i0, i1⟩ := HK3.out W3 (Below.refl _ _)
          have c2 := put_by (swap_at HX3.out (ep + 1) (by omega) (by omega) k (by rw [swC_length]; exact HA.out.1) (g : Int) old HOr.out HSw.out.2.1 HSw.out.2.2)
          rw [hbk, h1ep] at c2
          go_wp2_with (go_at_call 11; (with_reducible refine (c2.out).mono ?_); clear c2; rintro e V4 ⟨b4, d4, rfl, H4⟩; refine hidGoal ?_)
          unfold Hid
          have HK4 := box_keeps V4 (.int .i64 (ep + 2)) (.slice b4 k d4) 25
          have hA4 := (Below.refl V4.heap.size V4).alloc (Nat.le_refl _) (.cells #[.int .i64 (ep + 2), .slice b4 k d4] 25)
          have HY4 := put_by (H4.out.1.later hA4)
          have HB4 := put_by (H4.out.2.trans (hA4.mono H4.out.2.size))
          clear H4 hA4
          go_upto_region 19 with (fail)
          generalize V4.alloc (.cells #[.int .i64 (ep + 2), .slice b4 k d4] 25) = W4 at HK4 HY4 HB4 ⊢
          have HB14 := put_by (HB3.out.trans (HB4.out.mono HB3.out.size))
          obtain ⟨k0, k1⟩ := HK.out W4 HB14.out
          have c3 := put_by (swap_none (HA.out.2.later HB14.out) ep ep0 (by omega) k HA.out.1 (g : Int) old HOr.out HFr.out.1)
          go_wp2_with (go_at_call 11; (with_reducible refine (c3.out).mono ?_); clear c3; rintro e V5 ⟨b5, m5, d5, rfl, H5⟩; refine hidGoal ?_)
          unfold Hid
          have hA5 := (Below.refl V5.heap.size V5).alloc (Nat.le_refl _) (.cells #[.int .i64 0, .slice b5 m5 d5] 25)
          have HB45 := put_by (H5.out.trans (hA5.mono H5.out.size))
          clear H5 hA5
          go_upto_region 20 with (fail)
          generalize V5.alloc (.cells #[.int .i64 0, .slice b5 m5 d5] 25) = W5 at HB45 ⊢
          have HB15 := put_by (HB14.out.trans (HB45.out.mono HB14.out.size))
          have HB35 := put_by (HB4.out.trans (HB45.out.mono HB4.out.size))
          have cM := put_by (may_at (HX3.out.later HB35.out) (ep + 1) (by omega) (by omega) k (by rw [swC_length]; exact HA.out.1))
          obtain ⟨k0, k1⟩ := HK.out W5 HB15.out
          obtain ⟨i0, i1⟩ := HK3.out W5 HB35.out
          obtain ⟨j0, j1⟩ := HK4.out W5 HB45.out
          go_wp2_with (go_at_call 10; (with_reducible refine (cM.out).mono ?_); clear cM; rintro e W6 ⟨rfl, h6⟩; have H6 := put_by h6; clear h6)
          have HB16 := put_by (HB15.out.trans (H6.out.mono HB15.out.size))
          have HB46 := put_by (HB45.out.trans (H6.out.mono HB45.out.size))
          have HB36 := put_by (HB35.out.trans (H6.out.mono HB35.out.size))
          clear HB15 HB45 HB35 HB14 HB4 HB3 HBr H6 k0 k1 i0 i1 j0 j1
          go_loopw [24] (fun iv wr => ∃ z : Nat, z ≤ k ∧ iv = .int .i64 z ∧ Hid (Below W6.heap.size W6 wr)) (fun iv _ => k - (intOf iv).toNat)
          case atStart => exact ⟨0, Nat.zero_le _, rfl, put_by (Below.refl _ _)⟩
          case round =>
            obtain ⟨z, hz, rfl, HJ⟩ := hrel
            have HB17 := put_by (HB16.out.trans (HJ.out.mono HB16.out.size))
            have HB47 := put_by (HB46.out.trans (HJ.out.mono HB46.out.size))
            obtain ⟨k0, k1⟩ := HK.out _ HB17.out
            obtain ⟨j0, j1⟩ := HK4.out _ HB47.out
            by_cases hzt : z < k
            · have hzc : z < cs.length := by have := HA.out.1; omega
              obtain ⟨p1, o1, a1, c1, rfl, q1, -, e1, g1⟩ := row_at HY4.out.2 hzc
              obtain ⟨p2, o2, a2, c2, rfl, q2, -, e2, g2⟩ := row_at HA.out.2.2 hzc
              have hE1 := (HB47.out.cell (p := ⟨p1, o1 + z, none⟩) q1).trans e1
              have hE2 := (HB17.out.cell (p := ⟨p2, o2 + z, none⟩) q2).trans e2
              have HC := put_by (fun V (hV : Below wr.heap.size wr V) => sameInts_yes a1 a2 cs[z].length cs[z].length c1 c2 cs[z] rfl rfl (HFor.out.few.2 _ (List.getElem_mem _)) V (g1.later (HB47.out.trans (hV.mono HB47.out.size))) (g2.later (HB17.out.trans (hV.mono HB17.out.size))))
              have HR : Hid (∀ V, Below wr.heap.size wr V → (V.cell? ⟨V4.heap.size, 1, none⟩ = some (.slice (some ⟨p1, o1, none⟩) k d4) ∧ V.cell? ⟨V1.heap.size, 1, none⟩ = some (.slice (some ⟨p2, o2, none⟩) k c)) ∧ V.cell? ⟨p1, o1 + z, none⟩ = some (.slice a1 cs[z].length c1) ∧ V.cell? ⟨p2, o2 + z, none⟩ = some (.slice a2 cs[z].length c2)) := put_by (fun V hV =>
                ⟨⟨(HK4.out _ (HB47.out.trans (hV.mono HB47.out.size))).2, (HK.out _ (HB17.out.trans (hV.mono HB17.out.size))).2⟩, ((HB47.out.trans (hV.mono HB47.out.size)).cell (p := ⟨p1, o1 + z, none⟩) q1).trans e1, ((HB17.out.trans (hV.mono HB17.out.size)).cell (p := ⟨p2, o2 + z, none⟩) q2).trans e2⟩)
              clear e1 e2 g1 g2 q1 q2
              generalize cs[z].length = y at hE1 hE2 HC HR
              have HJd := put_by (Below.refl wr.heap.size wr).drew
              go_upto_region 25 with (fail)
              go_region_held3 (fun V => V.cell? ⟨V4.heap.size, 1, none⟩ = some (.slice (some ⟨p1, o1, none⟩) k d4) ∧ V.cell? ⟨V1.heap.size, 1, none⟩ = some (.slice (some ⟨p2, o2, none⟩) k c) ∧ V.cell? ⟨p1, o1 + z, none⟩ = some (.slice a1 y c1) ∧ V.cell? ⟨p2, o2 + z, none⟩ = some (.slice a2 y c2)) (go_keep) (first
                | (go_at_call 12; (with_reducible refine (HC.out _ HJd.out).mono ?_); clear HC; rintro e V7 ⟨rfl, h7⟩; have H7 := put_by (HJd.out.trans (h7.mono HJd.out.size)); clear h7; obtain ⟨⟨u0, u1⟩, u2, u3⟩ := HR.out _ H7.out))
              all_goals
                have HJ7 := put_by (HJ.out.trans (H7.out.mono HJ.out.size))
                go_wp2
                go_roundw
                case rel => exact ⟨z + 1, by omega, by simp, HJ7⟩
                case measure => simp [intOf]; omega
            · obtain rfl : z = k := by omega
              have HB37 := put_by (HB36.out.trans (HJ.out.mono HB36.out.size))
              obtain ⟨i0, i1⟩ := HK3.out _ HB37.out
              obtain ⟨P, hP⟩ : ∃ P, P = pos % ((z : Int) * 64) := ⟨_, rfl⟩
              have P0 : 0 ≤ P := by rw [hP]; exact Int.emod_nonneg _ (by omega)
              have P1 : P < (z : Int) * 64 := by rw [hP]; exact Int.emod_lt_of_pos _ (by omega)
              have HC1 := put_by (fun V => Picked_any pos ((z : Int) * 64) (by omega) (by omega) V)
              rw [← hP] at HC1
              clear hP
              have HPl := put_by (place_at (HA.out.2.later HB17.out) ep ep0 (by omega) z HA.out.1 P P0 (by omega))
              have HPx := put_by (fun V (hV : Below wr.heap.size wr V) => place_at (HX3.out.later (HB37.out.trans (hV.mono HB37.out.size))) (ep + 1) (by omega) (by omega) z (by rw [swC_length]; exact HA.out.1) P P0 (by omega))
              have HKx := put_by (fun V (hV : Below wr.heap.size wr V) => HK3.out V (HB37.out.trans (hV.mono HB37.out.size)))
              have HBF := put_by (fun V (hV : Below wr.heap.size wr V) => HBw.out.trans ((HB17.out.trans (hV.mono HB17.out.size)).mono HBw.out.size))
              go_wp2_with (first
                | (go_at_call 7; (with_reducible refine (HC1.out _).mono ?_); clear HC1; rintro e w' ⟨rfl, rfl⟩)
                | (go_at_call 8; (with_reducible refine (HPl.out).mono ?_); clear HPl; rintro e V8 ⟨c0, a0, rfl, ⟨f0, f1, f2, f3, f4⟩, h8⟩; have H8 := put_by h8; clear h8; obtain ⟨i0, i1⟩ := HKx.out _ H8.out)
                | (go_at_call 8; (with_reducible refine (HPx.out _ H8.out).mono ?_); clear HPx; rintro e V9 ⟨c1, a1, rfl, ⟨g0, g1, g2, g3, g4⟩, h9⟩; have H9 := put_by (H8.out.trans (h9.mono H8.out.size)); clear h9; obtain ⟨rfl, rfl⟩ := parts_one (n := z) (a := a0) (b := a1) (c := c0) (d := c1) ⟨f0, f1⟩ ⟨g0, g1⟩ (by omega)))
              go_ret
              exact ⟨by simp, HBF.out _ H9.out⟩

end Go.Proofs.Ytcffikfjbpeggab
