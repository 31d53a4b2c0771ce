/- The chains as new lists, one unit in the place of another one: the walk. -/
import Derived.Test.YtcffikfjbpeggabLySwapped
import Derived.Test.YtcffikfjbpeggabLyTail
namespace Go.Proofs.Ytcffikfjbpeggab
open Go.ChangeShapes Go.WideShapes Go.ChangeAt Go.RowKit

set_option maxHeartbeats 4000000 in
theorem swapped_any (old next : Int) (a : Option Addr) (cap n : Nat) (cs : List (List Int)) (hn : n = cs.length) (h6 : n ≤ 6) (h3 : ∀ c ∈ cs, c.length ≤ 3) (w : World) (hL : Lies (kRow kInt) (fun b => b < w.heap.size) w a cap cs) :
    Calls Try.prog 17 #[.slice a n cap, .int .i64 old, .int .i64 next] w fun e w' => ∃ G : Nat, e = .returned (.slice (some ⟨G, 0, none⟩) n n) ∧ Lies (kRow kInt) (fun b => w.heap.size ≤ b) w' (some ⟨G, 0, none⟩) n (swC old next cs) ∧ Below w.heap.size w w' := by
  obtain ⟨i0, hi0, hz0, hz1, hz2⟩ := info_parts (show (Try.prog.info? 22).map (fun i => (i.zero, i.size, i.bytes)) = some (some (.slice none 0 0), 1, 24) by kernel_rfl)
  obtain ⟨i1, hi1, hy0, hy1, hy2⟩ := info_parts (show (Try.prog.info? 3).map (fun i => (i.zero, i.size, i.bytes)) = some (some (.int .i64 0), 1, 8) by kernel_rfl)
  have HL := put_by (And.intro hL (And.intro h3 hn))
  clear hL h3 hn
  go_enter Try.func17, Try.ntmps17
  go_wp2_with (at_make; refine wpList_make_full _ rfl _ _ 23 rfl w.heap.size 22 i0 (.slice none 0 0) 1 Try.underlying23 hi0 hz0 hz1 .i64 .i64 _ _ n rfl rfl rfl rfl (by rw [hz2]; omega) (by unfold maxLen; omega) (Nat.le_refl _) ?_; intro w1 hown hg; refine hidGoal ?_)
  have HI0 : Hid (SwI (fun b => w.heap.size ≤ b ∧ b ≠ w.heap.size) w (swU old next) cs w.heap.size n 0 w1 ∧ Below w.heap.size w w1) := put_by ⟨⟨_, hown, fun j _ hj => absurd hj (Nat.not_lt_zero _)⟩, (Below.refl _ w).grown hg (Nat.le_refl _) (fun k e => by cases e)⟩
  clear hown hg
  unfold Hid
  go_wp2
  go_loopw [17] (fun iv wr => ∃ k : Nat, k ≤ n ∧ iv = .int .i64 k ∧ Hid (SwI (fun b => w.heap.size ≤ b ∧ b ≠ w.heap.size) w (swU old next) cs w.heap.size n k wr ∧ Below w.heap.size w wr)) (fun iv _ => n - (intOf iv).toNat)
  case atStart => exact ⟨0, Nat.zero_le _, rfl, HI0⟩
  case round =>
    obtain ⟨k, hk, rfl, HI⟩ := hrel
    by_cases hlt : k < n
    · have hkc : k < cs.length := by have := HL.out.2.2; omega
      obtain ⟨b, off, a2, c2, rfl, hb, hbo, hc, hL2⟩ := row_at HL.out.1 hkc
      have hc1 : wr.cell? ⟨b, off + k, none⟩ = some (.slice a2 cs[k].length c2) := (HI.out.2.cell (p := ⟨b, off + k, none⟩) hbo).trans hc
      have hm3 : cs[k].length ≤ 3 := HL.out.2.1 _ (List.getElem_mem _)
      obtain ⟨m, hm⟩ : ∃ m, m = cs[k].length := ⟨_, rfl⟩
      rw [← hm] at hc1 hm3
      have HM := put_by hm
      have HC := put_by hL2
      clear hm hL2 hc hb hbo
      go_wp2_with (at_make; refine wpList_make_full _ rfl _ _ 22 rfl wr.heap.size 3 i1 (.int .i64 0) 1 Try.underlying22 hi1 hy0 hy1 .i64 .i64 _ _ m rfl rfl rfl rfl (by rw [hy2]; omega) (by unfold maxLen; omega) (Nat.le_refl _) ?_; intro w2 hown hg; refine hidGoal ?_)
      have hgB : Below wr.heap.size wr w2 := (Below.refl _ wr).grown hg (Nat.le_refl _) (fun k e => by cases e)
      have hGw := HI.out.1.ownG
      obtain ⟨R, hR⟩ : ∃ R, R = wr.heap.size := ⟨_, rfl⟩
      rw [← hR] at hown hGw ⊢
      have hI2 : SwI (fun b => w.heap.size ≤ b ∧ b ≠ w.heap.size ∧ b < R) w (swU old next) cs w.heap.size n k w2 := HI.out.1.move (Kept.of_below hgB) (hgB.block w.heap.size (by omega)) (fun b hb ho => ⟨ho.1, ho.2, by omega⟩)
      obtain ⟨⟨u0, hu0⟩, hf0⟩ := hI2.cell hlt
      obtain ⟨-, hcellk, hnext⟩ := hI2.put (R := R) (m := m) hkc hlt HM.out (fun h => h.2.1 rfl)
      have hown3 : (w2.setCell ⟨w.heap.size, k, none⟩ (.slice (some ⟨R, 0, none⟩) m m)).ownsRow R 3 1 (.slice (some ⟨R, 0, none⟩) m m) m ((unitsL (swU old next) cs[k] 0).map (Value.int .i64)) := by
        have e1 : (madeCells (Value.int .i64 0).cells (m * 1)).toList = (unitsL (swU old next) cs[k] 0).map (Value.int .i64) := by
          rw [unitsL_zero, ← HM.out, List.map_replicate, Nat.mul_one]
          exact toList_madeCells_one _ _
        rw [e1] at hown
        exact own_kept hown (fun g hg => by cases hg; exact heap_far _ _ _ _ (show R ≠ w.heap.size by omega))
      have HB3 : Hid (Below w.heap.size w (w2.setCell ⟨w.heap.size, k, none⟩ (.slice (some ⟨R, 0, none⟩) m m))) := put_by ((HI.out.2.trans (hgB.mono HI.out.2.size)).setCell (p := ⟨w.heap.size, k, none⟩) hGw.1 _)
      have HN := put_by hnext
      have HGR : Hid (w.heap.size < R ∧ w.heap.size ≤ w.heap.size) := put_by ⟨hGw.2, hGw.1⟩
      have HO3 := put_by hown3
      clear hnext hown3 hI2 hown hg hgB hGw HI hR
      unfold Hid
      go_wp2
      generalize w2.setCell ⟨w.heap.size, k, none⟩ (.slice (some ⟨R, 0, none⟩) m m) = W3 at hcellk HB3 HN HO3 ⊢
      have HCK := put_by hcellk
      clear hcellk hu0 hf0
      go_loopw [30] (fun jv ws => ∃ i : Nat, i ≤ m ∧ jv = .int .i64 i ∧ Hid (ws.heap[w.heap.size]? = W3.heap[w.heap.size]? ∧ Kept (fun b => w.heap.size ≤ b ∧ b ≠ w.heap.size ∧ b < R) W3 ws ∧ ws.ownsRow R 3 1 (.slice (some ⟨R, 0, none⟩) m m) m ((unitsL (swU old next) cs[k] i).map (Value.int .i64)) ∧ Below w.heap.size w ws)) (fun jv _ => m - (intOf jv).toNat)
      case atStart => exact ⟨0, Nat.zero_le _, rfl, put_by ⟨rfl, Kept.of_below (Below.refl _ _), HO3.out, HB3.out⟩⟩
      case round =>
        obtain ⟨i, hi, rfl, HJ⟩ := hrel
        by_cases hit : i < m
        · have hic : i < cs[k].length := by have := HM.out; omega
          obtain ⟨b3, off3, rfl, -, hbo3, hc3⟩ := int_at HC.out hic
          have hc4 : wr.cell? ⟨b3, off3 + i, none⟩ = some (.int .i64 (cs[k])[i]) := (HJ.out.2.2.2.cell (p := ⟨b3, off3 + i, none⟩) hbo3).trans hc3
          have hck : wr.cell? ⟨w.heap.size, k, none⟩ = some (.slice (some ⟨R, 0, none⟩) m m) := (World.cell?_of_block (w := W3) HJ.out.1).trans HCK.out
          have hlen := unitsL_length (swU old next) cs[k] i
          have hcr : wr.cell? ⟨R, i, none⟩ = some (.int .i64 ((unitsL (swU old next) cs[k] i)[i]'(by rw [hlen]; exact hic))) := by
            rw [HJ.out.2.2.1.cellAt i (by omega)]
            rw [List.getElem?_map, List.getElem?_eq_getElem (by rw [hlen]; exact hic)]
            rfl
          have hfr := HJ.out.2.2.1.frozenAt i
          have HST : Hid (∀ y, y = swU old next (cs[k])[i] → Hid ((wr.setCell ⟨R, i, none⟩ (.int .i64 y)).heap[w.heap.size]? = W3.heap[w.heap.size]? ∧ Kept (fun b => w.heap.size ≤ b ∧ b ≠ w.heap.size ∧ b < R) W3 (wr.setCell ⟨R, i, none⟩ (.int .i64 y)) ∧ (wr.setCell ⟨R, i, none⟩ (.int .i64 y)).ownsRow R 3 1 (.slice (some ⟨R, 0, none⟩) m m) m ((unitsL (swU old next) cs[k] (i + 1)).map (Value.int .i64)) ∧ Below w.heap.size w (wr.setCell ⟨R, i, none⟩ (.int .i64 y)))) := put_by (fun y hy => by
            obtain ⟨s1, s2⟩ := HJ.out.2.2.1.stored i (.int .i64 y)
            have e : ((unitsL (swU old next) cs[k] i).map (Value.int .i64)).set i (.int .i64 y) = (unitsL (swU old next) cs[k] (i + 1)).map (Value.int .i64) := by
              rw [← unitsL_succ, List.map_set, getD_at hic, hy]
            rw [e] at s1
            exact ⟨(heap_far _ _ _ _ (by have := HGR.out; omega)).trans HJ.out.1, HJ.out.2.1.trans (kept_far (by omega) _), s1, HJ.out.2.2.2.setCell (p := ⟨R, i, none⟩) (by have := HGR.out; show w.heap.size ≤ R; omega) _⟩)
          generalize (unitsL (swU old next) cs[k] i)[i]'(by rw [hlen]; exact hic) = y0 at hcr
          generalize (cs[k])[i] = x at hc4 HST
          clear hc3 hbo3 hlen
          by_cases e : x = old
          · have HS := put_by (HST.out next (by rw [swU, if_pos e]))
            subst e
            clear HST
            unfold Hid at HS
            have HS := put_by HS
            go_wp2
            go_roundw
            case rel => exact ⟨i + 1, by omega, by simp, HS.out⟩
            case measure => simp [intOf]; omega
          · have HS := put_by (HST.out x (by rw [swU, if_neg e]))
            have z : (x == old) = false := by simpa using e
            clear HST
            go_wp2
            go_roundw
            case rel => exact ⟨i + 1, by omega, by simp, HS.out⟩
            case measure => simp [intOf]; omega
        · obtain rfl : i = m := by omega
          have HI2 : Hid (SwI (fun b => w.heap.size ≤ b ∧ b ≠ w.heap.size) w (swU old next) cs w.heap.size n (k + 1) wr ∧ Below w.heap.size w wr) := put_by ⟨HN.out wr HJ.out.1 HJ.out.2.1 _ (fun b h => ⟨h.1, h.2.1⟩) (by
            have h1 := HJ.out.2.2.1
            rw [HM.out, unitsL_all, ← HM.out] at h1
            exact own_ints h1 (by simp [HM.out]) (by have := HGR.out; exact ⟨by omega, by omega⟩)), HJ.out.2.2.2⟩
          go_wp2
          go_roundw
          case rel => exact ⟨k + 1, by omega, by simp, HI2⟩
          case measure => simp [intOf]; omega
    · obtain rfl : k = n := by omega
      have hlast := (HI.out.1.move (ok' := fun b => w.heap.size ≤ b) (Kept.of_below (Below.refl _ _)) rfl (fun b _ h => h.1)).lies HL.out.2.2 (by have := HI.out.1.ownG; exact this.1)
      have HF := put_by (And.intro hlast HI.out.2)
      clear hlast
      go_wp2
      go_ret
      exact ⟨_, rfl, HF.out.1, HF.out.2⟩

end Go.Proofs.Ytcffikfjbpeggab
