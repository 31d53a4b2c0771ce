/- The reference's word on whether a layout may be: the walk. -/
import Derived.Test.YtcffikfjbpeggaaRfLyMay
namespace Go.Proofs.Ytcffikfjbpeggaa
open Go.ChangeShapes Go.WideShapes Go.ChangeAt Go.RowKit

/-- when the reference has looked at so many chains: all their units -/
def AllI (w : World) (cs : List (List Int)) (k : Nat) (v : Value) (wr : World) : Prop :=
  Rows kInt (fun _ => True) wr w.heap.size 3 v (cs.take k).flatten ∧ Below w.heap.size w wr ∧ ∀ c ∈ cs.take k, 1 ≤ c.length ∧ c.length ≤ 3

set_option maxHeartbeats 4000000 in
theorem LayoutMay_any (ep : Int) (a : Option Addr) (cap : Nat) (cs : List (List Int)) (hf : LyFew cs) (w : World) (hL : Lies (kRow kInt) (fun b => b < w.heap.size) w a cap cs) :
    Calls Try.prog 10 #[.agg #[.int .i64 ep, .slice a cs.length cap]] w fun e w' => e = .returned (.bool (mayL ep cs)) ∧ Below w.heap.size w w' := by
  obtain ⟨len, hlen⟩ : ∃ len, len = cs.length := ⟨_, rfl⟩
  obtain ⟨r, hr⟩ : ∃ r, r = mayL ep cs := ⟨_, rfl⟩
  have hr1 : len ≤ 140737488351232 := by have := hf.1; omega
  rw [← hlen, ← hr]
  have HL := put_by (And.intro hL (And.intro hf.2 (And.intro hlen hr)))
  have HF : Hid (¬ ((0 ≤ ep ∧ ep ≤ 1000000) ∧ 1 ≤ len ∧ len ≤ 6) → r = false) := put_by (fun h => by
    rw [hr, Bool.eq_false_iff]
    intro h2
    have h3 := mayL_iff.1 h2
    exact h ⟨h3.1, by omega, by omega⟩)
  have HB0 : Hid (Below w.heap.size w (w.alloc (.cells #[.int .i64 ep, .slice a len cap] 24))) := put_by ((Below.refl _ w).alloc (Nat.le_refl _) _)
  clear hL hf hlen hr
  go_enter Try.func10, Try.ntmps10
  by_cases g0 : ep < 0
  · obtain rfl : r = false := HF.out (by omega)
    go_wp2
    go_ret
    exact ⟨rfl, HB0.out⟩
  by_cases g1 : 1000000 < ep
  · obtain rfl : r = false := HF.out (by omega)
    go_wp2
    go_ret
    exact ⟨rfl, HB0.out⟩
  by_cases g2 : len = 0
  · obtain rfl : r = false := HF.out (by omega)
    subst g2
    go_wp2
    go_ret
    exact ⟨rfl, HB0.out⟩
  have g4 : ((len : Int) == 0) = false := by simp; omega
  by_cases g3 : 6 < len
  · obtain rfl : r = false := HF.out (by omega)
    go_wp2
    go_ret
    exact ⟨rfl, HB0.out⟩
  go_wp2
  have HI0 : Hid (AllI w cs 0 (.slice none 0 0) (w.alloc (.cells #[.int .i64 ep, .slice a len cap] 24))) := put_by ⟨Rows.nil _ _ _ _ _, HB0.out, by simp⟩
  clear HB0
  go_loopw [3, 31] (fun v i wr => ∃ k : Nat, k ≤ len ∧ i = .int .i64 k ∧ Hid (AllI w cs k v wr)) (fun _ i _ => len - (intOf i).toNat)
  case atStart => exact ⟨0, Nat.zero_le _, rfl, HI0⟩
  case round =>
    obtain ⟨k, hk, rfl, hh⟩ := hrel
    by_cases hlt : k < len
    · have hkc : k < cs.length := by have := HL.out.2.2.1; omega
      obtain ⟨b, off, a2, c2, rfl, hb, hbo, hc, hL2⟩ := row_at HL.out.1 hkc
      have hc1 : wr.cell? ⟨b, off + k, none⟩ = some (.slice a2 cs[k].length c2) := (hh.out.2.1.cell (p := ⟨b, off + k, none⟩) hbo).trans hc
      have hm : cs[k].length ≤ 140737488351232 := HL.out.2.1 _ (List.getElem_mem _)
      have HN : Hid (¬ (1 ≤ cs[k].length ∧ cs[k].length ≤ 3) → r = false) := put_by (fun hn => by
        rw [HL.out.2.2.2, Bool.eq_false_iff]
        intro h2
        exact hn ((mayL_iff.1 h2).2.1.2.2 _ (List.getElem_mem _)))
      have HS : Hid ((1 ≤ cs[k].length ∧ cs[k].length ≤ 3) → ∀ c ∈ cs.take (k + 1), 1 ≤ c.length ∧ c.length ≤ 3) := put_by (fun hn c hc => by
        rw [List.take_succ_eq_append_getElem hkc, List.mem_append] at hc
        rcases hc with hc | hc
        · exact hh.out.2.2 c hc
        · rw [List.mem_singleton.1 hc]; exact hn)
      have HL2 : Hid (Lies kInt (fun b => b < w.heap.size) wr a2 c2 cs[k]) := put_by (hL2.move (Kept.of_below hh.out.2.1) (fun _ _ h => h))
      have HT := put_by (take_flatten hkc)
      have HW : Hid ((cs.take k).flatten.length ≤ 18) := put_by (flatten_few (by rw [List.length_take]; omega) (fun c hc => (hh.out.2.2 c hc).2))
      clear hL2 hc hb hbo
      obtain ⟨m, hmm⟩ : ∃ m, m = cs[k].length := ⟨_, rfl⟩
      rw [← hmm] at hc1 hm HN HS
      have HM := put_by hmm
      clear hmm
      by_cases q1 : m = 0
      · obtain rfl : r = false := HN.out (by omega)
        subst q1
        go_wp2
        go_ret
        exact ⟨rfl, hh.out.2.1⟩
      have q4 : ((m : Int) == 0) = false := by simp; omega
      by_cases q2 : 3 < m
      · obtain rfl : r = false := HN.out (by omega)
        go_wp2
        go_ret
        exact ⟨rfl, hh.out.2.1⟩
      have HS2 := put_by (HS.out (by omega))
      clear HN HS
      go_wp2_with (at_builtin; refine wpList_append_rows (K := kInt) (ok := fun _ => True) (ok2 := fun b => b < w.heap.size) eltI rfl (.tmp 43) (.tmp 44) rfl w.heap.size _ _ rfl hh.out.1 a2 c2 m cs[k] rfl HM.out HL2.out (fun _ _ _ _ => trivial) (fun b _ h e => by have := (rows_lt hh.out.1 b e).1; omega) (by have := HW.out; omega) (by decide) hh.out.2.1.size ?_; intro v' w2 h1 h2 h3; have HI : Hid (AllI w cs (k + 1) v' w2) := put_by ⟨by rw [HT.out]; exact h1, hh.out.2.1.grown h2 hh.out.2.1.size (fun g hg => (rows_lt hh.out.1 g hg).1), HS2.out⟩; clear h1 h2 h3)
      go_roundw
      case rel => exact ⟨k + 1, by omega, by simp, HI⟩
      case measure => simp [intOf]; omega
    · obtain rfl : k = len := by omega
      obtain ⟨h1, h2, h3⟩ := hh.out
      rw [HL.out.2.2.1, List.take_length] at h1 h3
      obtain ⟨a3, c3, rfl⟩ := rows_form h1
      obtain ⟨-, hL3, hP3, -⟩ := rows_lies h1 (fun _ _ => trivial)
      have HR : Hid (fitU cs.flatten = r) := put_by (by
        rw [HL.out.2.2.2, Bool.eq_iff_iff, mayL_iff]
        simp only [fitU, decide_eq_true_eq]
        have := HL.out.2.2.1
        exact ⟨fun h => ⟨⟨by omega, by omega⟩, ⟨by omega, by omega, h3⟩, h⟩, fun h => h.2.2⟩)
      have hfew := flatten_few (cs := cs) (by have := HL.out.2.2.1; omega) (fun c hc => (h3 c hc).2)
      have HL3 := put_by hL3
      have HB := put_by h2
      clear hh h1 h2 h3 hL3 HL HF HI0
      obtain ⟨all, hall⟩ : ∃ all, all = cs.flatten := ⟨_, rfl⟩
      rw [← hall] at HL3 hfew HR ⊢
      clear hall
      obtain ⟨n, hn⟩ : ∃ n, n = all.length := ⟨_, rfl⟩
      rw [← hn] at hfew ⊢
      have HN := put_by hn
      clear hn
      go_wp2
      go_loopw [49] (fun i ws => ws = wr ∧ ∃ j : Nat, j ≤ n ∧ i = .int .i64 j ∧ Hid (fitU (all.take j) = true)) (fun i _ => n - (intOf i).toNat)
      case atStart => exact ⟨rfl, 0, Nat.zero_le _, rfl, put_by rfl⟩
      case round =>
        obtain ⟨rfl, j, hj, rfl, hh⟩ := hrel
        by_cases hjt : j < n
        · have hjc : j < all.length := by have := HN.out; omega
          obtain ⟨b3, off3, rfl, -, -, hc3⟩ := int_at HL3.out hjc
          have HT := put_by (HL3.out.take j)
          have hcap : n ≤ c3 := by have := HL3.out.1; have := HN.out; omega
          have HU : Hid (fitU (all.take (j + 1)) = (decide ((0 ≤ all[j] ∧ all[j] ≤ 5) ∧ all[j] ∉ all.take j))) := put_by (by
            rw [List.take_succ_eq_append_getElem hjc, fitU_snoc, hh.out, Bool.true_and])
          have HX : Hid (fitU (all.take (j + 1)) = false → r = false) := put_by (fun h => by
            rw [← HR.out, Bool.eq_false_iff]
            intro h2
            rw [fitU_take h2 (j + 1)] at h
            cases h)
          have hH := put_by (RefHas_any (ok := fun _ => True) (some ⟨b3, off3, none⟩) j c3 (all.take j) all[j] (by rw [List.length_take]; omega) (by rw [List.length_take]; omega) wr HT.out)
          generalize all[j] = y at hc3 HU hH
          by_cases p1 : 0 ≤ y ∧ y ≤ 5
          · cases p2 : decide (y ∈ all.take j) with
            | true =>
              have hf2 : fitU (all.take (j + 1)) = false := by rw [HU.out]; exact decide_eq_false (fun h => h.2 (of_decide_eq_true p2))
              obtain rfl : r = false := HX.out hf2
              rw [p2] at hH
              go_wp2_with (go_at_call 24; refine (hH.out).mono ?_; rintro e w' ⟨rfl, rfl⟩)
              go_ret
              exact ⟨rfl, HB.out⟩
            | false =>
              have hf2 : Hid (fitU (all.take (j + 1)) = true) := put_by (by rw [HU.out]; exact decide_eq_true ⟨p1, of_decide_eq_false p2⟩)
              rw [p2] at hH
              go_wp2_with (go_at_call 24; refine (hH.out).mono ?_; rintro e w' ⟨rfl, rfl⟩)
              go_roundw
              case rel => exact ⟨trivial, j + 1, by omega, by simp, hf2⟩
              case measure => simp [intOf]; omega
          · have hf2 : fitU (all.take (j + 1)) = false := by rw [HU.out]; exact decide_eq_false (fun h => p1 h.1)
            obtain rfl : r = false := HX.out hf2
            by_cases p3 : y < 0
            · go_wp2
              go_ret
              exact ⟨rfl, HB.out⟩
            · have p4 : 5 < y := by omega
              go_wp2
              go_ret
              exact ⟨rfl, HB.out⟩
        · obtain rfl : j = n := by omega
          obtain rfl : r = true := by
            have h4 := hh.out
            rw [HN.out, List.take_length] at h4
            rw [← HR.out, h4]
          go_wp2
          go_ret
          exact ⟨rfl, HB.out⟩

end Go.Proofs.Ytcffikfjbpeggaa
