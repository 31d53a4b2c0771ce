/- The tail of a layout. -/
import Derived.Test.YtcffikfjbpeggabLyTailP
namespace Go.Proofs.Ytcffikfjbpeggab
open Go.ChangeShapes Go.WideShapes Go.ChangeAt Go.RowKit

theorem take_ok {P : Int → Prop} {ts : List Int} {k : Nat} (hk : k < ts.length) (h : ∀ t ∈ ts.take k, P t) (ht : P (ts.getD k 0)) : ∀ t ∈ ts.take (k + 1), P t := by
  intro t hm
  rw [List.take_succ_eq_append_getElem hk, List.mem_append] at hm
  rcases hm with hm | hm
  · exact h t hm
  · rw [List.mem_singleton.1 hm]
    rwa [List.getD_eq_getElem?_getD, List.getElem?_eq_getElem hk] at ht

theorem getD_at {ts : List Int} {k : Nat} (hk : k < ts.length) : ts.getD k 0 = ts[k] := by
  rw [List.getD_eq_getElem?_getD, List.getElem?_eq_getElem hk]
  rfl

theorem int_at' {ok : Nat → Prop} {W : World} {a : Option Addr} {cap : Nat} {l : List Int} (h : Lies kInt ok W a cap l) {k : Nat} (hk : k < l.length) :
    ∃ b off, a = some ⟨b, off, none⟩ ∧ b < W.heap.size ∧ ok b ∧ W.cell? ⟨b, off + k, none⟩ = some (.int .i64 (l.getD k 0)) := by
  obtain ⟨b, off, h1, h2, h3, h4⟩ := int_at h hk
  exact ⟨b, off, h1, h2, h3, by rw [getD_at hk]; exact h4⟩

set_option maxHeartbeats 4000000 in
theorem Tail_any {ok : Nat → Prop} (ep : Int) (a ta : Option Addr) (cap tc : Nat) (cs : List (List Int)) (ts : List Int) (hf : LyFew cs) (hr : ts.length ≤ 140737488351232) (w : World) (hL : Lies (kRow kInt) (fun b => b < w.heap.size) w a cap cs) (hT : Lies kInt ok w ta tc ts) :
    Calls Try.prog 9 #[.agg #[.int .i64 ep, .slice a cs.length cap], .slice ta ts.length tc] w fun e w' => e = .returned (two (tlc (mayL ep cs) cs.length ts)) ∧ Below w.heap.size w w' := by
  have hlen := may_len (ep := ep) (cs := cs)
  obtain ⟨n, hn⟩ : ∃ n, n = cs.length := ⟨_, rfl⟩
  obtain ⟨m, hm⟩ : ∃ m, m = ts.length := ⟨_, rfl⟩
  have hb1 : Below w.heap.size w (w.alloc (.cells #[.int .i64 ep, .slice a n cap] 25)) := (Below.refl _ w).alloc (Nat.le_refl _) _
  have cM := May_any ep a cap cs hf (w.alloc (.cells #[.int .i64 ep, .slice a n cap] 25)) (hL.move (ok' := fun b => b < (w.alloc (.cells #[.int .i64 ep, .slice a n cap] 25)).heap.size) (Kept.of_below hb1) (fun b hb _ => by simp; omega))
  rw [← hn] at cM hlen ⊢
  rw [← hm] at hr ⊢
  have HK : Hid (∀ V, Below (w.alloc (.cells #[.int .i64 ep, .slice a n cap] 25)).heap.size (w.alloc (.cells #[.int .i64 ep, .slice a n cap] 25)) V → V.cell? ⟨w.heap.size, 0, none⟩ = some (.int .i64 ep) ∧ V.cell? ⟨w.heap.size, 1, none⟩ = some (.slice a n cap)) := put_by fun V hV => ⟨(hV.cell (p := ⟨w.heap.size, 0, none⟩) (by simp)).trans (by simp), (hV.cell (p := ⟨w.heap.size, 1, none⟩) (by simp)).trans (by simp)⟩
  have HB := put_by hb1
  have HM := put_by cM
  have HT := put_by (And.intro hT hm)
  clear cM hn hL hf hb1 hT hm
  cases hr : mayL ep cs with
  | false =>
    rw [hr] at HM
    clear hlen hr
    have HP : Hid (tlc false n ts = (0, 4)) := put_by (by unfold tlc; rw [if_pos rfl])
    rw [HP.out]
    go_enter Try.func9, Try.ntmps9
    go_wp2_with (go_at_call 10; refine (HM.out).mono ?_; clear HM; rintro e V ⟨rfl, hV⟩; have HV := put_by (HB.out.trans (hV.mono HB.out.size)); clear hV)
    refine bodyPost_ret (results_tmp2 rfl _ _ _) rfl ?_
    exact ⟨rfl, HV.out⟩
  | true =>
    rw [hr] at HM
    obtain ⟨l1, l2⟩ := hlen hr
    clear hlen hr
    by_cases g0 : m = n
    · subst g0
      obtain ⟨t, ht⟩ : ∃ t, t = tlc true m ts := ⟨_, rfl⟩
      rw [← ht]
      have HG : Hid ((¬ ∀ t ∈ ts, 0 ≤ t ∧ t ≤ 64) → t = (0, 2)) := put_by (fun h => by rw [ht]; unfold tlc; rw [if_neg (by simp), if_neg (by have := HT.out.2; omega), if_neg h])
      have HE : Hid ((∀ t ∈ ts, 0 ≤ t ∧ t ≤ 64) → t = (tailK m ts m, 0)) := put_by (fun h => by rw [ht]; unfold tlc; rw [if_neg (by simp), if_neg (by have := HT.out.2; omega), if_pos h])
      clear ht
      have HO : Hid (∀ (V : World) (ch ad : Int), 0 ≤ ad → ad ≤ 64 → 0 ≤ ch → ch ≤ 6 → Calls Try.prog 13 #[.agg #[.int .i64 ep, .slice a m cap], .int .i64 ch, .int .i64 ad] V fun e w' => e = .returned (.int .i64 (ad * m + ch)) ∧ Below V.heap.size V w') := put_by (fun V ch ad p1 p2 p3 p4 => posOf_any ep ch ad a m cap l2 p1 p2 p3 p4 V)
      go_enter Try.func9, Try.ntmps9
      go_wp2_with (go_at_call 10; refine (HM.out).mono ?_; clear HM; rintro e V ⟨rfl, hV⟩; have HV := put_by (And.intro hV (HB.out.trans (hV.mono HB.out.size))); obtain ⟨k1, k2⟩ := HK.out V hV; clear hV)
      go_loopw [6, 20] (fun v i wr => ∃ k : Nat, k ≤ m ∧ i = .int .i64 k ∧ v = .int .i64 (tailK m ts k) ∧ Hid ((∀ t ∈ ts.take k, 0 ≤ t ∧ t ≤ 64) ∧ Below V.heap.size V wr)) (fun _ i _ => m - (intOf i).toNat)
      case atStart => exact ⟨0, Nat.zero_le _, rfl, rfl, put_by ⟨by simp, Below.refl _ _⟩⟩
      case round =>
        obtain ⟨k, hk, rfl, rfl, hh⟩ := hrel
        have hB2 := put_by (HV.out.2.trans (hh.out.2.mono HV.out.2.size))
        by_cases hlt : k < m
        · have hkc : k < ts.length := by have := HT.out.2; omega
          obtain ⟨b, off, rfl, -, -, hc⟩ := int_at' (HT.out.1.later hB2.out) hkc
          obtain ⟨q1, q2⟩ := HK.out wr (HV.out.1.trans (hh.out.2.mono HV.out.1.size))
          have HN : Hid (¬ (0 ≤ ts.getD k 0 ∧ ts.getD k 0 ≤ 64) → t = (0, 2)) := put_by (fun h => HG.out (fun h2 => h (getD_range h2 k)))
          have HS : Hid ((0 ≤ ts.getD k 0 ∧ ts.getD k 0 ≤ 64) → ∀ t ∈ ts.take (k + 1), 0 ≤ t ∧ t ≤ 64) := put_by (fun h => take_ok hkc hh.out.1 h)
          have HA : Hid (tailK m ts (k + 1) = if 0 < ts.getD k 0 then max (tailK m ts k) ((ts.getD k 0 - 1) * m + k + 1) else tailK m ts k) := put_by rfl
          generalize ts.getD k 0 = x at hc HN HS HA
          by_cases p1 : x < 0
          · obtain rfl : t = (0, 2) := HN.out (by omega)
            go_wp2
            refine bodyPost_ret (results_tmp2 rfl _ _ _) rfl ?_
            exact ⟨rfl, hB2.out⟩
          by_cases p2 : 64 < x
          · obtain rfl : t = (0, 2) := HN.out (by omega)
            go_wp2
            refine bodyPost_ret (results_tmp2 rfl _ _ _) rfl ?_
            exact ⟨rfl, hB2.out⟩
          have HS2 := put_by (HS.out (by omega))
          by_cases p3 : 0 < x
          · have HA2 : Hid (tailK m ts (k + 1) = max (tailK m ts k) ((x - 1) * m + k + 1)) := put_by (by rw [HA.out, if_pos p3])
            obtain ⟨m1, m2, m3, m4⟩ := mul_small l2 (show 0 ≤ x - 1 by omega) (show x - 1 ≤ 64 by omega) (show 0 ≤ (k : Int) by omega) (show (k : Int) ≤ 6 by omega)
            have HO2 := put_by (HO.out wr k (x - 1) (by omega) (by omega) (by omega) (by omega))
            clear HS HN HA
            go_wp2_with (go_at_call 13; refine (HO2.out).mono ?_; clear HO2; rintro e V2 ⟨rfl, hV2⟩; have HV2 := put_by (hh.out.2.trans (hV2.mono hh.out.2.size)); clear hV2)
            go_roundw
            case rel => exact ⟨k + 1, by omega, by simp, by rw [HA2.out]; refine congrArg (Value.int .i64) ?_; split <;> omega, put_by ⟨HS2.out, HV2.out⟩⟩
            case measure => simp [intOf]; omega
          · have HA2 : Hid (tailK m ts (k + 1) = tailK m ts k) := put_by (by rw [HA.out, if_neg p3])
            clear HS HN HA
            go_wp2
            go_roundw
            case rel => exact ⟨k + 1, by omega, by simp, by rw [HA2.out], put_by ⟨HS2.out, hh.out.2⟩⟩
            case measure => simp [intOf]; omega
        · obtain rfl : k = m := by omega
          obtain rfl : t = (tailK k ts k, 0) := HE.out (by have h3 := hh.out.1; rw [HT.out.2, List.take_length] at h3; exact h3)
          go_wp2
          refine bodyPost_ret (results_tmp2 rfl _ _ _) rfl ?_
          exact ⟨rfl, hB2.out⟩
    · have HP : Hid (tlc true n ts = (0, 1)) := put_by (by unfold tlc; rw [if_neg (by simp), if_pos (by have := HT.out.2; omega)])
      rw [HP.out]
      have z1 : ((m : Int) == (n : Int)) = false := by simp; omega
      go_enter Try.func9, Try.ntmps9
      go_wp2_with (go_at_call 10; refine (HM.out).mono ?_; clear HM; rintro e V ⟨rfl, hV⟩; have HV := put_by (HB.out.trans (hV.mono HB.out.size)); obtain ⟨k1, k2⟩ := HK.out V hV; clear hV)
      refine bodyPost_ret (results_tmp2 rfl _ _ _) rfl ?_
      exact ⟨rfl, HV.out⟩

end Go.Proofs.Ytcffikfjbpeggab
