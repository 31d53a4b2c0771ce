/- The reference's tail of a layout. -/
import Derived.Test.YtcffikfjbpeggaaLyTail
import Derived.Test.YtcffikfjbpeggaaRfPlace
namespace Go.Proofs.Ytcffikfjbpeggaa
open Go.ChangeShapes Go.WideShapes Go.ChangeAt Go.RowKit

set_option maxHeartbeats 4000000 in
theorem TailOf_any {ok : Nat → Prop} (ep : Int) (a ta : Option Addr) (cap tc : Nat) (cs : List (List Int)) (ts : List Int) (hf : LyFew cs) (hr : ts.length ≤ 140737488351232) (w : World) (hL : Lies (kRow kInt) (fun b => b < w.heap.size) w a cap cs) (hT : Lies kInt ok w ta tc ts) :
    Calls Try.prog 16 #[.agg #[.int .i64 ep, .slice a cs.length cap], .slice ta ts.length tc] w fun e w' => e = .returned (two (tlc (mayL ep cs) cs.length ts)) ∧ Below w.heap.size w w' := by
  have hlen := may_len (ep := ep) (cs := cs)
  obtain ⟨n, hn⟩ : ∃ n, n = cs.length := ⟨_, rfl⟩
  obtain ⟨m, hm⟩ : ∃ m, m = ts.length := ⟨_, rfl⟩
  have hb1 : Below w.heap.size w (w.alloc (.cells #[.int .i64 ep, .slice a n cap] 24)) := (Below.refl _ w).alloc (Nat.le_refl _) _
  have cM := LayoutMay_any ep a cap cs hf (w.alloc (.cells #[.int .i64 ep, .slice a n cap] 24)) (hL.move (ok' := fun b => b < (w.alloc (.cells #[.int .i64 ep, .slice a n cap] 24)).heap.size) (Kept.of_below hb1) (fun b hb _ => by simp; omega))
  rw [← hn] at cM hlen ⊢
  rw [← hm] at hr ⊢
  have HK : Hid (∀ V, Below (w.alloc (.cells #[.int .i64 ep, .slice a n cap] 24)).heap.size (w.alloc (.cells #[.int .i64 ep, .slice a n cap] 24)) V → V.cell? ⟨w.heap.size, 0, none⟩ = some (.int .i64 ep) ∧ V.cell? ⟨w.heap.size, 1, none⟩ = some (.slice a n cap)) := put_by fun V hV => ⟨(hV.cell (p := ⟨w.heap.size, 0, none⟩) (by simp)).trans (by simp), (hV.cell (p := ⟨w.heap.size, 1, none⟩) (by simp)).trans (by simp)⟩
  have HPO : Hid (1 ≤ n → n ≤ 6 → mayL ep cs = true → ∀ (V : World), Below w.heap.size w V → ∀ p : Nat, p < 64 * n → Calls Try.prog 12 #[.agg #[.int .i64 ep, .slice a n cap], .int .i64 p] V fun e w' => e = .returned (.tuple #[.int .i64 ((p % n : Nat) : Int), .int .i64 ((p / n : Nat) : Int), .int .i64 0]) ∧ Below V.heap.size V w') := put_by (fun l1 _ h V hV p hp => by
    have := PlaceOf_any ep p a cap cs hf V (hL.move (Kept.of_below hV) (fun b hb _ => Nat.lt_of_lt_of_le hb hV.size))
    rw [h, ← hn] at this
    have e : plc true n p = (((p % n : Nat) : Int), ((p / n : Nat) : Int), 0) := by
      unfold plc
      rw [if_neg (by simp), if_pos (by omega)]
      simp
    rw [e] at this
    exact this)
  have HB := put_by hb1
  have HM := put_by cM
  have HT := put_by (And.intro hT hm)
  clear cM hn hL hf hb1 hT hm
  cases hr : mayL ep cs with
  | false =>
    rw [hr] at HM
    clear hlen hr
    have HP : Hid (tlc false n ts = (0, 4)) := put_by (by unfold tlc; rw [if_pos rfl])
    rw [HP.out]
    go_enter Try.func16, Try.ntmps16
    go_wp2_with (go_at_call 10; refine (HM.out).mono ?_; clear HM; rintro e V ⟨rfl, hV⟩; have HV := put_by (HB.out.trans (hV.mono HB.out.size)); clear hV)
    refine bodyPost_ret (results_tmp2 rfl _ _ _) rfl ?_
    exact ⟨rfl, HV.out⟩
  | true =>
    rw [hr] at HM
    obtain ⟨l1, l2⟩ := hlen hr
    have HPO2 := put_by (HPO.out l1 l2 hr)
    clear hlen hr HPO
    by_cases g0 : m = n
    · subst g0
      obtain ⟨t, ht⟩ : ∃ t, t = tlc true m ts := ⟨_, rfl⟩
      rw [← ht]
      have HG : Hid ((¬ ∀ t ∈ ts, 0 ≤ t ∧ t ≤ 64) → t = (0, 2)) := put_by (fun h => by rw [ht]; unfold tlc; rw [if_neg (by simp), if_neg (by have := HT.out.2; omega), if_neg h])
      have HE : Hid ((∀ t ∈ ts, 0 ≤ t ∧ t ≤ 64) → t = (tailK m ts m, 0)) := put_by (fun h => by rw [ht]; unfold tlc; rw [if_neg (by simp), if_neg (by have := HT.out.2; omega), if_pos h])
      clear ht
      have HO : Hid (∀ (V : World), Below w.heap.size w V → ∀ p : Nat, p < 64 * m → Calls Try.prog 12 #[.agg #[.int .i64 ep, .slice a m cap], .int .i64 p] V fun e w' => e = .returned (.tuple #[.int .i64 ((p % m : Nat) : Int), .int .i64 ((p / m : Nat) : Int), .int .i64 0]) ∧ Below V.heap.size V w') := HPO2
      go_enter Try.func16, Try.ntmps16
      go_wp2_with (go_at_call 10; refine (HM.out).mono ?_; clear HM; rintro e V ⟨rfl, hV⟩; have HV := put_by (And.intro hV (HB.out.trans (hV.mono HB.out.size))); obtain ⟨k1, k2⟩ := HK.out V hV; clear hV)
      go_loopw [24] (fun i wr => wr = V ∧ ∃ k : Nat, k ≤ m ∧ i = .int .i64 k ∧ Hid (∀ t ∈ ts.take k, 0 ≤ t ∧ t ≤ 64)) (fun i _ => m - (intOf i).toNat)
      case atStart => exact ⟨rfl, 0, Nat.zero_le _, rfl, put_by (by simp)⟩
      case round =>
        obtain ⟨rfl, k, hk, rfl, hh⟩ := hrel
        by_cases hlt : k < m
        · have hkc : k < ts.length := by have := HT.out.2; omega
          obtain ⟨b, off, rfl, -, -, hc⟩ := int_at' (HT.out.1.later HV.out.2) hkc
          have HN : Hid (¬ (0 ≤ ts.getD k 0 ∧ ts.getD k 0 ≤ 64) → t = (0, 2)) := put_by (fun h => HG.out (fun h2 => h (getD_range h2 k)))
          have HS : Hid ((0 ≤ ts.getD k 0 ∧ ts.getD k 0 ≤ 64) → ∀ t ∈ ts.take (k + 1), 0 ≤ t ∧ t ≤ 64) := put_by (fun h => take_ok hkc hh.out h)
          generalize ts.getD k 0 = x at hc HN HS
          by_cases p1 : x < 0
          · obtain rfl : t = (0, 2) := HN.out (by omega)
            go_wp2
            refine bodyPost_ret (results_tmp2 rfl _ _ _) rfl ?_
            exact ⟨rfl, HV.out.2⟩
          by_cases p2 : 64 < x
          · obtain rfl : t = (0, 2) := HN.out (by omega)
            go_wp2
            refine bodyPost_ret (results_tmp2 rfl _ _ _) rfl ?_
            exact ⟨rfl, HV.out.2⟩
          have HS2 := put_by (HS.out (by omega))
          clear HS HN
          go_wp2
          go_roundw
          case rel => exact ⟨trivial, k + 1, by omega, by simp, HS2⟩
          case measure => simp [intOf]; omega
        · obtain rfl : k = m := by omega
          have hall : ∀ t ∈ ts, 0 ≤ t ∧ t ≤ 64 := by have h3 := hh.out; rw [HT.out.2, List.take_length] at h3; exact h3
          obtain rfl : t = (tailK k ts k, 0) := HE.out hall
          have HE2 : Hid (refK k ts (64 * k) = tailK k ts k) := put_by ((ref_is k ts).unique (tail_is l1 (fun i => (getD_range hall i).2)))
          clear HG HE hh
          go_wp2
          go_loopw [8, 9] (fun v i ws => ∃ p : Nat, p ≤ 64 * k ∧ i = .int .i64 p ∧ v = .int .i64 (refK k ts p) ∧ Hid (Below wr.heap.size wr ws)) (fun _ i _ => 64 * k - (intOf i).toNat)
          case atStart => exact ⟨0, Nat.zero_le _, rfl, rfl, put_by (Below.refl _ _)⟩
          case round =>
            obtain ⟨p, hp, rfl, rfl, hh⟩ := hrel
            have hB2 := put_by (HV.out.2.trans (hh.out.mono HV.out.2.size))
            by_cases hpt : p < 64 * k
            · have hmod : p % k < k := Nat.mod_lt _ l1
              have hkc : p % k < ts.length := by have := HT.out.2; omega
              obtain ⟨q1, q2⟩ := HK.out wr (HV.out.1.trans (hh.out.mono HV.out.1.size))
              have HO2 := put_by (HO.out wr hB2.out p hpt)
              obtain ⟨b, off, rfl, hbw, -, hc⟩ := int_at' HT.out.1 hkc
              have HC : Hid (∀ V, Below wr.heap.size wr V → V.cell? ⟨b, off + p % k, none⟩ = some (.int .i64 (ts.getD (p % k) 0))) := put_by (fun V hV => ((hB2.out.trans (hV.mono hB2.out.size)).cell (p := ⟨b, off + p % k, none⟩) hbw).trans hc)
              clear hc hbw
              have HS : Hid (refK k ts (p + 1) = if ((p / k : Nat) : Int) < ts.getD (p % k) 0 then (p : Int) + 1 else refK k ts p) := put_by rfl
              generalize ts.getD (p % k) 0 = y at HC HS
              generalize p % k = ch at hmod HC HO2
              generalize p / k = ad at HS HO2
              by_cases hy : (ad : Int) < y
              · have HS2 := put_by (show refK k ts (p + 1) = (p : Int) + 1 by rw [HS.out, if_pos hy])
                clear HS
                go_wp2_with (go_at_call 12; refine (HO2.out).mono ?_; clear HO2; rintro e V2 ⟨rfl, hV2⟩; have hc := HC.out _ hV2; have HV2 := put_by (hh.out.trans (hV2.mono hh.out.size)); clear hV2)
                go_roundw
                case rel => exact ⟨p + 1, by omega, by simp, by rw [HS2.out], HV2⟩
                case measure => simp [intOf]; omega
              · have HS2 := put_by (show refK k ts (p + 1) = refK k ts p by rw [HS.out, if_neg hy])
                clear HS
                go_wp2_with (go_at_call 12; refine (HO2.out).mono ?_; clear HO2; rintro e V2 ⟨rfl, hV2⟩; have hc := HC.out _ hV2; have HV2 := put_by (hh.out.trans (hV2.mono hh.out.size)); clear hV2)
                go_roundw
                case rel => exact ⟨p + 1, by omega, by simp, by rw [HS2.out], HV2⟩
                case measure => simp [intOf]; omega
            · obtain rfl : p = 64 * k := by omega
              rw [HE2.out]
              go_wp2
              refine bodyPost_ret (results_tmp2 rfl _ _ _) rfl ?_
              exact ⟨rfl, hB2.out⟩
    · have HP : Hid (tlc true n ts = (0, 1)) := put_by (by unfold tlc; rw [if_neg (by simp), if_pos (by have := HT.out.2; omega)])
      rw [HP.out]
      have z1 : ((m : Int) == (n : Int)) = false := by simp; omega
      go_enter Try.func16, Try.ntmps16
      go_wp2_with (go_at_call 10; refine (HM.out).mono ?_; clear HM; rintro e V ⟨rfl, hV⟩; have HV := put_by (HB.out.trans (hV.mono HB.out.size)); obtain ⟨k1, k2⟩ := HK.out V hV; clear hV)
      refine bodyPost_ret (results_tmp2 rfl _ _ _) rfl ?_
      exact ⟨rfl, HV.out⟩

end Go.Proofs.Ytcffikfjbpeggaa
