/- The reference's positions and places. -/
import Derived.Test.YtcffikfjbpeggaaLyPlace
import Derived.Test.YtcffikfjbpeggaaRfLyMay2
namespace Go.Proofs.Ytcffikfjbpeggaa
open Go.ChangeShapes Go.WideShapes Go.ChangeAt Go.RowKit

set_option maxHeartbeats 2000000 in
theorem PosOf_any (ep ch ad : Int) (a : Option Addr) (cap : Nat) (cs : List (List Int)) (hf : LyFew cs) (w : World) (hL : Lies (kRow kInt) (fun b => b < w.heap.size) w a cap cs) :
    Calls Try.prog 14 #[.agg #[.int .i64 ep, .slice a cs.length cap], .int .i64 ch, .int .i64 ad] w fun e w' => e = .returned (two (psn (mayL ep cs) cs.length ch ad)) ∧ Below w.heap.size w w' := by
  have hlen := may_len (ep := ep) (cs := cs)
  obtain ⟨n, hn⟩ : ∃ n, n = cs.length := ⟨_, rfl⟩
  have hb1 : Below w.heap.size w (w.alloc (.cells #[.int .i64 ep, .slice a n cap] 24)) := (Below.refl _ w).alloc (Nat.le_refl _) _
  have cM := LayoutMay_any ep a cap cs hf (w.alloc (.cells #[.int .i64 ep, .slice a n cap] 24)) (hL.move (ok' := fun b => b < (w.alloc (.cells #[.int .i64 ep, .slice a n cap] 24)).heap.size) (Kept.of_below hb1) (fun b hb _ => by simp; omega))
  rw [← hn] at cM hlen ⊢
  have HK : Hid (∀ V, Below (w.alloc (.cells #[.int .i64 ep, .slice a n cap] 24)).heap.size (w.alloc (.cells #[.int .i64 ep, .slice a n cap] 24)) V → V.cell? ⟨w.heap.size, 0, none⟩ = some (.int .i64 ep) ∧ V.cell? ⟨w.heap.size, 1, none⟩ = some (.slice a n cap)) := put_by fun V hV => ⟨(hV.cell (p := ⟨w.heap.size, 0, none⟩) (by simp)).trans (by simp), (hV.cell (p := ⟨w.heap.size, 1, none⟩) (by simp)).trans (by simp)⟩
  have HB := put_by hb1
  have HM := put_by cM
  clear cM hn hL hf hb1
  cases hr : mayL ep cs with
  | false =>
    rw [hr] at HM
    clear hlen hr
    go_enter Try.func14, Try.ntmps14
    go_wp2_with (go_at_call 10; refine (HM.out).mono ?_; clear HM; rintro e V ⟨rfl, hV⟩; have HV := put_by (HB.out.trans (hV.mono HB.out.size)); clear hV)
    refine bodyPost_ret (results_tmp2 rfl _ _ _) rfl ?_
    exact ⟨rfl, HV.out⟩
  | true =>
    rw [hr] at HM
    obtain ⟨l1, l2⟩ := hlen hr
    clear hlen hr
    have HN : Hid (¬ ((0 ≤ ch ∧ ch < n) ∧ 0 ≤ ad ∧ ad < 64) → psn true n ch ad = (0, 2)) := put_by (fun h => by unfold psn; rw [if_neg (by simp), if_neg h])
    by_cases g0 : ch < 0
    · rw [HN.out (by omega)]
      go_enter Try.func14, Try.ntmps14
      go_wp2_with (go_at_call 10; refine (HM.out).mono ?_; clear HM; rintro e V ⟨rfl, hV⟩; have HV := put_by (HB.out.trans (hV.mono HB.out.size)); obtain ⟨k1, k2⟩ := HK.out V hV; clear hV)
      refine bodyPost_ret (results_tmp2 rfl _ _ _) rfl ?_
      exact ⟨rfl, HV.out⟩
    by_cases g1 : (n : Int) ≤ ch
    · rw [HN.out (by omega)]
      go_enter Try.func14, Try.ntmps14
      go_wp2_with (go_at_call 10; refine (HM.out).mono ?_; clear HM; rintro e V ⟨rfl, hV⟩; have HV := put_by (HB.out.trans (hV.mono HB.out.size)); obtain ⟨k1, k2⟩ := HK.out V hV; clear hV)
      refine bodyPost_ret (results_tmp2 rfl _ _ _) rfl ?_
      exact ⟨rfl, HV.out⟩
    by_cases g2 : ad < 0
    · rw [HN.out (by omega)]
      go_enter Try.func14, Try.ntmps14
      go_wp2_with (go_at_call 10; refine (HM.out).mono ?_; clear HM; rintro e V ⟨rfl, hV⟩; have HV := put_by (HB.out.trans (hV.mono HB.out.size)); obtain ⟨k1, k2⟩ := HK.out V hV; clear hV)
      refine bodyPost_ret (results_tmp2 rfl _ _ _) rfl ?_
      exact ⟨rfl, HV.out⟩
    by_cases g3 : 64 ≤ ad
    · rw [HN.out (by omega)]
      go_enter Try.func14, Try.ntmps14
      go_wp2_with (go_at_call 10; refine (HM.out).mono ?_; clear HM; rintro e V ⟨rfl, hV⟩; have HV := put_by (HB.out.trans (hV.mono HB.out.size)); obtain ⟨k1, k2⟩ := HK.out V hV; clear hV)
      refine bodyPost_ret (results_tmp2 rfl _ _ _) rfl ?_
      exact ⟨rfl, HV.out⟩
    have HP : Hid (psn true n ch ad = (ad * n + ch, 0)) := put_by (by unfold psn; rw [if_neg (by simp), if_pos (by omega)])
    rw [HP.out]
    obtain ⟨m1, m2, m3, m4⟩ := mul_small l2 (show 0 ≤ ad by omega) (show ad ≤ 64 by omega) (show 0 ≤ ch by omega) (show ch ≤ 6 by omega)
    have e1 : (n : Int) * ad = ad * n := Int.mul_comm _ _
    go_enter Try.func14, Try.ntmps14
    go_wp2_with (go_at_call 10; refine (HM.out).mono ?_; clear HM; rintro e V ⟨rfl, hV⟩; have HV := put_by (HB.out.trans (hV.mono HB.out.size)); obtain ⟨k1, k2⟩ := HK.out V hV; clear hV)
    refine bodyPost_ret (results_tmp2 rfl _ _ _) rfl ?_
    exact ⟨by simp [two, Int.add_comm], HV.out⟩

theorem plc_at {n A C : Nat} (h1 : C < n) (h2 : A < 64) : plc true n ((A : Int) * n + C) = ((C : Int), (A : Int), 0) := by
  have hn : (0 : Int) < n := by omega
  have e1 : ((A : Int) * n + C) % n = C := by
    rw [Int.add_comm, Int.add_mul_emod_self_right, Int.emod_eq_of_lt (by omega) (by omega)]
  have e2 : ((A : Int) * n + C) / n = A := by
    rw [Int.add_comm, Int.add_mul_ediv_right _ _ (by omega), Int.ediv_eq_zero_of_lt (by omega) (by omega), Int.zero_add]
  have b0 : 0 ≤ (A : Int) * n := Int.mul_nonneg (by omega) (by omega)
  have b1 : ((A : Int) + 1) * n ≤ 64 * n := Int.mul_le_mul_of_nonneg_right (by omega) (by omega)
  have b2 : ((A : Int) + 1) * n = A * n + n := by rw [Int.add_mul, Int.one_mul]
  unfold plc
  rw [if_neg (by simp), if_pos (by omega), e1, e2]

set_option maxHeartbeats 4000000 in
theorem PlaceOf_any (ep pos : Int) (a : Option Addr) (cap : Nat) (cs : List (List Int)) (hf : LyFew cs) (w : World) (hL : Lies (kRow kInt) (fun b => b < w.heap.size) w a cap cs) :
    Calls Try.prog 12 #[.agg #[.int .i64 ep, .slice a cs.length cap], .int .i64 pos] w fun e w' => e = .returned (three (plc (mayL ep cs) cs.length pos)) ∧ Below w.heap.size w w' := by
  have hlen := may_len (ep := ep) (cs := cs)
  obtain ⟨n, hn⟩ : ∃ n, n = cs.length := ⟨_, rfl⟩
  have hb1 : Below w.heap.size w (w.alloc (.cells #[.int .i64 ep, .slice a n cap] 24)) := (Below.refl _ w).alloc (Nat.le_refl _) _
  have cM := LayoutMay_any ep a cap cs hf (w.alloc (.cells #[.int .i64 ep, .slice a n cap] 24)) (hL.move (ok' := fun b => b < (w.alloc (.cells #[.int .i64 ep, .slice a n cap] 24)).heap.size) (Kept.of_below hb1) (fun b hb _ => by simp; omega))
  rw [← hn] at cM hlen ⊢
  have HK : Hid (∀ V, Below (w.alloc (.cells #[.int .i64 ep, .slice a n cap] 24)).heap.size (w.alloc (.cells #[.int .i64 ep, .slice a n cap] 24)) V → V.cell? ⟨w.heap.size, 0, none⟩ = some (.int .i64 ep) ∧ V.cell? ⟨w.heap.size, 1, none⟩ = some (.slice a n cap)) := put_by fun V hV => ⟨(hV.cell (p := ⟨w.heap.size, 0, none⟩) (by simp)).trans (by simp), (hV.cell (p := ⟨w.heap.size, 1, none⟩) (by simp)).trans (by simp)⟩
  have HB := put_by hb1
  have HM := put_by cM
  clear cM hn hL hf hb1
  cases hr : mayL ep cs with
  | false =>
    rw [hr] at HM
    clear hlen hr
    go_enter Try.func12, Try.ntmps12
    go_wp2_with (go_at_call 10; refine (HM.out).mono ?_; clear HM; rintro e V ⟨rfl, hV⟩; have HV := put_by (HB.out.trans (hV.mono HB.out.size)); clear hV)
    refine bodyPost_ret (results_tmp3 rfl _ _ _) rfl ?_
    exact ⟨rfl, HV.out⟩
  | true =>
    rw [hr] at HM
    obtain ⟨l1, l2⟩ := hlen hr
    clear hlen hr
    obtain ⟨t, ht⟩ : ∃ t, t = plc true n pos := ⟨_, rfl⟩
    rw [← ht]
    have HT := put_by ht
    clear ht
    go_enter Try.func12, Try.ntmps12
    go_wp2_with (go_at_call 10; refine (HM.out).mono ?_; clear HM; rintro e V ⟨rfl, hV⟩; have HV := put_by (HB.out.trans (hV.mono HB.out.size)); obtain ⟨k1, k2⟩ := HK.out V hV; clear hV)
    go_loopw [8] (fun x wr => wr = V ∧ ∃ A : Nat, A ≤ 64 ∧ x = .int .i64 A ∧ Hid (¬ (0 ≤ pos ∧ pos < A * n))) (fun x _ => 64 - (intOf x).toNat)
    case atStart => exact ⟨rfl, 0, Nat.zero_le _, rfl, put_by (by omega)⟩
    case round =>
      obtain ⟨rfl, A, hA, rfl, hh⟩ := hrel
      by_cases hAt : A < 64
      · go_wp2
        go_loopw [9] (fun x ws => ws = wr ∧ ∃ C : Nat, C ≤ n ∧ x = .int .i64 C ∧ Hid (¬ (0 ≤ pos ∧ pos < A * n + C))) (fun x _ => n - (intOf x).toNat)
        case atStart => exact ⟨rfl, 0, Nat.zero_le _, rfl, put_by (by have := hh.out; omega)⟩
        case round =>
          obtain ⟨rfl, C, hC, rfl, hh2⟩ := hrel
          by_cases hCt : C < n
          · obtain ⟨m1, m2, m3, m4⟩ := mul_small l2 (show 0 ≤ (A : Int) by omega) (show (A : Int) ≤ 64 by omega) (show 0 ≤ (C : Int) by omega) (show (C : Int) ≤ 6 by omega)
            by_cases e : (A : Int) * n + C = pos
            · obtain rfl : t = ((C : Int), (A : Int), 0) := by rw [HT.out, ← e]; exact plc_at hCt hAt
              clear HT
              subst e
              go_wp2
              refine bodyPost_ret (results_tmp3 rfl _ _ _) rfl ?_
              exact ⟨rfl, HV.out⟩
            · have h3 := put_by (show ¬ (0 ≤ pos ∧ pos < A * n + ((C + 1 : Nat) : Int)) by have := hh2.out; omega)
              go_wp2
              go_roundw
              case rel => exact ⟨trivial, C + 1, by omega, by simp, h3⟩
              case measure => simp [intOf]; omega
          · obtain rfl : C = n := by omega
            have h3 := put_by (show ¬ (0 ≤ pos ∧ pos < ((A + 1 : Nat) : Int) * (C : Int)) by have := hh2.out; rw [Int.natCast_add, Int.add_mul]; omega)
            go_wp2
            go_roundw
            case rel => exact ⟨trivial, A + 1, by omega, by simp, h3⟩
            case measure => simp [intOf]; omega
      · obtain rfl : A = 64 := by omega
        obtain rfl : t = (0, 0, 2) := by
          rw [HT.out]
          unfold plc
          rw [if_neg (by simp), if_neg (by have := hh.out; omega)]
        go_wp2
        refine bodyPost_ret (results_tmp3 rfl _ _ _) rfl ?_
        exact ⟨rfl, HV.out⟩

end Go.Proofs.Ytcffikfjbpeggaa
