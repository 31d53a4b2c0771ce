/- The position of a place. -/
import Derived.Test.YtcffikfjbpeggaaLyPlace
namespace Go.Proofs.Ytcffikfjbpeggaa
open Go.ChangeShapes Go.WideShapes Go.ChangeAt Go.RowKit

set_option maxHeartbeats 2000000 in
theorem Pos_any (ep ch ad : Int) (a : Option Addr) (cap : Nat) (cs : List (List Int)) (hf : LyFew cs) (w : World) (hL : Lies (kRow kInt) (fun b => b < w.heap.size) w a cap cs) :
    Calls Try.prog 13 #[.agg #[.int .i64 ep, .slice a cs.length cap], .int .i64 ch, .int .i64 ad] w fun e w' => e = .returned (two (psn (mayL ep cs) cs.length ch ad)) ∧ Below w.heap.size w w' := by
  have hlen := may_len (ep := ep) (cs := cs)
  obtain ⟨n, hn⟩ : ∃ n, n = cs.length := ⟨_, rfl⟩
  have hb1 : Below w.heap.size w (w.alloc (.cells #[.int .i64 ep, .slice a n cap] 24)) := (Below.refl _ w).alloc (Nat.le_refl _) _
  have cM := May_any ep a cap cs hf (w.alloc (.cells #[.int .i64 ep, .slice a n cap] 24)) (hL.move (ok' := fun b => b < (w.alloc (.cells #[.int .i64 ep, .slice a n cap] 24)).heap.size) (Kept.of_below hb1) (fun b hb _ => by simp; omega))
  rw [← hn] at cM hlen ⊢
  have HK : Hid (∀ V, Below (w.alloc (.cells #[.int .i64 ep, .slice a n cap] 24)).heap.size (w.alloc (.cells #[.int .i64 ep, .slice a n cap] 24)) V → V.cell? ⟨w.heap.size, 0, none⟩ = some (.int .i64 ep) ∧ V.cell? ⟨w.heap.size, 1, none⟩ = some (.slice a n cap)) := put_by fun V hV => ⟨(hV.cell (p := ⟨w.heap.size, 0, none⟩) (by simp)).trans (by simp), (hV.cell (p := ⟨w.heap.size, 1, none⟩) (by simp)).trans (by simp)⟩
  have HB := put_by hb1
  have HM := put_by cM
  clear cM hn hL hf hb1
  cases hr : mayL ep cs with
  | false =>
    rw [hr] at HM
    clear hlen hr
    go_enter Try.func13, Try.ntmps13
    go_wp2_with (go_at_call 9; refine (HM.out).mono ?_; clear HM; rintro e V ⟨rfl, hV⟩; have HV := put_by (HB.out.trans (hV.mono HB.out.size)); clear hV)
    refine bodyPost_ret (results_tmp2 rfl _ _ _) rfl ?_
    exact ⟨rfl, HV.out⟩
  | true =>
    rw [hr] at HM
    obtain ⟨l1, l2⟩ := hlen hr
    clear hlen hr
    have HN : Hid (¬ ((0 ≤ ch ∧ ch < n) ∧ 0 ≤ ad ∧ ad < 64) → psn true n ch ad = (0, 2)) := put_by (fun h => by unfold psn; rw [if_neg (by simp), if_neg h])
    by_cases g0 : ch < 0
    · rw [HN.out (by omega)]
      go_enter Try.func13, Try.ntmps13
      go_wp2_with (go_at_call 9; refine (HM.out).mono ?_; clear HM; rintro e V ⟨rfl, hV⟩; have HV := put_by (HB.out.trans (hV.mono HB.out.size)); obtain ⟨k1, k2⟩ := HK.out V hV; clear hV)
      refine bodyPost_ret (results_tmp2 rfl _ _ _) rfl ?_
      exact ⟨rfl, HV.out⟩
    by_cases g1 : (n : Int) ≤ ch
    · rw [HN.out (by omega)]
      go_enter Try.func13, Try.ntmps13
      go_wp2_with (go_at_call 9; refine (HM.out).mono ?_; clear HM; rintro e V ⟨rfl, hV⟩; have HV := put_by (HB.out.trans (hV.mono HB.out.size)); obtain ⟨k1, k2⟩ := HK.out V hV; clear hV)
      refine bodyPost_ret (results_tmp2 rfl _ _ _) rfl ?_
      exact ⟨rfl, HV.out⟩
    by_cases g2 : ad < 0
    · rw [HN.out (by omega)]
      go_enter Try.func13, Try.ntmps13
      go_wp2_with (go_at_call 9; refine (HM.out).mono ?_; clear HM; rintro e V ⟨rfl, hV⟩; have HV := put_by (HB.out.trans (hV.mono HB.out.size)); obtain ⟨k1, k2⟩ := HK.out V hV; clear hV)
      refine bodyPost_ret (results_tmp2 rfl _ _ _) rfl ?_
      exact ⟨rfl, HV.out⟩
    by_cases g3 : 64 ≤ ad
    · rw [HN.out (by omega)]
      go_enter Try.func13, Try.ntmps13
      go_wp2_with (go_at_call 9; refine (HM.out).mono ?_; clear HM; rintro e V ⟨rfl, hV⟩; have HV := put_by (HB.out.trans (hV.mono HB.out.size)); obtain ⟨k1, k2⟩ := HK.out V hV; clear hV)
      refine bodyPost_ret (results_tmp2 rfl _ _ _) rfl ?_
      exact ⟨rfl, HV.out⟩
    have HP : Hid (psn true n ch ad = (ad * n + ch, 0)) := put_by (by unfold psn; rw [if_neg (by simp), if_pos (by omega)])
    rw [HP.out]
    have HO : Hid (∀ V, Calls Try.prog 25 #[.agg #[.int .i64 ep, .slice a n cap], .int .i64 ch, .int .i64 ad] V fun e w' => e = .returned (.int .i64 (ad * n + ch)) ∧ Below V.heap.size V w') := put_by (fun V => posOf_any ep ch ad a n cap l2 (by omega) (by omega) (by omega) (by omega) V)
    go_enter Try.func13, Try.ntmps13
    go_wp2_with first
      | (go_at_call 9; refine (HM.out).mono ?_; clear HM; rintro e V ⟨rfl, hV⟩; have HV := put_by (HB.out.trans (hV.mono HB.out.size)); obtain ⟨k1, k2⟩ := HK.out V hV; clear hV)
      | (go_at_call 25; refine (HO.out _).mono ?_; clear HO; rintro e V2 ⟨rfl, hV2⟩; have HV2 := put_by (HV.out.trans (hV2.mono HV.out.size)); clear hV2)
    refine bodyPost_ret (results_tmp2 rfl _ _ _) rfl ?_
    exact ⟨rfl, HV2.out⟩

end Go.Proofs.Ytcffikfjbpeggaa
