/- What is refused of a swap. -/
import Derived.Test.YtcffikfjbpeggabLySwapP
import Derived.Test.YtcffikfjbpeggabLyHas
namespace Go.Proofs.Ytcffikfjbpeggab
open Go.ChangeShapes Go.WideShapes Go.ChangeAt Go.RowKit

set_option maxHeartbeats 4000000 in
theorem swaps_any (ep old next : Int) (a : Option Addr) (cap : Nat) (cs : List (List Int)) (hf : LyFew cs) (w : World) (hL : Lies (kRow kInt) (fun b => b < w.heap.size) w a cap cs) :
    Calls Try.prog 16 #[.agg #[.int .i64 ep, .slice a cs.length cap], .int .i64 old, .int .i64 next] w fun e w' => e = .returned (.int .i64 (swE ep cs old next)) ∧ Below w.heap.size w w' := by
  obtain ⟨n, hn⟩ : ∃ n, n = cs.length := ⟨_, rfl⟩
  have hb1 : Below w.heap.size w (w.alloc (.cells #[.int .i64 ep, .slice a n cap] 25)) := (Below.refl _ w).alloc (Nat.le_refl _) _
  have HB := put_by hb1
  have HLL : ∀ V, Below (w.alloc (.cells #[.int .i64 ep, .slice a n cap] 25)).heap.size (w.alloc (.cells #[.int .i64 ep, .slice a n cap] 25)) V → Lies (kRow kInt) (fun b => b < V.heap.size) V a cap cs := fun V hV =>
    hL.move (Kept.of_below (hb1.trans (hV.mono hb1.size))) (fun b hb _ => Nat.lt_of_lt_of_le hb (hb1.trans (hV.mono hb1.size)).size)
  have HM := put_by (fun V hV => May_any ep a cap cs hf V (HLL V hV))
  have HO := put_by (fun V hV => has_any a cap cs old hf.1 hf.2 V (HLL V hV))
  have HN := put_by (fun V hV => has_any a cap cs next hf.1 hf.2 V (HLL V hV))
  rw [← hn] at HM HO HN ⊢
  obtain ⟨r, hr⟩ : ∃ r, r = swE ep cs old next := ⟨_, rfl⟩
  rw [← hr]
  have HR : Hid (r = if mayL ep cs = false then 4 else if ¬ (0 ≤ next ∧ next ≤ 5) then 2 else if old ∉ cs.flatten then 6 else if next ∈ cs.flatten then 7 else if ep = 1000000 then 10 else 0) := put_by (by rw [hr, swE])
  have HK : Hid (∀ V, Below (w.alloc (.cells #[.int .i64 ep, .slice a n cap] 25)).heap.size (w.alloc (.cells #[.int .i64 ep, .slice a n cap] 25)) V → V.cell? ⟨w.heap.size, 0, none⟩ = some (.int .i64 ep) ∧ V.cell? ⟨w.heap.size, 1, none⟩ = some (.slice a n cap)) := put_by fun V hV => ⟨(hV.cell (p := ⟨w.heap.size, 0, none⟩) (by simp)).trans (by simp), (hV.cell (p := ⟨w.heap.size, 1, none⟩) (by simp)).trans (by simp)⟩
  have HU := put_by (isUnit_any next)
  clear hr hb1 HLL hL hf hn
  cases g0 : mayL ep cs with
  | false =>
    rw [g0, if_pos rfl] at HR
    have hr := HR.out
    subst hr
    rw [g0] at HM
    go_enter Try.func16, Try.ntmps16
    go_wp2_with (go_at_call 10; refine (HM.out _ (Below.refl _ _)).mono ?_; clear HM; rintro e V1 ⟨rfl, h1⟩; have HV := put_by (HB.out.trans (h1.mono HB.out.size)); clear h1)
    go_ret
    exact ⟨rfl, HV.out⟩
  | true =>
    rw [g0, if_neg (by simp)] at HR
    rw [g0] at HM
    by_cases g1 : 0 ≤ next ∧ next ≤ 5
    · rw [if_neg (not_not_intro g1)] at HR
      have g1' : decide (0 ≤ next ∧ next ≤ 5) = true := decide_eq_true g1
      rw [g1'] at HU
      by_cases g2 : old ∈ cs.flatten
      · rw [if_neg (not_not_intro g2)] at HR
        rw [decide_eq_true g2] at HO
        by_cases g3 : next ∈ cs.flatten
        · rw [if_pos g3] at HR
          rw [decide_eq_true g3] at HN
          have hr := HR.out
          subst hr
          clear g1 g1' g2 g3 HR
          go_enter Try.func16, Try.ntmps16
          go_wp2_with (first
            | (go_at_call 10; refine (HM.out _ (Below.refl _ _)).mono ?_; clear HM; rintro e V1 ⟨rfl, h1⟩; have HV := put_by h1; clear h1; obtain ⟨k0, k1⟩ := HK.out _ HV.out)
            | (go_at_call 19; refine (HU.out _).mono ?_; clear HU; rintro e V2 ⟨rfl, rfl⟩)
            | (go_at_call 20; (with_reducible refine (HO.out _ HV.out).mono ?_); clear HO; rintro e V3 ⟨rfl, h3⟩; have HV := put_by (HV.out.trans (h3.mono HV.out.size)); clear h3; obtain ⟨k0, k1⟩ := HK.out _ HV.out)
            | (go_at_call 20; (with_reducible refine (HN.out _ HV.out).mono ?_); clear HN; rintro e V4 ⟨rfl, h4⟩; have HV := put_by (HV.out.trans (h4.mono HV.out.size)); clear h4; obtain ⟨k0, k1⟩ := HK.out _ HV.out))
          go_ret
          exact ⟨rfl, HB.out.trans (HV.out.mono HB.out.size)⟩
        · rw [if_neg g3] at HR
          rw [decide_eq_false g3] at HN
          by_cases g4 : ep = 1000000
          · rw [if_pos g4] at HR
            have hr := HR.out
            subst hr
            clear g1 g1' g2 g3 HR g0
            subst g4
            go_enter Try.func16, Try.ntmps16
            go_wp2_with (first
              | (go_at_call 10; refine (HM.out _ (Below.refl _ _)).mono ?_; clear HM; rintro e V1 ⟨rfl, h1⟩; have HV := put_by h1; clear h1; obtain ⟨k0, k1⟩ := HK.out _ HV.out)
              | (go_at_call 19; refine (HU.out _).mono ?_; clear HU; rintro e V2 ⟨rfl, rfl⟩)
              | (go_at_call 20; (with_reducible refine (HO.out _ HV.out).mono ?_); clear HO; rintro e V3 ⟨rfl, h3⟩; have HV := put_by (HV.out.trans (h3.mono HV.out.size)); clear h3; obtain ⟨k0, k1⟩ := HK.out _ HV.out)
              | (go_at_call 20; (with_reducible refine (HN.out _ HV.out).mono ?_); clear HN; rintro e V4 ⟨rfl, h4⟩; have HV := put_by (HV.out.trans (h4.mono HV.out.size)); clear h4; obtain ⟨k0, k1⟩ := HK.out _ HV.out))
            go_ret
            exact ⟨rfl, HB.out.trans (HV.out.mono HB.out.size)⟩
          · rw [if_neg g4] at HR
            have hr := HR.out
            subst hr
            have z4 : (ep == 1000000) = false := by simpa using g4
            clear g1 g1' g2 g3 HR g0
            go_enter Try.func16, Try.ntmps16
            go_wp2_with (first
              | (go_at_call 10; refine (HM.out _ (Below.refl _ _)).mono ?_; clear HM; rintro e V1 ⟨rfl, h1⟩; have HV := put_by h1; clear h1; obtain ⟨k0, k1⟩ := HK.out _ HV.out)
              | (go_at_call 19; refine (HU.out _).mono ?_; clear HU; rintro e V2 ⟨rfl, rfl⟩)
              | (go_at_call 20; (with_reducible refine (HO.out _ HV.out).mono ?_); clear HO; rintro e V3 ⟨rfl, h3⟩; have HV := put_by (HV.out.trans (h3.mono HV.out.size)); clear h3; obtain ⟨k0, k1⟩ := HK.out _ HV.out)
              | (go_at_call 20; (with_reducible refine (HN.out _ HV.out).mono ?_); clear HN; rintro e V4 ⟨rfl, h4⟩; have HV := put_by (HV.out.trans (h4.mono HV.out.size)); clear h4; obtain ⟨k0, k1⟩ := HK.out _ HV.out))
            go_ret
            exact ⟨rfl, HB.out.trans (HV.out.mono HB.out.size)⟩
      · rw [if_pos g2] at HR
        rw [decide_eq_false g2] at HO
        have hr := HR.out
        subst hr
        clear g1 g1' g2 HR
        go_enter Try.func16, Try.ntmps16
        go_wp2_with (first
          | (go_at_call 10; refine (HM.out _ (Below.refl _ _)).mono ?_; clear HM; rintro e V1 ⟨rfl, h1⟩; have HV := put_by h1; clear h1; obtain ⟨k0, k1⟩ := HK.out _ HV.out)
          | (go_at_call 19; refine (HU.out _).mono ?_; clear HU; rintro e V2 ⟨rfl, rfl⟩)
          | (go_at_call 20; (with_reducible refine (HO.out _ HV.out).mono ?_); clear HO; rintro e V3 ⟨rfl, h3⟩; have HV := put_by (HV.out.trans (h3.mono HV.out.size)); clear h3; obtain ⟨k0, k1⟩ := HK.out _ HV.out))
        go_ret
        exact ⟨rfl, HB.out.trans (HV.out.mono HB.out.size)⟩
    · rw [if_pos g1] at HR
      have hr := HR.out
      subst hr
      rw [decide_eq_false g1] at HU
      clear g1 HR
      go_enter Try.func16, Try.ntmps16
      go_wp2_with (first
        | (go_at_call 10; refine (HM.out _ (Below.refl _ _)).mono ?_; clear HM; rintro e V1 ⟨rfl, h1⟩; have HV := put_by h1; clear h1; obtain ⟨k0, k1⟩ := HK.out _ HV.out)
        | (go_at_call 19; refine (HU.out _).mono ?_; clear HU; rintro e V2 ⟨rfl, rfl⟩))
      go_ret
      exact ⟨rfl, HB.out.trans (HV.out.mono HB.out.size)⟩

end Go.Proofs.Ytcffikfjbpeggab
