/- Neighbours stand on neighbours: the walk. -/
import Derived.Test.YtcffikfjbpeggabLyKeep
namespace Go.Proofs.Ytcffikfjbpeggab
open Go.ChangeShapes Go.WideShapes Go.ChangeAt Go.RowKit

set_option maxHeartbeats 4000000 in
theorem PlaceNext_any {ok : Nat → Prop} (la : Option Addr) (m lc : Nat) (ls : List Int) (turn pos : Int) (hml : m = ls.length) (hm8 : m * 8 ≤ 140737488351232) (w : World) (hL : Lies kInt ok w la lc ls) :
    Calls Try.prog 3 #[.slice la m lc, .int .i64 turn, .int .i64 pos] w fun e w' => e = .returned (.bool true) ∧ Below w.heap.size w w' := by
  have HF := put_by (for_at la m lc ls 0 turn hml hm8 w hL)
  clear hL hml hm8
  go_enter Try.func3, Try.ntmps3
  go_wp2_with (go_at_call 6; refine (HF.out).mono ?_; clear HF; rintro e V1 ⟨cs, a, n, c, rfl, HA, HB1⟩; have HA1 := put_by HA; have HB1 := put_by HB1; clear HA; refine hidGoal ?_)
  obtain ⟨l1, l5⟩ := HA1.out.2.len
  rw [← HA1.out.1] at l1 l5
  have HK : Hid (∀ V, Below (V1.alloc (.cells #[.int .i64 0, .slice a n c] 25)).heap.size (V1.alloc (.cells #[.int .i64 0, .slice a n c] 25)) V → V.cell? ⟨V1.heap.size, 0, none⟩ = some (.int .i64 0) ∧ V.cell? ⟨V1.heap.size, 1, none⟩ = some (.slice a n c)) := put_by fun V hV => ⟨(hV.cell (p := ⟨V1.heap.size, 0, none⟩) (by simp)).trans (by simp), (hV.cell (p := ⟨V1.heap.size, 1, none⟩) (by simp)).trans (by simp)⟩
  have hB2 : Below V1.heap.size V1 (V1.alloc (.cells #[.int .i64 0, .slice a n c] 25)) := (Below.refl _ _).alloc (Nat.le_refl _) _
  have HA := put_by (And.intro HA1.out.1 (HA1.out.2.later hB2))
  have HBw := put_by (HB1.out.trans (hB2.mono HB1.out.size))
  have HB := put_by (Below.refl (V1.alloc (.cells #[.int .i64 0, .slice a n c] 25)).heap.size (V1.alloc (.cells #[.int .i64 0, .slice a n c] 25)))
  clear HA1 HB1 hB2
  unfold Hid
  go_upto_region 3 with (fail)
  have HPl := put_by (fun V (hV : Below (V1.alloc (.cells #[.int .i64 0, .slice a n c] 25)).heap.size (V1.alloc (.cells #[.int .i64 0, .slice a n c] 25)) V) => place_at (HA.out.2.later hV) 0 (by decide) (by decide) n HA.out.1)
  have HPo := put_by (fun V (hV : Below (V1.alloc (.cells #[.int .i64 0, .slice a n c] 25)).heap.size (V1.alloc (.cells #[.int .i64 0, .slice a n c] 25)) V) => place_over (HA.out.2.later hV) 0 (by decide) (by decide) n HA.out.1)
  clear HA
  -- what the raw number picks
  obtain ⟨P, hP⟩ : ∃ P, P = pos % ((n : Int) * 64 - 1) := ⟨_, rfl⟩
  have P0 : 0 ≤ P := by rw [hP]; exact Int.emod_nonneg _ (by omega)
  have P1 : P < (n : Int) * 64 - 1 := by rw [hP]; exact Int.emod_lt_of_pos _ (by omega)
  have HC1 := put_by (fun V => Picked_any pos ((n : Int) * 64 - 1) (by omega) (by omega) V)
  rw [← hP] at HC1
  clear hP
  generalize V1.alloc (.cells #[.int .i64 0, .slice a n c] 25) = W0 at *
  obtain ⟨k0, k1⟩ := HK.out W0 (Below.refl _ _)
  go_wp2_with (first
    | (go_at_call 7; (with_reducible refine (HC1.out _).mono ?_); clear HC1; rintro e w' ⟨rfl, rfl⟩)
    | (go_at_call 8; (with_reducible refine (HPl.out _ HB.out P P0 (by omega)).mono ?_); rintro e V2 ⟨c0, a0, rfl, ⟨f0, f1, f2, f3, f4⟩, hb2⟩; have HB2 := put_by (HB.out.trans (hb2.mono HB.out.size)); clear hb2; obtain ⟨k0, k1⟩ := HK.out _ HB2.out)
    | (go_at_call 8; (with_reducible refine (HPl.out _ HB2.out (P + 1) (by omega) (by omega)).mono ?_); rintro e V3 ⟨c1, a1, rfl, ⟨g0, g1, g2, g3, g4⟩, hb3⟩; have HB3 := put_by (HB2.out.trans (hb3.mono HB2.out.size)); clear hb3; obtain ⟨k0, k1⟩ := HK.out _ HB3.out; have HN := put_by (parts_next (n := n) (a := a0) (b := a1) (c := c0) (d := c1) ⟨f0, f1⟩ ⟨g0, g1⟩ (by omega)); clear f4 g4; refine hidGoal ?_))
  unfold Hid
  rcases HN.out with ⟨h1, rfl, rfl⟩ | ⟨h1, rfl, rfl⟩
  · have t1 : Int.tmod (c0 + 1) n = c0 + 1 := by rw [Int.tmod_eq_emod_of_nonneg (by omega), Int.emod_eq_of_lt (by omega) h1]
    have z1 : ((n : Int) == 0) = false := by simp; omega
    go_wp2_with (go_at_call 8; (with_reducible refine (HPo.out _ HB3.out ((n : Int) * 64) rfl).mono ?_); rintro e V4 ⟨rfl, hb4⟩; have HB4 := put_by (HB3.out.trans (hb4.mono HB3.out.size)); clear hb4)
    go_ret
    exact ⟨rfl, HBw.out.trans (HB4.out.mono HBw.out.size)⟩
  · have t1 : Int.tmod (c0 + 1) n = 0 := by rw [h1, Int.tmod_self]
    have z1 : ((n : Int) == 0) = false := by simp; omega
    go_wp2_with (go_at_call 8; (with_reducible refine (HPo.out _ HB3.out ((n : Int) * 64) rfl).mono ?_); rintro e V4 ⟨rfl, hb4⟩; have HB4 := put_by (HB3.out.trans (hb4.mono HB3.out.size)); clear hb4)
    go_ret
    exact ⟨rfl, HBw.out.trans (HB4.out.mono HBw.out.size)⟩

end Go.Proofs.Ytcffikfjbpeggab
