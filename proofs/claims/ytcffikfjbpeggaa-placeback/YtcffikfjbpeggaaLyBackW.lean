/- Each position has a place of its own: the walk. -/
import Derived.Test.YtcffikfjbpeggaaLyKeep
import Derived.Test.YtcffikfjbpeggaaLyPos
namespace Go.Proofs.Ytcffikfjbpeggaa
open Go.ChangeShapes Go.WideShapes Go.ChangeAt Go.RowKit

theorem pos_at {V : World} {a : Option Addr} {c : Nat} {cs : List (List Int)} (h : LayAt V a c cs) (ep : Int) (e0 : 0 ≤ ep) (e1 : ep ≤ 1000000) (n : Nat) (hn : n = cs.length) (ch ad : Int) (h0 : (0 ≤ ch ∧ ch < n) ∧ 0 ≤ ad ∧ ad < 64) :
    Calls Try.prog 13 #[.agg #[.int .i64 ep, .slice a n c], .int .i64 ch, .int .i64 ad] V fun e w' => e = .returned (.tuple #[.int .i64 (ad * n + ch), .int .i64 0]) ∧ Below V.heap.size V w' := by
  subst hn
  refine (Pos_any ep ch ad a c cs h.1.few V h.2).mono ?_
  rintro e w' ⟨rfl, hb⟩
  rw [h.1.may e0 e1]
  have e2 : psn true cs.length ch ad = (ad * cs.length + ch, 0) := by
    unfold psn
    rw [if_neg (by simp), if_pos h0]
  rw [e2]
  exact ⟨rfl, hb⟩

set_option maxHeartbeats 4000000 in
theorem PlaceBack_any {ok : Nat → Prop} (la : Option Addr) (m lc : Nat) (ls : List Int) (turn pos chain addr : Int) (hml : m = ls.length) (hm8 : m * 8 ≤ 140737488351232) (w : World) (hL : Lies kInt ok w la lc ls) :
    Calls Try.prog 8 #[.slice la m lc, .int .i64 turn, .int .i64 pos, .int .i64 chain, .int .i64 addr] w fun e w' => e = .returned (.bool true) ∧ Below w.heap.size w w' := by
  have HF := put_by (for_at la m lc ls 0 turn hml hm8 w hL)
  clear hL hml hm8
  go_enter Try.func8, Try.ntmps8
  go_wp2_with (go_at_call 20; refine (HF.out).mono ?_; clear HF; rintro e V1 ⟨cs, a, n, c, rfl, HA, HB1⟩; have HA1 := put_by HA; have HB1 := put_by HB1; clear HA; refine hidGoal ?_)
  obtain ⟨l1, l5⟩ := HA1.out.2.len
  rw [← HA1.out.1] at l1 l5
  have HK : Hid (∀ V, Below (V1.alloc (.cells #[.int .i64 0, .slice a n c] 24)).heap.size (V1.alloc (.cells #[.int .i64 0, .slice a n c] 24)) V → V.cell? ⟨V1.heap.size, 0, none⟩ = some (.int .i64 0) ∧ V.cell? ⟨V1.heap.size, 1, none⟩ = some (.slice a n c)) := put_by fun V hV => ⟨(hV.cell (p := ⟨V1.heap.size, 0, none⟩) (by simp)).trans (by simp), (hV.cell (p := ⟨V1.heap.size, 1, none⟩) (by simp)).trans (by simp)⟩
  have hB2 : Below V1.heap.size V1 (V1.alloc (.cells #[.int .i64 0, .slice a n c] 24)) := (Below.refl _ _).alloc (Nat.le_refl _) _
  have HA := put_by (And.intro HA1.out.1 (HA1.out.2.later hB2))
  have HBw := put_by (HB1.out.trans (hB2.mono HB1.out.size))
  have HB := put_by (Below.refl (V1.alloc (.cells #[.int .i64 0, .slice a n c] 24)).heap.size (V1.alloc (.cells #[.int .i64 0, .slice a n c] 24)))
  clear HA1 HB1 hB2
  unfold Hid
  go_upto_region 3 with (fail)
  have HPl := put_by (fun V (hV : Below (V1.alloc (.cells #[.int .i64 0, .slice a n c] 24)).heap.size (V1.alloc (.cells #[.int .i64 0, .slice a n c] 24)) V) => place_at (HA.out.2.later hV) 0 (by decide) (by decide) n HA.out.1)
  have HPs := put_by (fun V (hV : Below (V1.alloc (.cells #[.int .i64 0, .slice a n c] 24)).heap.size (V1.alloc (.cells #[.int .i64 0, .slice a n c] 24)) V) => pos_at (HA.out.2.later hV) 0 (by decide) (by decide) n HA.out.1)
  have HMa := put_by (fun V (hV : Below (V1.alloc (.cells #[.int .i64 0, .slice a n c] 24)).heap.size (V1.alloc (.cells #[.int .i64 0, .slice a n c] 24)) V) => may_at (HA.out.2.later hV) 0 (by decide) (by decide) n HA.out.1)
  clear HA
  -- what the raw numbers pick
  obtain ⟨P, hP⟩ : ∃ P, P = pos % ((n : Int) * 64) := ⟨_, rfl⟩
  have P0 : 0 ≤ P := by rw [hP]; exact Int.emod_nonneg _ (by omega)
  have P1 : P < (n : Int) * 64 := by rw [hP]; exact Int.emod_lt_of_pos _ (by omega)
  obtain ⟨x, hx⟩ : ∃ x, x = chain % (n : Int) := ⟨_, rfl⟩
  have x0 : 0 ≤ x := by rw [hx]; exact Int.emod_nonneg _ (by omega)
  have x1 : x < (n : Int) := by rw [hx]; exact Int.emod_lt_of_pos _ (by omega)
  obtain ⟨y, hy⟩ : ∃ y, y = addr % 64 := ⟨_, rfl⟩
  have y0 : 0 ≤ y := by rw [hy]; exact Int.emod_nonneg _ (by omega)
  have y1 : y < 64 := by rw [hy]; exact Int.emod_lt_of_pos _ (by omega)
  have HC1 := put_by (fun V => Picked_any pos ((n : Int) * 64) (by omega) (by omega) V)
  have HC2 := put_by (fun V => Picked_any chain (n : Int) (by omega) (by omega) V)
  have HC3 := put_by (fun V => Picked_any addr 64 (by decide) (by decide) V)
  rw [← hP] at HC1
  rw [← hx] at HC2
  rw [← hy] at HC3
  have q0 : 0 ≤ y * (n : Int) + x ∧ y * (n : Int) + x < n * 64 := by
    have h1 : 0 ≤ y * (n : Int) := Int.mul_nonneg y0 (by omega)
    have h2 : (y + 1) * (n : Int) ≤ 64 * n := Int.mul_le_mul_of_nonneg_right (by omega) (by omega)
    have h3 : (y + 1) * (n : Int) = y * n + n := by rw [Int.add_mul, Int.one_mul]
    omega
  clear hP hx hy
  generalize V1.alloc (.cells #[.int .i64 0, .slice a n c] 24) = W0 at *
  obtain ⟨k0, k1⟩ := HK.out W0 (Below.refl _ _)
  go_wp2_with (first
    | (go_at_call 21; (with_reducible refine (HC1.out _).mono ?_); clear HC1; rintro e w' ⟨rfl, rfl⟩)
    | (go_at_call 21; (with_reducible refine (HC2.out _).mono ?_); clear HC2; rintro e w' ⟨rfl, rfl⟩)
    | (go_at_call 21; (with_reducible refine (HC3.out _).mono ?_); clear HC3; rintro e w' ⟨rfl, rfl⟩)
    | (go_at_call 11; (with_reducible refine (HPl.out _ HB.out P P0 (by omega)).mono ?_); rintro e V2 ⟨c0, a0, rfl, ⟨f0, f1, f2, f3, f4⟩, hb2⟩; have HB2 := put_by (HB.out.trans (hb2.mono HB.out.size)); clear hb2; obtain ⟨k0, k1⟩ := HK.out _ HB2.out)
    | (go_at_call 13; (with_reducible refine (HPs.out _ HB2.out c0 a0 ⟨⟨f0, f1⟩, f2, f3⟩).mono ?_); rintro e V3 ⟨rfl, hb3⟩; have HB3 := put_by (HB2.out.trans (hb3.mono HB2.out.size)); clear hb3; obtain ⟨k0, k1⟩ := HK.out _ HB3.out)
    | (go_at_call 13; (with_reducible refine (HPs.out _ HB3.out x y ⟨⟨x0, x1⟩, y0, y1⟩).mono ?_); rintro e V4 ⟨rfl, hb4⟩; have HB4 := put_by (HB3.out.trans (hb4.mono HB3.out.size)); clear hb4; obtain ⟨k0, k1⟩ := HK.out _ HB4.out)
    | (go_at_call 11; (with_reducible refine (HPl.out _ HB4.out (y * (n : Int) + x) q0.1 (by omega)).mono ?_); rintro e V5 ⟨c1, a1, rfl, ⟨g0, g1, g2, g3, g4⟩, hb5⟩; have HB5 := put_by (HB4.out.trans (hb5.mono HB4.out.size)); clear hb5; obtain ⟨k0, k1⟩ := HK.out _ HB5.out; obtain ⟨rfl, rfl⟩ := parts_one ⟨g0, g1⟩ ⟨x0, x1⟩ g4)
    | (go_at_call 9; (with_reducible refine (HMa.out _ HB5.out).mono ?_); rintro e V6 ⟨rfl, hb6⟩; have HB6 := put_by (HB5.out.trans (hb6.mono HB5.out.size)); clear hb6))
  go_ret
  exact ⟨rfl, HBw.out.trans (HB6.out.mono HBw.out.size)⟩

end Go.Proofs.Ytcffikfjbpeggaa
