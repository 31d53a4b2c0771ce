/- A layout, one unit in the place of another one. -/
import Derived.Test.YtcffikfjbpeggabLySwaps
import Derived.Test.YtcffikfjbpeggabLySwappedW
import Derived.Deep.RegionHeld3
namespace Go.Proofs.Ytcffikfjbpeggab
open Go.ChangeShapes Go.WideShapes Go.ChangeAt Go.RowKit

set_option maxHeartbeats 4000000 in
theorem Swap_any (ep old next : Int) (a : Option Addr) (cap n : Nat) (cs : List (List Int)) (hn : n = cs.length) (hf : LyFew cs) (w : World) (hL : Lies (kRow kInt) (fun b => b < w.heap.size) w a cap cs) :
    Calls Try.prog 11 #[.agg #[.int .i64 ep, .slice a n cap], .int .i64 old, .int .i64 next] w fun e w' => SwPost w ep cs old next e w' := by
  obtain ⟨W0, hW0⟩ : ∃ W0, W0 = (w.alloc (.cells #[.int .i64 ep, .slice a n cap] 25)).alloc (.cells #[.int .i64 0, .slice none 0 0] 25) := ⟨_, rfl⟩
  have hb1 : Below w.heap.size w W0 := by rw [hW0]; exact ((Below.refl _ w).alloc (Nat.le_refl _) _).alloc (by simp) _
  have hd0 : Duo W0 w.heap.size (.int .i64 ep) (.slice a n cap) := by rw [hW0]; exact (Duo.new w _ _ _).later ((Below.refl _ _).alloc (Nat.le_refl _) _)
  have hd1 : Duo W0 (w.heap.size + 1) (.int .i64 0) (.slice none 0 0) := by
    rw [hW0]
    have := Duo.new (w.alloc (.cells #[.int .i64 ep, .slice a n cap] 25)) (.int .i64 0) (.slice none 0 0) 25
    rwa [World.size_alloc] at this
  have HLL : ∀ V, Below W0.heap.size W0 V → Lies (kRow kInt) (fun b => b < V.heap.size) V a cap cs := fun V hV =>
    hL.move (Kept.of_below (hb1.trans (hV.mono hb1.size))) (fun b hb _ => Nat.lt_of_lt_of_le hb (hb1.trans (hV.mono hb1.size)).size)
  have HS := put_by (fun V hV => swaps_any ep old next a cap cs hf V (HLL V hV))
  have HD := put_by (fun V (hV : Below W0.heap.size W0 V) => And.intro (hd0.later hV) (hd1.later hV))
  have HB := put_by hb1
  have HE := put_by (fun h => swE_ok (ep := ep) (cs := cs) (old := old) (next := next) h)
  have HC : Hid (swE ep cs old next = 0 → ∀ V, Below W0.heap.size W0 V → Calls Try.prog 17 #[.slice a n cap, .int .i64 old, .int .i64 next] V fun e w' => ∃ G : Nat, e = .returned (.slice (some ⟨G, 0, none⟩) n n) ∧ Lies (kRow kInt) (fun b => V.heap.size ≤ b) w' (some ⟨G, 0, none⟩) n (swC old next cs) ∧ Below V.heap.size V w') := put_by (fun h V hV => by
    have h1 := mayL_iff.1 (swE_ok h).1
    exact swapped_any old next a cap n cs hn (by rw [hn]; exact h1.2.1.2.1) (fun c hc => (h1.2.1.2.2 c hc).2) V (HLL V hV))
  rw [← hn] at HS
  have HN := put_by hn
  obtain ⟨r, hr⟩ : ∃ r, r = swE ep cs old next := ⟨_, rfl⟩
  rw [← hr] at HS HC
  have HR := put_by hr.symm
  have HSZ : Hid (W0.heap.size = w.heap.size + 2) := put_by (by rw [hW0]; simp)
  clear hL hf hb1 hd0 hd1 HLL hr hn
  go_enter Try.func11, Try.ntmps11
  go_upto_region 1 with (fail)
  rw [← hW0]
  clear hW0
  obtain ⟨⟨k0, k1, -, -⟩, -⟩ := HD.out W0 (Below.refl _ _)
  by_cases h0 : r = 0
  · subst h0
    have hbe := (mayL_iff.1 (HE.out HR.out).1).1
    obtain ⟨b0, b1⟩ := hbe
    clear HE
    go_wp2_with (go_at_call 16; refine (HS.out _ (Below.refl _ _)).mono ?_; clear HS; rintro e V1 ⟨rfl, h1⟩; have H1 := put_by h1; clear h1; refine hidGoal ?_)
    unfold Hid
    obtain ⟨⟨k0, k1, -, -⟩, ⟨r0, r1, s0, s1⟩⟩ := HD.out _ H1.out
    go_upto_region 4 with (fail)
    have HCC := put_by (HC.out (by trivial))
    clear HC
    go_region_held3 (fun V => V.cell? ⟨w.heap.size, 0, none⟩ = some (.int .i64 ep) ∧ V.cell? ⟨w.heap.size, 1, none⟩ = some (.slice a n cap)) (go_keep) (first
      | (go_at_call 17; (with_reducible refine (HCC.out _ H1.out.drew).mono ?_); clear HCC; rintro e V2 ⟨G, rfl, hl2, h2⟩; have H2 := put_by (And.intro hl2 (H1.out.drew.trans (h2.mono H1.out.drew.size))); clear hl2 h2; obtain ⟨⟨j0, j1, -, -⟩, ⟨p0, p1, q0, q1⟩⟩ := HD.out _ H2.out.2))
    all_goals
      have dE := (HD.out _ H2.out.2).2.set2 (.int .i64 (ep + 1)) (.slice (some ⟨G, 0, none⟩) n n)
      have HZ : Hid (SwPost w ep cs old next (.returned (.tuple #[.agg #[.int .i64 (ep + 1), .slice (some ⟨G, 0, none⟩) n n], .int .i64 0])) (set2 V2 (w.heap.size + 1) (.int .i64 (ep + 1)) (.slice (some ⟨G, 0, none⟩) n n))) := put_by (SwPost.yes HR.out HN.out
        ((H2.out.1.move (ok' := fun b => w.heap.size + 2 ≤ b) (Kept.of_below (Below.refl _ _)) (fun b _ hb => by have := HSZ.out; have := H1.out.size; have h : V1.drew.heap.size ≤ b := hb; simp at h; omega)).move (kept_set2 (by omega) _ _) (fun b _ hb => by omega))
        (below_set2 (HB.out.trans (H2.out.2.mono HB.out.size)) (by omega) _ _))
      unfold set2 at dE HZ
      obtain ⟨e0, e1, -, -⟩ := dE
      rw [show IntKind.i64.wrap (ep + 1) = ep + 1 by unfold IntKind.wrap; simp [IntKind.bits, IntKind.signed]; omega]
      go_wp2
      exact bodyPost_ret (v := .tuple #[.agg #[.int .i64 (ep + 1), .slice (some ⟨G, 0, none⟩) n n], .int .i64 0]) (by simp [results, Try.results11, go_sem, asAddr, e0, e1]) rfl HZ.out
  · have z0 : (r == 0) = false := by simpa using h0
    have HNo := put_by (fun w' (h : Below w.heap.size w w') => SwPost.no (w := w) (w' := w') (ep := ep) (cs := cs) (old := old) (next := next) HR.out h0 h)
    go_wp2_with (go_at_call 16; refine (HS.out _ (Below.refl _ _)).mono ?_; clear HS; rintro e V1 ⟨rfl, h1⟩; have H1 := put_by h1; clear h1; refine hidGoal ?_)
    unfold Hid
    obtain ⟨⟨k0, k1, -, -⟩, ⟨r0, r1, s0, s1⟩⟩ := HD.out _ H1.out
    have dE := (HD.out _ H1.out).2.set2 (.int .i64 0) (.slice none 0 0)
    have HZ := put_by (HNo.out _ (below_set2 (B := w.heap.size + 1) (HB.out.trans (H1.out.mono HB.out.size)) (by omega) (.int .i64 0) (.slice none 0 0)))
    unfold set2 at dE HZ
    obtain ⟨e0, e1, -, -⟩ := dE
    go_wp2
    exact bodyPost_ret (v := .tuple #[.agg #[.int .i64 0, .slice none 0 0], .int .i64 r]) (by simp [results, Try.results11, go_sem, asAddr, e0, e1]) rfl HZ.out

end Go.Proofs.Ytcffikfjbpeggab
