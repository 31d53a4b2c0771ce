/- Swap answers what the reference answers: the walk. -/
import Derived.Test.YtcffikfjbpeggaaLySwap
import Derived.Test.YtcffikfjbpeggaaRfSwap
import Derived.Test.YtcffikfjbpeggaaSameLay
import Derived.Test.YtcffikfjbpeggaaLayArg
namespace Go.Proofs.Ytcffikfjbpeggaa
open Go.ChangeShapes Go.WideShapes Go.ChangeAt Go.RowKit

theorem swL_few (ep : Int) (cs : List (List Int)) (old next : Int) : (swL ep cs old next).length ≤ 140737488351232 ∧ ∀ c ∈ swL ep cs old next, c.length ≤ 140737488351232 := by
  unfold swL
  split
  · rename_i h
    have h1 := (mayL_iff.1 (swE_ok h).1).2.1
    refine ⟨by rw [swC_length]; omega, fun c hc => ?_⟩
    simp only [swC, List.mem_map] at hc
    obtain ⟨d, hd, rfl⟩ := hc
    have := h1.2.2 d hd
    rw [List.length_map]
    omega
  · exact ⟨by simp, by simp⟩

theorem box_kept (W : World) (p q : Value) (ty : TypeId) : Hid (∀ V, Below (W.alloc (.cells #[p, q] ty)).heap.size (W.alloc (.cells #[p, q] ty)) V → V.cell? ⟨W.heap.size, 0, none⟩ = some p ∧ V.cell? ⟨W.heap.size, 1, none⟩ = some q) := fun _ hV =>
  ⟨((Duo.new W p q ty).later hV).c0, ((Duo.new W p q ty).later hV).c1⟩

set_option maxHeartbeats 4000000 in
theorem LayoutSwaps_any (v : Value) (old next : Int) (w : World) (hv : LayArg w v) :
    Calls Try.prog 7 #[v, .int .i64 old, .int .i64 next] w fun e w' => e = .returned (.bool true) ∧ Below w.heap.size w w' := by
  obtain ⟨ep, cs, a, c, rfl, hf, hL, -, -⟩ := hv
  obtain ⟨n, hn⟩ : ∃ n, n = cs.length := ⟨_, rfl⟩
  rw [← hn]
  obtain ⟨N9, hN9⟩ : ∃ x, x = swN ep cs old next := ⟨_, rfl⟩
  obtain ⟨E9, hE9⟩ : ∃ x, x = swE ep cs old next := ⟨_, rfl⟩
  obtain ⟨L9, hL9⟩ : ∃ x, x = swL ep cs old next := ⟨_, rfl⟩
  have HFew : Hid (L9.length ≤ 140737488351232 ∧ ∀ c ∈ L9, c.length ≤ 140737488351232) := put_by (by rw [hL9]; exact swL_few _ _ _ _)
  have c1 : Hid (∀ V, Below w.heap.size w V → Calls Try.prog 17 #[.agg #[.int .i64 ep, .slice a n c], .int .i64 old, .int .i64 next] V fun e w' => ∃ (b : Option Addr) (m d : Nat), e = .returned (.tuple #[.agg #[.int .i64 N9, .slice b m d], .int .i64 E9]) ∧ Hid ((m = L9.length ∧ Lies (kRow kInt) (fun _ => True) w' b d L9) ∧ Below V.heap.size V w')) := put_by fun V hV => by
    refine (Swap_any ep old next a c n cs hn hf V (hL.move (Kept.of_below hV) (fun b hb _ => Nat.lt_of_lt_of_le hb hV.size))).mono ?_
    rintro e w' ⟨b, m, d, rfl, h1, h2, h3⟩
    rw [← hN9, ← hE9]
    exact ⟨b, m, d, rfl, put_by ⟨⟨by rw [h1, hL9], by rw [hL9]; exact h2.move (Kept.of_below (Below.refl _ _)) (fun _ _ _ => trivial)⟩, h3⟩⟩
  have c2 : Hid (∀ V, Below w.heap.size w V → Calls Try.prog 18 #[.agg #[.int .i64 ep, .slice a n c], .int .i64 old, .int .i64 next] V fun e w' => ∃ (b : Option Addr) (m d : Nat), e = .returned (.tuple #[.agg #[.int .i64 N9, .slice b m d], .int .i64 E9]) ∧ Hid ((m = L9.length ∧ Lies (kRow kInt) (fun _ => True) w' b d L9) ∧ Below V.heap.size V w')) := put_by fun V hV => by
    refine (Swapped_any ep old next a c n cs hn hf V (hL.move (Kept.of_below hV) (fun b hb _ => Nat.lt_of_lt_of_le hb hV.size))).mono ?_
    rintro e w' ⟨b, m, d, rfl, h1, h2, h3⟩
    rw [← hN9, ← hE9]
    exact ⟨b, m, d, rfl, put_by ⟨⟨by rw [h1, hL9], by rw [hL9]; exact h2.move (Kept.of_below (Below.refl _ _)) (fun _ _ _ => trivial)⟩, h3⟩⟩
  clear hf hL hn hN9 hE9 hL9
  have HA := put_by ((Below.refl w.heap.size w).alloc (Nat.le_refl _) (.cells #[.int .i64 ep, .slice a n c] 24))
  have HK := box_kept w (.int .i64 ep) (.slice a n c) 24
  go_enter Try.func7, Try.ntmps7
  go_upto_region 1 with (fail)
  generalize w.alloc (.cells #[.int .i64 ep, .slice a n c] 24) = W0 at HA HK ⊢
  obtain ⟨k0, k1⟩ := HK.out W0 (Below.refl _ _)
  go_wp2_with (go_at_call 17; (with_reducible refine (c1.out _ HA.out).mono ?_); clear c1; rintro e V1 ⟨b1, m1, d1, rfl, H1⟩; refine hidGoal ?_)
  unfold Hid
  have HB1 := box_kept V1 (.int .i64 N9) (.slice b1 m1 d1) 24
  have hA1 := (Below.refl V1.heap.size V1).alloc (Nat.le_refl _) (.cells #[.int .i64 N9, .slice b1 m1 d1] 24)
  have HV1 := put_by (And.intro H1.out.1.1 (H1.out.1.2.later hA1))
  have HW1 := put_by (H1.out.2.trans (hA1.mono H1.out.2.size))
  clear H1 hA1
  go_upto_region 2 with (fail)
  generalize V1.alloc (.cells #[.int .i64 N9, .slice b1 m1 d1] 24) = W1 at HB1 HV1 HW1 ⊢
  obtain ⟨k0, k1⟩ := HK.out W1 HW1.out
  go_wp2_with (go_at_call 18; (with_reducible refine (c2.out _ (HA.out.trans (HW1.out.mono HA.out.size))).mono ?_); clear c2; rintro e V2 ⟨b2, m2, d2, rfl, H2⟩; refine hidGoal ?_)
  unfold Hid
  have HB2 := box_kept V2 (.int .i64 N9) (.slice b2 m2 d2) 24
  have hA2 := (Below.refl V2.heap.size V2).alloc (Nat.le_refl _) (.cells #[.int .i64 N9, .slice b2 m2 d2] 24)
  have hW12 := H2.out.2.trans (hA2.mono H2.out.2.size)
  have HV2 := put_by (And.intro H2.out.1.1 (H2.out.1.2.later hA2))
  have HV1 := put_by (And.intro HV1.out.1 (HV1.out.2.later hW12))
  have HW2 := put_by hW12
  clear H2 hA2 hW12
  go_upto_region 3 with (fail)
  generalize V2.alloc (.cells #[.int .i64 N9, .slice b2 m2 d2] 24) = W2 at HB2 HV2 HV1 HW2 ⊢
  obtain ⟨i0, i1⟩ := HB1.out W2 HW2.out
  obtain ⟨j0, j1⟩ := HB2.out W2 (Below.refl _ _)
  have cS := put_by (sameLayout_yes N9 b1 b2 m1 m2 d1 d2 L9 HV1.out.1 HV2.out.1 HFew.out W2 HV1.out.2 HV2.out.2)
  go_wp2_with (go_at_call 19; (with_reducible refine (cS.out).mono ?_); clear cS; rintro e V3 ⟨rfl, h3⟩; have H3 := put_by h3; clear h3)
  go_ret
  exact ⟨by simp, HA.out.trans ((HW1.out.trans ((HW2.out.trans (H3.out.mono HW2.out.size)).mono HW1.out.size)).mono HA.out.size)⟩

end Go.Proofs.Ytcffikfjbpeggaa
