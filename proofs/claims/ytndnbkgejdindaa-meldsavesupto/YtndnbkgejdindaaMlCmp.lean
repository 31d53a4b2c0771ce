/- What is done, held against each other: compareDones. -/
import Derived.Test.YtndnbkgejdindaaMlMay
namespace Go.Proofs.Ytndnbkgejdindaa
open Go.ChangeShapes Go.WideShapes Go.ChangeAt Go.RowKit

set_option maxRecDepth 100000 in
set_option maxHeartbeats 1000000 in
theorem compareDones_any (x y : Dn) (w : World) :
    Calls Try.prog 32 #[.agg #[.int .i64 x.client, .int .i64 x.number, .int .i64 x.pos, .bool x.kept], .agg #[.int .i64 y.client, .int .i64 y.number, .int .i64 y.pos, .bool y.kept]] w fun e w' => e = .returned (.int .i64 (cmpD x y)) ∧ Below w.heap.size w w' := by
  unfold cmpD
  obtain ⟨a, b, c, d⟩ := x
  obtain ⟨a', b', c', d'⟩ := y
  simp only
  have HB := put_by (((Below.refl w.heap.size w).alloc (Nat.le_refl _) (.cells #[.int .i64 a, .int .i64 b, .int .i64 c, .bool d] 53)).alloc (by simp) (.cells #[.int .i64 a', .int .i64 b', .int .i64 c', .bool d'] 53))
  have hs : ((w.alloc (.cells #[.int .i64 a, .int .i64 b, .int .i64 c, .bool d] 53)).alloc (.cells #[.int .i64 a', .int .i64 b', .int .i64 c', .bool d'] 53)).heap.size = w.heap.size + 2 := by simp
  have x0 : ((w.alloc (.cells #[.int .i64 a, .int .i64 b, .int .i64 c, .bool d] 53)).alloc (.cells #[.int .i64 a', .int .i64 b', .int .i64 c', .bool d'] 53)).cell? ⟨w.heap.size, 0, none⟩ = some (.int .i64 a) := by simp
  have x1 : ((w.alloc (.cells #[.int .i64 a, .int .i64 b, .int .i64 c, .bool d] 53)).alloc (.cells #[.int .i64 a', .int .i64 b', .int .i64 c', .bool d'] 53)).cell? ⟨w.heap.size, 1, none⟩ = some (.int .i64 b) := by simp
  have y0 : ((w.alloc (.cells #[.int .i64 a, .int .i64 b, .int .i64 c, .bool d] 53)).alloc (.cells #[.int .i64 a', .int .i64 b', .int .i64 c', .bool d'] 53)).cell? ⟨w.heap.size + 1, 0, none⟩ = some (.int .i64 a') := by simp
  have y1 : ((w.alloc (.cells #[.int .i64 a, .int .i64 b, .int .i64 c, .bool d] 53)).alloc (.cells #[.int .i64 a', .int .i64 b', .int .i64 c', .bool d'] 53)).cell? ⟨w.heap.size + 1, 1, none⟩ = some (.int .i64 b') := by simp
  go_enter Try.func32, Try.ntmps32
  go_upto_region 1 with (fail)
  generalize (w.alloc (.cells #[.int .i64 a, .int .i64 b, .int .i64 c, .bool d] 53)).alloc (.cells #[.int .i64 a', .int .i64 b', .int .i64 c', .bool d'] 53) = V at HB hs x0 x1 y0 y1 ⊢
  have HS := put_by hs
  have hlt1 : w.heap.size < V.heap.size := by omega
  have hlt2 : w.heap.size + 1 < V.heap.size := by omega
  clear hs
  have bx : Below V.heap.size V V.drew := (Below.refl _ _).drew
  refine wp_region_held (S := fun W => Below V.heap.size V W) (by kernel_rfl) ?_
  change wpAnyH _ _ _ _ _ 13 #[false, false, false, false, false, false, false, false, false, false, false, false, false] _ V.drew
  refine takeH (i := 0) 5 (v := .pointer (some ⟨w.heap.size, 0, none⟩)) rfl rfl (by kernel_rfl) (by kernel_rfl) (by kernel_rfl) (fun _ _ _ h => h) (Or.inl ⟨by kernel_rfl, ?_⟩) bx ?_
  · intro wq hq
    go_simp
  simp only [Act.put, List.setIfInBounds_toArray, List.set_cons_zero]
  refine takeH (i := 1) 6 (v := .int .i64 a) rfl rfl (by kernel_rfl) (by kernel_rfl) (by kernel_rfl) (fun _ _ _ h => h) (Or.inl ⟨by kernel_rfl, ?_⟩) bx ?_
  · intro wq hq
    have q := (hq.cell (p := ⟨w.heap.size, 0, none⟩) hlt1).trans x0
    go_simp
  simp only [Act.put, List.setIfInBounds_toArray, List.set_cons_zero, List.set_cons_succ]
  refine takeH (i := 2) 7 (v := .pointer (some ⟨w.heap.size + 1, 0, none⟩)) rfl rfl (by kernel_rfl) (by kernel_rfl) (by kernel_rfl) (fun _ _ _ h => h) (Or.inl ⟨by kernel_rfl, ?_⟩) bx ?_
  · intro wq hq
    go_simp
  simp only [Act.put, List.setIfInBounds_toArray, List.set_cons_zero, List.set_cons_succ]
  refine takeH (i := 3) 8 (v := .int .i64 a') rfl rfl (by kernel_rfl) (by kernel_rfl) (by kernel_rfl) (fun _ _ _ h => h) (Or.inl ⟨by kernel_rfl, ?_⟩) bx ?_
  · intro wq hq
    have q := (hq.cell (p := ⟨w.heap.size + 1, 0, none⟩) hlt2).trans y0
    go_simp
  simp only [Act.put, List.setIfInBounds_toArray, List.set_cons_zero, List.set_cons_succ]
  refine takeH (i := 5) 10 (v := .pointer (some ⟨w.heap.size, 1, none⟩)) rfl rfl (by kernel_rfl) (by kernel_rfl) (by kernel_rfl) (fun _ _ _ h => h) (Or.inl ⟨by kernel_rfl, ?_⟩) bx ?_
  · intro wq hq
    go_simp
  simp only [Act.put, List.setIfInBounds_toArray, List.set_cons_zero, List.set_cons_succ]
  refine takeH (i := 6) 11 (v := .int .i64 b) rfl rfl (by kernel_rfl) (by kernel_rfl) (by kernel_rfl) (fun _ _ _ h => h) (Or.inl ⟨by kernel_rfl, ?_⟩) bx ?_
  · intro wq hq
    have q := (hq.cell (p := ⟨w.heap.size, 1, none⟩) hlt1).trans x1
    go_simp
  simp only [Act.put, List.setIfInBounds_toArray, List.set_cons_zero, List.set_cons_succ]
  refine takeH (i := 7) 12 (v := .pointer (some ⟨w.heap.size + 1, 1, none⟩)) rfl rfl (by kernel_rfl) (by kernel_rfl) (by kernel_rfl) (fun _ _ _ h => h) (Or.inl ⟨by kernel_rfl, ?_⟩) bx ?_
  · intro wq hq
    go_simp
  simp only [Act.put, List.setIfInBounds_toArray, List.set_cons_zero, List.set_cons_succ]
  refine takeH (i := 8) 13 (v := .int .i64 b') rfl rfl (by kernel_rfl) (by kernel_rfl) (by kernel_rfl) (fun _ _ _ h => h) (Or.inl ⟨by kernel_rfl, ?_⟩) bx ?_
  · intro wq hq
    have q := (hq.cell (p := ⟨w.heap.size + 1, 1, none⟩) hlt2).trans y1
    go_simp
  simp only [Act.put, List.setIfInBounds_toArray, List.set_cons_zero, List.set_cons_succ]
  refine wpAnyH_ready (rs := [4]) (by kernel_rfl) (by simp) ?_
  refine AllReadyH.cons rfl (fun K1 hK1 => ?_) AllReadyH.nil
  rw [if_pos (by kernel_rfl)]
  unfold Oper.wp
  go_simp
  go_wp2_with (go_at_call 58; (with_reducible refine (CompareI_any _ _ _).mono ?_); rintro e w1 ⟨rfl, rfl⟩)
  refine hK1.out _ _ bx (fun _ => ?_)
  simp only [List.setIfInBounds_toArray, List.set_cons_zero, List.set_cons_succ]
  refine wpAnyH_ready (rs := [9]) (by kernel_rfl) (by simp) ?_
  refine AllReadyH.cons rfl (fun K1 hK1 => ?_) AllReadyH.nil
  rw [if_pos (by kernel_rfl)]
  unfold Oper.wp
  go_simp
  go_wp2_with (go_at_call 58; (with_reducible refine (CompareI_any _ _ _).mono ?_); rintro e w1 ⟨rfl, rfl⟩)
  refine hK1.out _ _ bx (fun _ => ?_)
  simp only [List.setIfInBounds_toArray, List.set_cons_zero, List.set_cons_succ]
  have b2 : Below V.heap.size V (V.drew.alloc (.cells #[.int .i64 (cmpI a a'), .int .i64 (cmpI b b')] 3)) := bx.alloc (by simp) _
  refine wpAnyH_ready (rs := [10]) (by kernel_rfl) (by simp) ?_
  refine AllReadyH.cons rfl (fun K1 hK1 => ?_) AllReadyH.nil
  rw [if_pos (by kernel_rfl)]
  unfold Oper.wp
  go_simp
  refine hK1.out _ _ b2 (fun _ => ?_)
  simp only [List.setIfInBounds_toArray, List.set_cons_zero, List.set_cons_succ]
  refine wpAnyH_ready (rs := [11]) (by kernel_rfl) (by simp) ?_
  refine AllReadyH.cons rfl (fun K1 hK1 => ?_) AllReadyH.nil
  rw [if_pos (by kernel_rfl)]
  unfold Oper.wp
  go_simp
  go_wp2_with (go_at_call 57; refine (OrI_any _ _ _ _ (by simp; rfl) (by simp; rfl)).mono ?_; rintro e w1 ⟨rfl, rfl⟩)
  refine hK1.out _ _ b2 (fun _ => ?_)
  simp only [List.setIfInBounds_toArray, List.set_cons_zero, List.set_cons_succ]
  refine takeH (i := 12) 4 (v := .int .i64 (orI (cmpI a a') (cmpI b b'))) rfl rfl (by kernel_rfl) (by kernel_rfl) (by kernel_rfl) (fun _ _ _ h => h) (Or.inl ⟨by kernel_rfl, ?_⟩) b2 ?_
  · intro wq hq
    go_simp
  simp only [Act.put, List.setIfInBounds_toArray, List.set_cons_zero, List.set_cons_succ]
  refine wpAnyH_done (by kernel_rfl) ?_ _
  go_wp2
  go_ret
  exact ⟨rfl, HB.out.trans (b2.mono HB.out.size)⟩

end Go.Proofs.Ytndnbkgejdindaa
