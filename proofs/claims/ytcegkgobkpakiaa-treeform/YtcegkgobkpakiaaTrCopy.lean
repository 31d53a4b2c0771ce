/- Copies of entries. -/
import Derived.Test.YtcegkgobkpakiaaTrWith
namespace Go.Proofs.Ytcegkgobkpakiaa
open Go.ChangeShapes Go.WideShapes Go.ChangeAt Go.RowKit

/-- bytes in blocks from one on -/
def NewBody (B : Nat) (w : World) (u : Value) (xs : List Int) : Prop := IsBody w (fun b => B ≤ b) u xs

set_option maxHeartbeats 8000000 in
theorem copiedEntry_any (x : Ent) (ok : Nat → Prop) (u v : Value) (w : World) (hu : IsBody w ok u x.1) (hv : IsBody w ok v x.2) :
    Calls Try.prog 23 #[.agg #[u, v]] w fun e w' => ∃ (a1 : Option Addr) (n1 c1 : Nat) (a2 : Option Addr) (n2 c2 : Nat), e = .returned (.agg #[.slice a1 n1 c1, .slice a2 n2 c2]) ∧ kEnt.rel (fun b => w.heap.size ≤ b ∧ b ≠ w.heap.size + 1) w' x [.slice a1 n1 c1, .slice a2 n2 c2] ∧ Below w.heap.size w w' := by
  obtain ⟨ka, kc, rfl, ho, -⟩ := id hu
  obtain ⟨va, vc, rfl, hov, -⟩ := id hv
  have c1 : Hid (∀ W : World, Four w (.slice ka x.1.length kc) (.slice va x.2.length vc) (.slice none 0 0) (.slice none 0 0) W → Calls Try.prog 24 #[.slice ka x.1.length kc] W fun e w' => ∃ (a1 : Option Addr) (n1 c1 : Nat), e = .returned (.slice a1 n1 c1) ∧ Hid (Four w (.slice ka x.1.length kc) (.slice va x.2.length vc) (.slice none 0 0) (.slice none 0 0) w') ∧ Hid (n1 = x.1.length ∧ IsBody w' (fun b => w.heap.size ≤ b ∧ b ≠ w.heap.size + 1) (.slice a1 n1 c1) x.1)) := fun W hW => by
    have hsz := World.block_lt_of_cell? _ _ hW.two.c0
    refine (copied_any ka kc x.1 W (ho.later hW.below)).mono ?_
    rintro e w' ⟨a1, c1, rfl, h1, h2, h3⟩
    exact ⟨a1, _, c1, rfl, hW.later h3, rfl, a1, c1, rfl, h1, fun _ ad hd => ⟨by have := h2 ad hd; have := hW.below.size; omega, by have := h2 ad hd; simp at hsz; omega⟩⟩
  have c2 : Hid (∀ (W : World) (a1 : Option Addr) (n1 c1 : Nat), Four w (.slice ka x.1.length kc) (.slice va x.2.length vc) (.slice none 0 0) (.slice none 0 0) W → n1 = x.1.length ∧ IsBody W (fun b => w.heap.size ≤ b ∧ b ≠ w.heap.size + 1) (.slice a1 n1 c1) x.1 → Calls Try.prog 24 #[.slice va x.2.length vc] W fun e w' => ∃ (a2 : Option Addr) (n2 c2 : Nat), e = .returned (.slice a2 n2 c2) ∧ Hid (Four w (.slice ka x.1.length kc) (.slice va x.2.length vc) (.slice none 0 0) (.slice none 0 0) w') ∧ Hid (kEnt.rel (fun b => w.heap.size ≤ b ∧ b ≠ w.heap.size + 1) w' x [.slice a1 n1 c1, .slice a2 n2 c2])) := fun W a1 n1 c1 hW ⟨g1, g2⟩ => by
    have hsz := World.block_lt_of_cell? _ _ hW.two.c0
    refine (copied_any va vc x.2 W (hov.later hW.below)).mono ?_
    rintro e w' ⟨a2, c2, rfl, h1, h2, h3⟩
    exact ⟨a2, _, c2, rfl, hW.later h3, _, _, rfl, g2.later h3, a2, c2, rfl, h1, fun _ ad hd => ⟨by have := h2 ad hd; have := hW.below.size; omega, by have := h2 ad hd; simp at hsz; omega⟩⟩
  have H0 := put_by (Four.new w (.slice ka x.1.length kc) (.slice va x.2.length vc) (.slice none 0 0) (.slice none 0 0) 62 62)
  generalize x.1.length = km at c1 c2 H0 ⊢
  generalize x.2.length = vm at c1 c2 H0 ⊢
  clear hu hv ho hov
  go_enter Try.func23, Try.ntmps23
  go_wp2
  obtain ⟨W0, hW0⟩ : ∃ W0, ((w.alloc (.cells #[.slice ka km kc, .slice va vm vc] 62)).alloc (.cells #[.slice none 0 0, .slice none 0 0] 62)) = W0 := ⟨_, rfl⟩
  rw [hW0] at H0 ⊢
  have HD := put_by (H0.out.later (Below.refl _ _).drew)
  obtain ⟨k0, k1, -, -⟩ := id H0.out.one
  clear hW0
  go_region_held3 (fun W' => W'.cell? ⟨w.heap.size, 0, none⟩ = some (.slice ka km kc) ∧ W'.cell? ⟨w.heap.size, 1, none⟩ = some (.slice va vm vc)) (go_keep) (first
    | (go_at_call 24; (with_reducible refine (c1.out _ HD.out).mono ?_); clear c1; rintro e w1 ⟨a1, n1, q1, rfl, hF1, H1⟩; obtain ⟨j0, j1, -, -⟩ := id hF1.out.one)
    | (go_at_call 24; (with_reducible refine (c2.out _ _ _ _ hF1.out H1.out).mono ?_); clear c2; rintro e w2 ⟨a2, n2, q2, rfl, hF2, H2⟩; obtain ⟨i0, i1, -, -⟩ := id hF2.out.one; obtain ⟨i2, i3, i4, i5⟩ := id hF2.out.two))
  all_goals
    have h2 := hF2.out.two.set (.slice a1 n1 q1) (.slice a2 n2 q2)
    have h5 := below_two hF2.out.below (Nat.le_succ _) (.slice a1 n1 q1) (.slice a2 n2 q2)
    have h6 : Kept (fun b => w.heap.size ≤ b ∧ b ≠ w.heap.size + 1) w2 ((w2.setCell ⟨w.heap.size + 1, 0, none⟩ (.slice a1 n1 q1)).setCell ⟨w.heap.size + 1, 1, none⟩ (.slice a2 n2 q2)) := ⟨by simp, fun b _ ho => (heap_setCell_other _ _ _ _ ho.2).trans (heap_setCell_other _ _ _ _ ho.2)⟩
    have z0 := h2.c0
    have z1 := h2.c1
    generalize (w2.setCell _ _).setCell _ _ = W9 at h2 h5 h6 z0 z1 ⊢
    go_wp2
    exact bodyPost_ret (v := .agg #[.slice a1 n1 q1, .slice a2 n2 q2]) (by simp [results, Try.results23, go_sem, asAddr, z0, z1]) rfl ⟨a1, n1, q1, a2, n2, q2, rfl, kEnt.move h6 (fun _ _ q => q) H2.out, h5⟩

end Go.Proofs.Ytcegkgobkpakiaa
