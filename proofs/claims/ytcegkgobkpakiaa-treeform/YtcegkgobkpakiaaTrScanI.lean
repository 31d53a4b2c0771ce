/- What stands while a scan goes on. -/
import Derived.Test.YtcegkgobkpakiaaTrRound
namespace Go.Proofs.Ytcegkgobkpakiaa
open Go.ChangeShapes Go.WideShapes Go.ChangeAt Go.RowKit

theorem cell_isCells {w : World} {b o : Nat} {u : Value} (h : w.cell? ⟨b, o, none⟩ = some u) : ∃ ob : Obj, w.heap[b]? = some ob ∧ ob.isCells = true := by
  unfold World.cell? at h
  split at h
  · rename_i e
    exact ⟨_, e, rfl⟩
  · cases h

theorem body_cells {w : World} {ok : Nat → Prop} {u : Value} {xs : List Int} (h : IsBody w ok u xs) : IsBody w (fun b => ok b ∧ ∃ ob : Obj, w.heap[b]? = some ob ∧ ob.isCells = true) u xs := by
  obtain ⟨a, c, e, o, hk⟩ := h
  refine ⟨a, c, e, o, fun hx ad ha => ⟨hk hx ad ha, ?_⟩⟩
  rcases o.2.2.2.2 with q | ⟨b, off, e2, q⟩
  · exact absurd q hx
  · rw [ha] at e2
    cases e2
    exact cell_isCells (q 0 (List.length_pos_iff.2 hx))

/-- a step that turns no cells leaves a row of entries -/
theorem rows_own {ok : Nat → Prop} {X Y : World} {base : Nat} {E : TypeId} {v : Value} {l : List Ent} {row : Option Nat} (h : Rows kEnt ok X base E v l) (hg : X.grownBy Y row) (hr : ∀ r, row = some r → ∃ o : Obj, X.heap[r]? = some o ∧ o.isCells = false) : Rows kEnt ok Y base E v l := by
  have hne : ∀ b : Nat, (∃ ob : Obj, X.heap[b]? = some ob ∧ ob.isCells = true) → Y.heap[b]? = X.heap[b]? := by
    rintro b ⟨ob, h1, h2⟩
    refine hg.block b (Array.getElem?_eq_some_iff.1 h1).1 (fun e => ?_)
    obtain ⟨o, h3, h4⟩ := hr b e.symm
    rw [h1] at h3
    cases h3
    rw [h2] at h4
    cases h4
  obtain ⟨css, h1, h2⟩ := h
  refine ⟨css, own_kept h1 (fun g e => hne g ?_), All2.imp (fun x cs hx => ?_) h2⟩
  · rcases h1.2 with ⟨q, _⟩ | ⟨g', cap, cur, q, _, q2, _⟩
    · rw [q] at e
      cases e
    · rw [q] at e
      cases e
      exact ⟨_, q2, rfl⟩
  · obtain ⟨u, u', rfl, k1, k2⟩ := hx
    have hK : Kept (fun b => (ok b ∧ v.ownBlock ≠ some b) ∧ ∃ ob : Obj, X.heap[b]? = some ob ∧ ob.isCells = true) X Y := ⟨hg.size, fun b _ ho => hne b ho.2⟩
    exact ⟨u, u', rfl, (body_cells k1).move hK (fun _ _ q => q.1), (body_cells k2).move hK (fun _ _ q => q.1)⟩

/-- four cells of one variable -/
structure Quad (W : World) (B : Nat) (p q r s : Value) : Prop where
  c0 : W.cell? ⟨B, 0, none⟩ = some p
  c1 : W.cell? ⟨B, 1, none⟩ = some q
  c2 : W.cell? ⟨B, 2, none⟩ = some r
  c3 : W.cell? ⟨B, 3, none⟩ = some s
  f0 : W.frozen? ⟨B, 0, none⟩ = false
  f1 : W.frozen? ⟨B, 1, none⟩ = false
  f2 : W.frozen? ⟨B, 2, none⟩ = false
  f3 : W.frozen? ⟨B, 3, none⟩ = false

theorem Quad.move {W W' : World} {B : Nat} {p q r s : Value} (h : Quad W B p q r s) (e : W'.heap[B]? = W.heap[B]?) : Quad W' B p q r s :=
  ⟨(World.cell?_of_block (w := W) e).trans h.c0, (World.cell?_of_block (w := W) e).trans h.c1, (World.cell?_of_block (w := W) e).trans h.c2, (World.cell?_of_block (w := W) e).trans h.c3,
   (World.frozen?_of_block (w := W) e).trans h.f0, (World.frozen?_of_block (w := W) e).trans h.f1, (World.frozen?_of_block (w := W) e).trans h.f2, (World.frozen?_of_block (w := W) e).trans h.f3⟩

theorem Quad.new (W : World) (p q r s : Value) (ty : TypeId) : Quad (W.alloc (.cells #[p, q, r, s] ty)) W.heap.size p q r s := ⟨by simp, by simp, by simp, by simp, by simp, by simp, by simp, by simp⟩

theorem Quad.set {W : World} {B : Nat} {p q r s : Value} (h : Quad W B p q r s) (p' q' r' s' : Value) : Quad ((((W.setCell ⟨B, 0, none⟩ p').setCell ⟨B, 1, none⟩ q').setCell ⟨B, 2, none⟩ r').setCell ⟨B, 3, none⟩ s') B p' q' r' s' := by
  have o : ∀ (W : World) (i j : Nat) (v : Value), i ≠ j → (W.setCell ⟨B, i, none⟩ v).cell? ⟨B, j, none⟩ = W.cell? ⟨B, j, none⟩ := fun W i j v hne => World.cell?_setCell_other _ _ _ _ (by intro q; cases q; exact hne rfl)
  refine ⟨?_, ?_, ?_, ?_, ?_, ?_, ?_, ?_⟩
  · rw [o _ 3 0 _ (by decide), o _ 2 0 _ (by decide), o _ 1 0 _ (by decide)]
    exact World.cell?_setCell_same' _ _ _ (by rw [h.c0]; rfl)
  · rw [o _ 3 1 _ (by decide), o _ 2 1 _ (by decide)]
    exact World.cell?_setCell_same' _ _ _ (by rw [o _ 0 1 _ (by decide), h.c1]; rfl)
  · rw [o _ 3 2 _ (by decide)]
    exact World.cell?_setCell_same' _ _ _ (by rw [o _ 1 2 _ (by decide), o _ 0 2 _ (by decide), h.c2]; rfl)
  · exact World.cell?_setCell_same' _ _ _ (by rw [o _ 2 3 _ (by decide), o _ 1 3 _ (by decide), o _ 0 3 _ (by decide), h.c3]; rfl)
  all_goals simp only [World.frozen?_setCell]
  · exact h.f0
  · exact h.f1
  · exact h.f2
  · exact h.f3

theorem heap_quad (W : World) (B : Nat) (p q r s : Value) {b : Nat} (hb : b ≠ B) : ((((W.setCell ⟨B, 0, none⟩ p).setCell ⟨B, 1, none⟩ q).setCell ⟨B, 2, none⟩ r).setCell ⟨B, 3, none⟩ s).heap[b]? = W.heap[b]? :=
  (heap_setCell_other _ _ _ _ hb).trans ((heap_setCell_other _ _ _ _ hb).trans ((heap_setCell_other _ _ _ _ hb).trans (heap_setCell_other _ _ _ _ hb)))

/-- what a scan has laid: entries in the variable B, all else as it was in Vs -/
structure ScanI (w Vs : World) (B : Nat) (hi : List Int) (lim : Nat) (pre : List Ent) (V : World) : Prop where
  cell : ∃ v, V.cell? ⟨B, 0, none⟩ = some v ∧ Rows kEnt (fun b => Vs.heap.size ≤ b) V Vs.heap.size 62 v pre
  fr : V.frozen? ⟨B, 0, none⟩ = false
  tk : Taken hi lim pre
  old : ∀ b, b < Vs.heap.size → b ≠ B → V.heap[b]? = Vs.heap[b]?
  size : Vs.heap.size ≤ V.heap.size
  below : Below w.heap.size w V

/-- the blocks that a round turns -/
def scanM (B : Nat) (V : World) (b : Nat) : Prop := b = B ∨ ∃ v, V.cell? ⟨B, 0, none⟩ = some v ∧ v.ownBlock = some b

theorem below_grown {n : Nat} {w X Y : World} {row : Option Nat} (h : Below n w X) (hn : n ≤ X.heap.size) (hg : X.grownBy Y row) (hr : ∀ r, row = some r → n ≤ r) : Below n w Y :=
  ⟨hg.os.trans h.os, hg.tape.trans h.tape, hg.output.trans h.output, Nat.le_trans h.size hg.size, fun b hb => (hg.block b (by omega) (fun e => by have := hr b e.symm; omega)).trans (h.block b hb)⟩

section
variable {w Vs : World} {B : Nat} {hi : List Int} {lim : Nat}

theorem scan_own (hB : B < Vs.heap.size) (hw : w.heap.size ≤ B) : OwnFrom Vs.heap.size (ScanI w Vs B hi lim) := by
  intro pre X Y row h hg hr
  obtain ⟨v, h1, h2⟩ := h.cell
  have hs := h.size
  have e : ∀ b, b < Vs.heap.size → Y.heap[b]? = X.heap[b]? := fun b hb => hg.block b (by omega) (fun e => by have := (hr b e.symm).1; omega)
  exact ⟨⟨v, (World.cell?_of_block (w := X) (e B hB)).trans h1, rows_own h2 hg (fun r q => (hr r q).2)⟩, (World.frozen?_of_block (w := X) (e B hB)).trans h.fr, h.tk, fun b hb hne => (e b hb).trans (h.old b hb hne), Nat.le_trans hs hg.size,
    below_grown h.below (by omega) hg (fun r q => by have := (hr r q).1; omega)⟩

theorem scan_kind (hB : B < Vs.heap.size) {pre : List Ent} {V : World} (h : ScanI w Vs B hi lim pre V) {b : Nat} (hm : scanM B V b) : b < Vs.heap.size ∨ ∃ o : Obj, V.heap[b]? = some o ∧ o.isCells = true := by
  rcases hm with rfl | ⟨v, h1, h2⟩
  · exact .inl hB
  · obtain ⟨v', h3, css, h4, -⟩ := h.cell
    rw [h1] at h3
    cases h3
    rcases h4.2 with ⟨q, _⟩ | ⟨g', cap, cur, q, _, q2, _⟩
    · rw [q] at h2
      cases h2
    · rw [q] at h2
      cases h2
      exact .inr ⟨_, q2, rfl⟩

theorem scan_same (hB : B < Vs.heap.size) {pre : List Ent} {V V' : World} {row : Option Nat} (h : ScanI w Vs B hi lim pre V) (hs : StepFrom Vs.heap.size V V' row) {b : Nat} (hm : scanM B V' b) : scanM B V b := by
  rcases hm with rfl | ⟨v, h1, h2⟩
  · exact .inl rfl
  · refine .inr ⟨v, ?_, h2⟩
    have := h.size
    exact (World.cell?_of_block (w := V) (hs.1.block B (by omega) (fun e => by have := (hs.2 B e.symm).1; omega))).symm.trans h1

theorem scan_next (hB : B < Vs.heap.size) (hw : w.heap.size ≤ B) {pre : List Ent} {x : Ent} {W w1 w5 : World} {v v' : Value} (h : ScanI w Vs B hi lim pre W) (hv : W.cell? ⟨B, 0, none⟩ = some v) (hb : Below W.heap.size W w1)
    (q1 : Rows kEnt (fun b => Vs.heap.size ≤ b) w5 Vs.heap.size 62 v' (pre ++ [x])) (q2 : w1.grownBy w5 v.ownBlock) (q3 : v'.ownBlock = v.ownBlock ∨ v'.ownBlock = some (w1.heap.size + 1)) (ht : Taken hi lim (pre ++ [x])) :
    w5.heap[B]? = W.heap[B]? ∧ ScanI w Vs B hi lim (pre ++ [x]) (w5.setCell ⟨B, 0, none⟩ v') ∧ Kpt (scanM B) W (w5.setCell ⟨B, 0, none⟩ v') := by
  obtain ⟨v0, h1, h2⟩ := h.cell
  rw [hv] at h1
  cases h1
  have hs := h.size
  have hs1 := hb.size
  have hlt := rows_lt h2
  have e : ∀ b, b < W.heap.size → v.ownBlock ≠ some b → w5.heap[b]? = W.heap[b]? := fun b hb2 hne => (q2.block b (by omega) (fun e => hne e.symm)).trans (hb.block b hb2)
  have eB : w5.heap[B]? = W.heap[B]? := e B (by omega) (fun q => by have := (hlt B q).1; omega)
  have hc : w5.cell? ⟨B, 0, none⟩ = some v := (World.cell?_of_block (w := W) eB).trans hv
  have eo : ∀ b, b ≠ B → (w5.setCell ⟨B, 0, none⟩ v').heap[b]? = w5.heap[b]? := fun b hne => heap_setCell_other _ _ _ _ hne
  have hc' : (w5.setCell ⟨B, 0, none⟩ v').cell? ⟨B, 0, none⟩ = some v' := World.cell?_setCell_same' _ _ _ (by rw [hc]; rfl)
  have hsz : (w5.setCell ⟨B, 0, none⟩ v').heap.size = w5.heap.size := by simp
  refine ⟨eB, ⟨⟨v', hc', q1.move ⟨by simp, fun b _ ho => eo b (by omega)⟩ (fun g hg => eo g (by have := (rows_lt q1 g hg).1; omega))⟩, ?_, ht, fun b hb2 hne => ?_, ?_, ?_⟩, ?_, fun b hb2 hm => ?_⟩
  · rw [World.frozen?_setCell]
    exact (World.frozen?_of_block (w := W) eB).trans h.fr
  · exact (eo b hne).trans ((e b (by omega) (fun q => by have := (hlt b q).1; omega)).trans (h.old b hb2 hne))
  · have := q2.size
    omega
  · refine Below.setCell (p := ⟨B, 0, none⟩) (below_grown (h.below.trans (hb.mono (by have := h.below.size; omega))) (by have := h.below.size; omega) q2 (fun r q => ?_)) hw v'
    have := (hlt r q).1
    omega
  · have := q2.size
    omega
  · have hne : b ≠ B := fun q => hm (.inl q)
    have hne2 : v.ownBlock ≠ some b := fun q => hm (.inr ⟨v, hv, q⟩)
    refine ⟨(eo b hne).trans (e b hb2 hne2), ?_⟩
    rintro (q | ⟨v9, q, q9⟩)
    · exact hne q
    · rw [hc'] at q
      cases q
      rcases q3 with q3 | q3
      · rw [q3] at q9
        exact hne2 q9
      · rw [q3] at q9
        have := Option.some.inj q9
        omega

end

/-- the variables that a scan begins with -/
structure Laid (w : World) (u v p q z : Value) (V : World) : Prop where
  below : Below w.heap.size w V
  size : V.heap.size = w.heap.size + 7
  lo : V.cell? ⟨w.heap.size + 1, 0, none⟩ = some p
  hi : V.cell? ⟨w.heap.size + 1, 1, none⟩ = some q
  lim : V.cell? ⟨w.heap.size + 1 + 1, 0, none⟩ = some z
  res : Quad V (w.heap.size + 1 + 1 + 1) (.int .i64 0) (.int .i64 0) (.slice none 0 0) (.slice none 0 0)
  row : V.cell? ⟨w.heap.size + 1 + 1 + 1 + 1, 0, none⟩ = some (.slice none 0 0)
  fr : V.frozen? ⟨w.heap.size + 1 + 1 + 1 + 1, 0, none⟩ = false
  nd0 : V.cell? ⟨w.heap.size + 1 + 1 + 1 + 1 + 1, 0, none⟩ = some u
  nd1 : V.cell? ⟨w.heap.size + 1 + 1 + 1 + 1 + 1, 1, none⟩ = some v
  key : V.cell? ⟨w.heap.size + 1 + 1 + 1 + 1 + 1 + 1, 0, none⟩ = some p

theorem heap_new (W : World) (k : Nat) (o : Obj) (hk : k = W.heap.size) : (W.alloc o).heap[k]? = some o := by subst hk; exact heap_alloc_new W o

theorem laid_new (w : World) (u v p q z : Value) (t0 t1 t2 t3 t4 t5 t6 : TypeId) : Laid w u v p q z (((((((w.alloc (.cells #[u, v] t0)).alloc (.cells #[p, q] t1)).alloc (.cells #[z] t2)).alloc (.cells #[.int .i64 0, .int .i64 0, .slice none 0 0, .slice none 0 0] t3)).alloc (.cells #[.slice none 0 0] t4)).alloc (.cells #[u, v] t5)).alloc (.cells #[p] t6)) := by
  have st : ∀ (W : World) (o o' : Obj) (k : Nat), W.heap[k]? = some o' → (W.alloc o).heap[k]? = some o' := fun W o o' k e => (Below.heap_alloc _ _ _ (Array.getElem?_eq_some_iff.1 e).1).trans e
  have h1 := st _ (.cells #[p] t6) _ _ (st _ (.cells #[u, v] t5) _ _ (st _ (.cells #[.slice none 0 0] t4) _ _ (st _ (.cells #[.int .i64 0, .int .i64 0, .slice none 0 0, .slice none 0 0] t3) _ _ (st _ (.cells #[z] t2) _ _ (heap_new (w.alloc (.cells #[u, v] t0)) (w.heap.size + 1) (.cells #[p, q] t1) (by simp))))))
  have h2 := st _ (.cells #[p] t6) _ _ (st _ (.cells #[u, v] t5) _ _ (st _ (.cells #[.slice none 0 0] t4) _ _ (st _ (.cells #[.int .i64 0, .int .i64 0, .slice none 0 0, .slice none 0 0] t3) _ _ (heap_new ((w.alloc (.cells #[u, v] t0)).alloc (.cells #[p, q] t1)) (w.heap.size + 1 + 1) (.cells #[z] t2) (by simp)))))
  have h3 := st _ (.cells #[p] t6) _ _ (st _ (.cells #[u, v] t5) _ _ (st _ (.cells #[.slice none 0 0] t4) _ _ (heap_new (((w.alloc (.cells #[u, v] t0)).alloc (.cells #[p, q] t1)).alloc (.cells #[z] t2)) (w.heap.size + 1 + 1 + 1) (.cells #[.int .i64 0, .int .i64 0, .slice none 0 0, .slice none 0 0] t3) (by simp))))
  have h4 := st _ (.cells #[p] t6) _ _ (st _ (.cells #[u, v] t5) _ _ (heap_new ((((w.alloc (.cells #[u, v] t0)).alloc (.cells #[p, q] t1)).alloc (.cells #[z] t2)).alloc (.cells #[.int .i64 0, .int .i64 0, .slice none 0 0, .slice none 0 0] t3)) (w.heap.size + 1 + 1 + 1 + 1) (.cells #[.slice none 0 0] t4) (by simp)))
  have h5 := st _ (.cells #[p] t6) _ _ (heap_new (((((w.alloc (.cells #[u, v] t0)).alloc (.cells #[p, q] t1)).alloc (.cells #[z] t2)).alloc (.cells #[.int .i64 0, .int .i64 0, .slice none 0 0, .slice none 0 0] t3)).alloc (.cells #[.slice none 0 0] t4)) (w.heap.size + 1 + 1 + 1 + 1 + 1) (.cells #[u, v] t5) (by simp))
  have h6 := heap_new ((((((w.alloc (.cells #[u, v] t0)).alloc (.cells #[p, q] t1)).alloc (.cells #[z] t2)).alloc (.cells #[.int .i64 0, .int .i64 0, .slice none 0 0, .slice none 0 0] t3)).alloc (.cells #[.slice none 0 0] t4)).alloc (.cells #[u, v] t5)) (w.heap.size + 1 + 1 + 1 + 1 + 1 + 1) (.cells #[p] t6) (by simp)
  have hb : Below w.heap.size w (((((((w.alloc (.cells #[u, v] t0)).alloc (.cells #[p, q] t1)).alloc (.cells #[z] t2)).alloc (.cells #[.int .i64 0, .int .i64 0, .slice none 0 0, .slice none 0 0] t3)).alloc (.cells #[.slice none 0 0] t4)).alloc (.cells #[u, v] t5)).alloc (.cells #[p] t6)) :=
    (((((((Below.refl _ w).alloc (Nat.le_refl _) _).alloc (by simp) _).alloc (by simp; omega) _).alloc (by simp; omega) _).alloc (by simp; omega) _).alloc (by simp; omega) _).alloc (by simp; omega) _
  have hs : (((((((w.alloc (.cells #[u, v] t0)).alloc (.cells #[p, q] t1)).alloc (.cells #[z] t2)).alloc (.cells #[.int .i64 0, .int .i64 0, .slice none 0 0, .slice none 0 0] t3)).alloc (.cells #[.slice none 0 0] t4)).alloc (.cells #[u, v] t5)).alloc (.cells #[p] t6)).heap.size = w.heap.size + 7 := by simp
  generalize ((((((w.alloc (.cells #[u, v] t0)).alloc (.cells #[p, q] t1)).alloc (.cells #[z] t2)).alloc (.cells #[.int .i64 0, .int .i64 0, .slice none 0 0, .slice none 0 0] t3)).alloc (.cells #[.slice none 0 0] t4)).alloc (.cells #[u, v] t5)).alloc (.cells #[p] t6) = V at h1 h2 h3 h4 h5 h6 hb hs ⊢
  refine ⟨hb, hs, ?_, ?_, ?_, ⟨?_, ?_, ?_, ?_, ?_, ?_, ?_, ?_⟩, ?_, ?_, ?_, ?_, ?_⟩
  all_goals simp [World.cell?, World.frozen?, h1, h2, h3, h4, h5, h6]

end Go.Proofs.Ytcegkgobkpakiaa
