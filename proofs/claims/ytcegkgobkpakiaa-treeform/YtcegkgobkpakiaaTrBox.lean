/- The versions, in a variable: a row that grows by one, its last one put in behind. -/
import Derived.Test.YtcegkgobkpakiaaTrLook
namespace Go.Proofs.Ytcegkgobkpakiaa
open Go.ChangeShapes Go.WideShapes Go.ChangeAt Go.RowKit

theorem all2_last {α β : Type} {R : α → β → Prop} : ∀ {xs : List α} {x : α} {ys : List β}, All2 R (xs ++ [x]) ys → ∃ ys' y, ys = ys' ++ [y] ∧ All2 R xs ys' ∧ R x y
  | [], x, [y], h => ⟨[], y, rfl, trivial, h.1⟩
  | [], x, y :: z :: ys, h => h.2.elim
  | [], x, [], h => h.elim
  | x' :: xs, x, [], h => h.elim
  | x' :: xs, x, y :: ys, h => by
    obtain ⟨ys', z, e, h1, h2⟩ := all2_last (xs := xs) h.2
    exact ⟨y :: ys', z, by rw [e]; rfl, ⟨h.1, h1⟩, h2⟩

theorem set_two (l : List Value) (k : Nat) (x y p q : Value) (hl : l.length = k) : (((l ++ [x, y]).set k p).set (k + 1) q) = l ++ [p, q] := by
  subst hl
  rw [List.set_append_right _ _ (Nat.le_refl _), Nat.sub_self, List.set_append_right _ _ (Nat.le_succ _)]
  simp

/-- the last one of a row is put in -/
theorem rows_last {α : Type} {K : Kd α 2} {ok : Nat → Prop} {W : World} {base : Nat} {E : TypeId} {g cap n : Nat} {ls : List α} {x y : α} {p q : Value} (h : Rows K ok W base E (.slice (some ⟨g, 0, none⟩) n cap) (ls ++ [x])) (hy : K.rel (fun b => ok b ∧ b ≠ g) W y [p, q]) :
    Rows K ok ((W.setCell ⟨g, ls.length * 2, none⟩ p).setCell ⟨g, ls.length * 2 + 1, none⟩ q) base E (.slice (some ⟨g, 0, none⟩) n cap) (ls ++ [y]) := by
  obtain ⟨css, h1, h2⟩ := h
  obtain ⟨cs, c, rfl, h3, h4⟩ := all2_last h2
  have hk : Kept (fun b => ok b ∧ (Value.slice (some ⟨g, 0, none⟩) n cap).ownBlock ≠ some b) W ((W.setCell ⟨g, ls.length * 2, none⟩ p).setCell ⟨g, ls.length * 2 + 1, none⟩ q) := ⟨by simp, fun b _ ho => by
    have : b ≠ g := fun e => ho.2 (by rw [e]; rfl)
    exact (heap_setCell_other _ _ _ _ this).trans (heap_setCell_other _ _ _ _ this)⟩
  have hl : cs.flatten.length = ls.length * 2 := by rw [flatten_len (rel_len h3), ← h3.length]
  obtain ⟨c1, c2, rfl⟩ : ∃ c1 c2, c = [c1, c2] := by
    have := K.len h4
    match c, this with
    | [c1, c2], _ => exact ⟨c1, c2, rfl⟩
  refine ⟨cs ++ [[p, q]], ⟨?_, ?_⟩, All2.append (All2.imp (fun _ _ hr => K.move hk (fun _ _ q => q) hr) h3) ⟨K.move hk (fun _ _ q => q) (K.move (Kept.of_below (Below.refl _ _)) (fun b _ hb => ⟨hb.1, fun e => hb.2 (Option.some.inj e).symm⟩) hy), trivial⟩⟩
  · simp only [List.flatten_append, List.flatten_cons, List.flatten_nil, List.append_nil, List.length_append, List.length_cons, List.length_nil, hl]
    omega
  · rcases h1.2 with ⟨e, _⟩ | ⟨g', cap', cur, e, hb, hg, hc, hm, hs, ht⟩
    · cases e
    · cases e
      refine .inr ⟨g, cap, (cur.setIfInBounds (ls.length * 2) p).setIfInBounds (ls.length * 2 + 1) q, by simp, hb, ?_, by simpa using hc, hm, by simpa using hs, ?_⟩
      · exact Go.heap_setCell_same _ _ _ _ _ _ (Go.heap_setCell_same _ _ _ _ _ _ hg)
      · simp only [Array.toList_setIfInBounds, List.take_set]
        have hlen : (ls ++ [y]).length = (ls ++ [x]).length := by simp
        rw [hlen, ht]
        simp only [List.flatten_append, List.flatten_cons, List.flatten_nil, List.append_nil]
        exact set_two _ _ _ _ _ _ hl

/-- a version: the root of a tree, and what it holds -/
def kVer : Kd (List Ent) 2 where
  rel ok w l cs := Vers ok w l cs
  move hk hok _ _ := by
    rintro ⟨h, t, h1, h2, h3⟩
    exact ⟨h, t, (kNd h).move hk hok h1, h2, h3⟩
  len := by
    rintro _ _ _ _ ⟨h, t, h1, _, _⟩
    exact (kNd h).len h1
  one := by
    rintro _ _ _ _ ⟨h, t, h1, _, _⟩
    exact (kNd h).one h1

theorem eltV : Elt 54 53 2 48 := ⟨Try.underlying54, by
  obtain ⟨i0, hi, hz0, hz1, hz2⟩ := info_parts (show (Try.prog.info? 53).map (fun i => (i.zero, i.size, i.bytes)) = some (some (.agg #[.slice none 0 0, .slice none 0 0]), 2, 48) by kernel_rfl)
  exact ⟨i0, _, hi, hz0, hz1, hz2, rfl⟩, by decide⟩

/-- no entries at all -/
theorem vers_none {ok : Nat → Prop} {w : World} : kVer.rel ok w [] [.slice none 0 0, .slice none 0 0] :=
  ⟨0, ([] : List Ent), (show Both kEnt ok w [] [] _ from ⟨none, 0, none, 0, rfl, Lies.nil _ _ _ (fun _ => rfl), Ples.none, Lies.nil _ _ _ (fun _ => rfl), Ples.none⟩), ⟨Nat.zero_le _, fun h => absurd h (Nat.lt_irrefl 0), trivial, List.Pairwise.nil⟩, rfl⟩

/-- the versions, in the variable Bv -/
structure Box (Bv base : Nat) (ok : Nat → Prop) (vs : List (List Ent)) (W : World) (v : Value) : Prop where
  cell : W.cell? ⟨Bv, 0, none⟩ = some v
  fr : W.frozen? ⟨Bv, 0, none⟩ = false
  rows : Rows kVer ok W base 53 v vs
  apart : v.ownBlock ≠ some Bv
  low : base ≤ W.heap.size
  not : ¬ ok Bv

theorem Box.later {Bv base : Nat} {ok : Nat → Prop} {vs : List (List Ent)} {W W' : World} {v : Value} (h : Box Bv base ok vs W v) (hb : Below W.heap.size W W') : Box Bv base ok vs W' v := by
  have hB := World.block_lt_of_cell? _ _ h.cell
  exact ⟨(hb.cell (p := ⟨Bv, 0, none⟩) hB).trans h.cell, (hb.frozen (p := ⟨Bv, 0, none⟩) hB).trans h.fr, h.rows.later hb, h.apart, Nat.le_trans h.low hb.size, h.not⟩

/-- nothing turns but that variable and the row that it held -/
structure Turn (Bv : Nat) (v : Value) (w w' : World) : Prop where
  os : w'.os = w.os
  tape : w'.tape = w.tape
  output : w'.output = w.output
  size : w.heap.size ≤ w'.heap.size
  block : ∀ b, b < w.heap.size → b ≠ Bv → v.ownBlock ≠ some b → w'.heap[b]? = w.heap[b]?

/-- where the last one of a row is put -/
theorem rows_last_cells {α : Type} {K : Kd α 2} {ok : Nat → Prop} {W : World} {base : Nat} {E : TypeId} {g cap n : Nat} {ls : List α} {x : α} (h : Rows K ok W base E (.slice (some ⟨g, 0, none⟩) n cap) (ls ++ [x])) :
    (∃ p, W.cell? ⟨g, ls.length * 2, none⟩ = some p) ∧ (∃ q, W.cell? ⟨g, ls.length * 2 + 1, none⟩ = some q) ∧ W.frozen? ⟨g, ls.length * 2, none⟩ = false ∧ W.frozen? ⟨g, ls.length * 2 + 1, none⟩ = false ∧ n = ls.length + 1 ∧ n ≤ cap := by
  obtain ⟨css, h1, h2⟩ := h
  rcases h1.2 with ⟨e, _⟩ | ⟨g', cap', cur, e, hb, hg, hc, hm, hs, ht⟩
  · cases e
  · cases e
    have hn : (ls ++ [x]).length = ls.length + 1 := by simp
    rw [hn] at hc
    have h2' : ls.length * 2 + 1 < cur.size := by omega
    refine ⟨⟨cur[ls.length * 2], ?_⟩, ⟨cur[ls.length * 2 + 1], ?_⟩, ?_, ?_, hn, by rw [hn]; exact hc⟩ <;> simp [World.cell?, World.frozen?, hg]

theorem box_put {Bv base g cap : Nat} {ok : Nat → Prop} {vs : List (List Ent)} {l : List Ent} {w wr w5 W8 : World} {v : Value} {p q : Value} (h : Box Bv base ok vs w v) (hb : Below w.heap.size w wr)
    (q1 : Rows kVer ok w5 base 53 (.slice (some ⟨g, 0, none⟩) (vs.length + 1) cap) (vs ++ [[]])) (q2 : wr.grownBy w5 v.ownBlock) (q3 : v.ownBlock = some g ∨ g = wr.heap.size + 1) (hl : kVer.rel (fun b => ok b ∧ v.ownBlock ≠ some b) w l [p, q])
    (e1 : ∀ b, b ≠ Bv → W8.heap[b]? = ((w5.setCell ⟨g, vs.length * 2, none⟩ p).setCell ⟨g, vs.length * 2 + 1, none⟩ q).heap[b]?) (e2 : W8.cell? ⟨Bv, 0, none⟩ = some (.slice (some ⟨g, 0, none⟩) (vs.length + 1) cap)) (e3 : W8.frozen? ⟨Bv, 0, none⟩ = false)
    (e4 : W8.heap.size = w5.heap.size) (e5 : W8.os = w5.os) (e6 : W8.tape = w5.tape) (e7 : W8.output = w5.output) :
    Box Bv base ok (vs ++ [l]) W8 (.slice (some ⟨g, 0, none⟩) (vs.length + 1) cap) ∧ Turn Bv v w W8 ∧ (g < w.heap.size → v.ownBlock = some g) := by
  have hs := hb.size
  have hs5 := q2.size
  have hB := World.block_lt_of_cell? _ _ h.cell
  simp only at hB
  have hgB : g ≠ Bv := by
    rcases q3 with e | e
    · exact fun e9 => h.apart (by rw [e, e9])
    · omega
  have hw5 : ∀ b, b < w.heap.size → v.ownBlock ≠ some b → w5.heap[b]? = w.heap[b]? := fun b hb2 hne => (q2.block b (by omega) (fun e => hne e.symm)).trans (hb.block b hb2)
  have hl5 : kVer.rel (fun b => ok b ∧ b ≠ g) w5 l [p, q] := kVer.move ⟨by omega, fun b hb2 ho => hw5 b hb2 ho.2⟩ (fun b hb2 ho => ⟨ho.1, fun e => by
    rcases q3 with e9 | e9
    · exact ho.2 (by rw [e9, e])
    · omega⟩) hl
  have hR := rows_last q1 hl5
  refine ⟨⟨e2, e3, hR.move ⟨by rw [e4]; simp, fun b _ ho => e1 b (fun e => h.not (e ▸ ho))⟩ (fun g' hg' => e1 g' (fun e => hgB (by rw [← e]; exact Option.some.inj hg'))), fun e => hgB (Option.some.inj e), by have := h.low; omega, h.not⟩,
    ⟨e5.trans (q2.os.trans hb.os), e6.trans (q2.tape.trans hb.tape), e7.trans (q2.output.trans hb.output), by omega, fun b hb2 h1 h2 => ?_⟩, fun hg => ?_⟩
  · have hbg : b ≠ g := fun e => by
      rcases q3 with e9 | e9
      · exact h2 (by rw [e9, e])
      · omega
    exact (e1 b h1).trans ((heap_setCell_other _ _ _ _ hbg).trans ((heap_setCell_other _ _ _ _ hbg).trans (hw5 b hb2 h2)))
  · rcases q3 with e9 | e9
    · exact e9
    · omega

theorem Rows.turned {α : Type} {size : Nat} {K : Kd α size} {ok ok2 : Nat → Prop} {W : World} {base : Nat} {E : TypeId} {v : Value} {l : List α} (h : Rows K ok W base E v l) (hok : ∀ b, b < W.heap.size → ok b → ok2 b) : Rows K ok2 W base E v l := by
  obtain ⟨css, h1, h2⟩ := h
  exact ⟨css, h1, All2.imp (fun _ _ hr => K.move (Kept.of_below (Below.refl _ _)) (fun b hb q => ⟨hok b hb q.1, q.2⟩) hr) h2⟩

theorem Box.turned {Bv base : Nat} {ok ok2 : Nat → Prop} {vs : List (List Ent)} {W : World} {v : Value} (h : Box Bv base ok vs W v) (hok : ∀ b, b < W.heap.size → ok b → ok2 b) (hn : ¬ ok2 Bv) : Box Bv base ok2 vs W v :=
  ⟨h.cell, h.fr, h.rows.turned hok, h.apart, h.low, hn⟩

theorem Box.quad {Bv base B : Nat} {ok : Nat → Prop} {vs : List (List Ent)} {W : World} {v : Value} (h : Box Bv base ok vs W v) (hB : B ≠ Bv) (hv : v.ownBlock ≠ some B) (hk : ¬ ok B) (p q r s : Value) :
    Box Bv base ok vs ((((W.setCell ⟨B, 0, none⟩ p).setCell ⟨B, 1, none⟩ q).setCell ⟨B, 2, none⟩ r).setCell ⟨B, 3, none⟩ s) v := by
  obtain ⟨W9, h9⟩ : ∃ W9, W9 = ((((W.setCell ⟨B, 0, none⟩ p).setCell ⟨B, 1, none⟩ q).setCell ⟨B, 2, none⟩ r).setCell ⟨B, 3, none⟩ s) := ⟨_, rfl⟩
  have e9 : ∀ b, b ≠ B → W9.heap[b]? = W.heap[b]? := fun b hb => by rw [h9]; exact heap_quad _ _ _ _ _ _ hb
  have hs : W9.heap.size = W.heap.size := by rw [h9]; simp
  rw [← h9]
  clear h9
  have e := e9 Bv (Ne.symm hB)
  exact ⟨(World.cell?_of_block (w := W) e).trans h.cell, (World.frozen?_of_block (w := W) e).trans h.fr, h.rows.move ⟨Nat.le_of_eq hs.symm, fun b _ ho => e9 b (fun e => hk (e ▸ ho))⟩ (fun g hg => e9 g (fun e => hv (e ▸ hg))), h.apart, by rw [hs]; exact h.low, h.not⟩

theorem Turn.quad {Bv B : Nat} {v : Value} {w W : World} (h : Turn Bv v w W) (hB : w.heap.size ≤ B) (p q r s : Value) : Turn Bv v w ((((W.setCell ⟨B, 0, none⟩ p).setCell ⟨B, 1, none⟩ q).setCell ⟨B, 2, none⟩ r).setCell ⟨B, 3, none⟩ s) :=
  ⟨h.os, h.tape, h.output, Nat.le_trans h.size (Nat.le_of_eq (by simp)), fun b hb h1 h2 => (heap_quad _ _ _ _ _ _ (by omega)).trans (h.block b hb h1 h2)⟩

theorem Turn.before {Bv : Nat} {v : Value} {w W W' : World} (hb : Below w.heap.size w W) (h : Turn Bv v W W') : Turn Bv v w W' :=
  ⟨h.os.trans hb.os, h.tape.trans hb.tape, h.output.trans hb.output, Nat.le_trans hb.size h.size, fun b hb2 h1 h2 => (h.block b (Nat.lt_of_lt_of_le hb2 hb.size) h1 h2).trans (hb.block b hb2)⟩

end Go.Proofs.Ytcegkgobkpakiaa
