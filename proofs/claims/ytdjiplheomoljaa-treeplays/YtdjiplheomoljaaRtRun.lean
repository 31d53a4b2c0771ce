/- The reference's deed, in memory: its variables, and what it comes to. -/
import Derived.Test.YtdjiplheomoljaaRtWith
import Derived.Test.YtdjiplheomoljaaTrRun
import Derived.Deep.RegionHeld3
import Derived.Deep.CutRange
namespace Go.Proofs.Ytdjiplheomoljaa
open Go.ChangeShapes Go.WideShapes Go.ChangeAt Go.RowKit

theorem eltL : Elt 64 34 1 24 := ⟨Try.underlying64, by
  obtain ⟨i0, hi, hz0, hz1, hz2⟩ := info_parts (show (Try.prog.info? 34).map (fun i => (i.zero, i.size, i.bytes)) = some (some (.slice none 0 0), 1, 24) by kernel_rfl)
  exact ⟨i0, _, hi, hz0, hz1, hz2, rfl⟩, by decide⟩

/-- a thing of one cell of a row -/
theorem rows_one {α : Type} {K : Kd α 1} {ok : Nat → Prop} {W : World} {base : Nat} {E : TypeId} {v : Value} {l : List α} (h : Rows K ok W base E v l) {i : Nat} (hi : i < l.length) :
    ∃ g cap p, v = .slice (some ⟨g, 0, none⟩) l.length cap ∧ l.length ≤ cap ∧ K.rel (fun b => ok b ∧ v.ownBlock ≠ some b) W l[i] [p] ∧ W.cell? ⟨g, i, none⟩ = some p ∧ g < W.heap.size := by
  obtain ⟨css, h1, h2⟩ := h
  obtain ⟨c, hc, hr⟩ := All2.find h2 i hi
  have hlen := K.len hr
  match c, hlen, hc, hr with
  | [p], _, hc, hr =>
    rcases h1.2 with ⟨_, e⟩ | ⟨g, cap, cur, e, hb, hg, hcap, _⟩
    · omega
    · have hil : i < css.length := by rw [← h2.length]; exact hi
      have hcs : css[i] = [p] := by
        rw [List.getElem?_eq_getElem hil] at hc
        exact Option.some.inj hc
      have hd : css.flatten.drop (i * 1) = [p] ++ (css.drop (i + 1)).flatten := by
        rw [← flatten_drop (rel_len h2) i, List.drop_eq_getElem_cons hil, hcs, List.flatten_cons]
      have hcell : ∀ j u, css.flatten[j]? = some u → W.cell? ⟨g, j, none⟩ = some u := fun j u hj => by
        have := h1.cells (g := g) (by rw [e]; rfl) j u hj
        rw [addr_add] at this
        simpa using this
      refine ⟨g, cap, p, e, hcap, hr, hcell _ _ ?_, (Array.getElem?_eq_some_iff.1 hg).1⟩
      have := congrArg (fun l => l[0]?) hd
      simpa using this

/-- the variables of a deed: itself, what is told, and what it has come to so far -/
structure DeedL (w : World) (kd ver : Int) (ku vu : Value) (lim : Int) (p q r s : Value) (W : World) : Prop where
  below : Below w.heap.size w W
  c0 : W.cell? ⟨w.heap.size, 0, none⟩ = some (.int .i64 kd)
  c1 : W.cell? ⟨w.heap.size, 1, none⟩ = some (.int .i64 ver)
  c2 : W.cell? ⟨w.heap.size, 2, none⟩ = some ku
  c3 : W.cell? ⟨w.heap.size, 3, none⟩ = some vu
  c4 : W.cell? ⟨w.heap.size, 4, none⟩ = some (.int .i64 lim)
  res : Quad W (w.heap.size + 1) (.int .i64 0) (.int .i64 0) (.slice none 0 0) (.slice none 0 0)
  f : Quad W (w.heap.size + 1 + 1) p q r s

section
variable {w W W' : World} {kd ver : Int} {ku vu : Value} {lim : Int} {p q r s : Value}

theorem DeedL.size (h : DeedL w kd ver ku vu lim p q r s W) : w.heap.size + 1 + 1 < W.heap.size := World.block_lt_of_cell? _ _ h.f.c0

/-- a step that leaves these three, and all that was there -/
theorem DeedL.move (h : DeedL w kd ver ku vu lim p q r s W) (hb : Below w.heap.size w W') (e0 : W'.heap[w.heap.size]? = W.heap[w.heap.size]?) (e1 : W'.heap[w.heap.size + 1]? = W.heap[w.heap.size + 1]?) (e2 : W'.heap[w.heap.size + 1 + 1]? = W.heap[w.heap.size + 1 + 1]?) : DeedL w kd ver ku vu lim p q r s W' :=
  ⟨hb, (World.cell?_of_block (w := W) e0).trans h.c0, (World.cell?_of_block (w := W) e0).trans h.c1, (World.cell?_of_block (w := W) e0).trans h.c2, (World.cell?_of_block (w := W) e0).trans h.c3, (World.cell?_of_block (w := W) e0).trans h.c4, h.res.move e1, h.f.move e2⟩

theorem DeedL.later (h : DeedL w kd ver ku vu lim p q r s W) (hb : Below W.heap.size W W') : DeedL w kd ver ku vu lim p q r s W' := by
  have := h.size
  exact h.move (h.below.trans (hb.mono h.below.size)) (hb.block _ (by omega)) (hb.block _ (by omega)) (hb.block _ (by omega))

theorem deedL_new (w : World) (kd ver : Int) (ku vu : Value) (lim : Int) (p q r s : Value) (t0 t1 t2 : TypeId) : DeedL w kd ver ku vu lim p q r s (((w.alloc (.cells #[.int .i64 kd, .int .i64 ver, ku, vu, .int .i64 lim] t0)).alloc (.cells #[.int .i64 0, .int .i64 0, .slice none 0 0, .slice none 0 0] t1)).alloc (.cells #[p, q, r, s] t2)) := by
  have h1 := playL_new w kd ver ku vu lim t0 t1
  have hsz : ((w.alloc (.cells #[.int .i64 kd, .int .i64 ver, ku, vu, .int .i64 lim] t0)).alloc (.cells #[.int .i64 0, .int .i64 0, .slice none 0 0, .slice none 0 0] t1)).heap.size = w.heap.size + 1 + 1 := by simp
  generalize (w.alloc (.cells #[.int .i64 kd, .int .i64 ver, ku, vu, .int .i64 lim] t0)).alloc (.cells #[.int .i64 0, .int .i64 0, .slice none 0 0, .slice none 0 0] t1) = V at h1 hsz ⊢
  have hb : Below V.heap.size V (V.alloc (.cells #[p, q, r, s] t2)) := (Below.refl _ V).alloc (Nat.le_refl _) _
  have hQ := Quad.new V p q r s t2
  have h2 := h1.later hb
  rw [hsz] at hQ
  exact ⟨h2.told.below, h2.c0, h2.c1, h2.c2, h2.c3, h2.c4, h2.told.quad, hQ⟩

end

/-- what the reference's deed comes to: the versions behind it a row of the caller's -/
def RefPost (base : Nat) (ok : Nat → Prop) (vs' : List (List Ent)) (f : Fd) (v : Value) (w : World) (e : Ending) (w' : World) : Prop :=
  ∃ (va : Option Addr) (vn vc : Nat) (a : Option Addr) (n c : Nat) (b : Option Addr) (m d : Nat), e = .returned (.tuple #[.agg #[.int .i64 f.code, .int .i64 f.ver, .slice a n c, .slice b m d], .slice va vn vc]) ∧
    Rows (kRow kEnt) ok w' base 34 (.slice va vn vc) vs' ∧ kFd.rel (fun b => w.heap.size ≤ b ∧ (Value.slice va vn vc).ownBlock ≠ some b) w' f [.int .i64 f.code, .int .i64 f.ver, .slice a n c, .slice b m d] ∧
    w.grownBy w' v.ownBlock ∧ ∀ g, (Value.slice va vn vc).ownBlock = some g → g < w.heap.size → v.ownBlock = some g

/-- what was reckoned is put into the result -/
theorem ref_end {base : Nat} {ok : Nat → Prop} {vs' : List (List Ent)} {f : Fd} {v : Value} {w W : World} {va : Option Addr} {vn vc : Nat} {a : Option Addr} {n c : Nat} {b : Option Addr} {m d : Nat} {z0 z1 z2 z3 : Value}
    (hq : Quad W (w.heap.size + 1) z0 z1 z2 z3) (hg : w.grownBy W v.ownBlock) (hv : ∀ g, (Value.slice va vn vc).ownBlock = some g → g < w.heap.size → v.ownBlock = some g) (hv2 : (Value.slice va vn vc).ownBlock ≠ some (w.heap.size + 1))
    (hR : Rows (kRow kEnt) (fun b => ok b ∧ b ≠ w.heap.size + 1) W base 34 (.slice va vn vc) vs')
    (hf : kFd.rel (fun b => (w.heap.size ≤ b ∧ (Value.slice va vn vc).ownBlock ≠ some b) ∧ b ≠ w.heap.size + 1) W f [.int .i64 f.code, .int .i64 f.ver, .slice a n c, .slice b m d]) :
    ∀ W9, W9 = ((((W.setCell ⟨w.heap.size + 1, 0, none⟩ (.int .i64 f.code)).setCell ⟨w.heap.size + 1, 1, none⟩ (.int .i64 f.ver)).setCell ⟨w.heap.size + 1, 2, none⟩ (.slice a n c)).setCell ⟨w.heap.size + 1, 3, none⟩ (.slice b m d)) →
      Quad W9 (w.heap.size + 1) (.int .i64 f.code) (.int .i64 f.ver) (.slice a n c) (.slice b m d) ∧ RefPost base ok vs' f v w (.returned (.tuple #[.agg #[.int .i64 f.code, .int .i64 f.ver, .slice a n c, .slice b m d], .slice va vn vc])) W9 := by
  rintro W9 h9
  have hQ := hq.set (.int .i64 f.code) (.int .i64 f.ver) (.slice a n c) (.slice b m d)
  have e9 : ∀ b, b ≠ w.heap.size + 1 → W9.heap[b]? = W.heap[b]? := fun b hb => by rw [h9]; exact heap_quad _ _ _ _ _ _ hb
  have hs : W9.heap.size = W.heap.size := by rw [h9]; simp
  have ho : W9.os = W.os ∧ W9.tape = W.tape ∧ W9.output = W.output := by rw [h9]; exact ⟨rfl, rfl, rfl⟩
  rw [← h9] at hQ
  clear h9
  refine ⟨hQ, va, vn, vc, a, n, c, b, m, d, rfl, ?_, kFd.move ⟨Nat.le_of_eq hs.symm, fun b _ ho => e9 b ho.2⟩ (fun _ _ ho => ho.1) hf, ⟨ho.1.trans hg.os, ho.2.1.trans hg.tape, ho.2.2.trans hg.output, by rw [hs]; exact hg.size, fun b hb hne => (e9 b (by omega)).trans (hg.block b hb hne)⟩, hv⟩
  exact (hR.move ⟨Nat.le_of_eq hs.symm, fun b _ ho => e9 b ho.2⟩ (fun g hg => e9 g (fun e => hv2 (e ▸ hg)))).turned (fun _ _ ho => ho.1)

/-- nothing was added -/
theorem ref_kept {base : Nat} {ok : Nat → Prop} {vs : List (List Ent)} {f : Fd} {w W : World} {va : Option Addr} {vn vc : Nat} {a : Option Addr} {n c : Nat} {b : Option Addr} {m d : Nat} {z0 z1 z2 z3 : Value}
    (hR : Rows (kRow kEnt) ok w base 34 (.slice va vn vc) vs) (hq : Quad W (w.heap.size + 1) z0 z1 z2 z3) (hb : Below w.heap.size w W)
    (hf : kFd.rel (fun b => w.heap.size ≤ b ∧ b ≠ w.heap.size + 1) W f [.int .i64 f.code, .int .i64 f.ver, .slice a n c, .slice b m d]) :
    ∀ W9, W9 = ((((W.setCell ⟨w.heap.size + 1, 0, none⟩ (.int .i64 f.code)).setCell ⟨w.heap.size + 1, 1, none⟩ (.int .i64 f.ver)).setCell ⟨w.heap.size + 1, 2, none⟩ (.slice a n c)).setCell ⟨w.heap.size + 1, 3, none⟩ (.slice b m d)) →
      Quad W9 (w.heap.size + 1) (.int .i64 f.code) (.int .i64 f.ver) (.slice a n c) (.slice b m d) ∧ RefPost base ok vs f (.slice va vn vc) w (.returned (.tuple #[.agg #[.int .i64 f.code, .int .i64 f.ver, .slice a n c, .slice b m d], .slice va vn vc])) W9 :=
  ref_end hq ⟨hb.os, hb.tape, hb.output, hb.size, fun b hb2 _ => hb.block b hb2⟩ (fun _ e _ => e) (fun e => by have := (rows_lt hR _ e).2; omega)
    ((hR.turned (ok2 := fun b => ok b ∧ b ≠ w.heap.size + 1) (fun b hb ho => ⟨ho, by omega⟩)).later hb)
    (kFd.move (Kept.of_below (Below.refl _ _)) (fun b _ ho => ⟨⟨ho.1, fun e => by have := (rows_lt hR _ e).2; omega⟩, ho.2⟩) hf)

theorem list_end {P : Program} {ops : Array Oper} {K : Act → World → Prop} {Q : Exit → Act → World → Prop} {a : Act} {w : World} (h : K a w) : wpList P ops (thenQ K Q) [] a w := h

/-- ahead of an append to the versions -/
theorem deed_rows {w W : World} {kd ver : Int} {ku vu : Value} {lim : Int} {p q r s : Value} {base g cap n : Nat} {ok : Nat → Prop} {vs : List (List Ent)} (hR : Rows (kRow kEnt) ok w base 34 (.slice (some ⟨g, 0, none⟩) n cap) vs) (hbase : base ≤ w.heap.size) (hok : Fresh ok w) (hW : DeedL w kd ver ku vu lim p q r s W) :
    Rows (kRow kEnt) (fun b => ok b ∧ b ≠ w.heap.size + 1) W base 34 (.slice (some ⟨g, 0, none⟩) n cap) vs ∧ Fresh (fun b => ok b ∧ b ≠ w.heap.size + 1) W ∧ base ≤ W.heap.size :=
  ⟨(hR.turned (ok2 := fun b => ok b ∧ b ≠ w.heap.size + 1) (fun b hb ho => ⟨ho, by omega⟩)).later hW.below, (fun b hb => ⟨hok b (by have := hW.size; omega), by have := hW.size; omega⟩), Nat.le_trans hbase hW.below.size⟩

/-- and behind it -/
theorem deed_more {w W w5 : World} {kd ver : Int} {ku vu : Value} {lim : Int} {n : Nat} {base g cap : Nat} {ok : Nat → Prop} {vs : List (List Ent)} {nl : List Ent} {v' : Value} (hg : g < w.heap.size) (hW : DeedL w kd ver ku vu lim (.int .i64 0) (.int .i64 n) (.slice none 0 0) (.slice none 0 0) W)
    (q1 : Rows (kRow kEnt) (fun b => ok b ∧ b ≠ w.heap.size + 1) w5 base 34 v' (vs ++ [nl])) (q2 : W.grownBy w5 (some g)) (q3 : v'.ownBlock = some g ∨ v'.ownBlock = some (W.heap.size + 1)) :
    ∃ (va : Option Addr) (vn vc : Nat), v' = .slice va vn vc ∧ Quad w5 (w.heap.size + 1 + 1) (.int .i64 0) (.int .i64 n) (.slice none 0 0) (.slice none 0 0) ∧ Quad w5 (w.heap.size + 1) (.int .i64 0) (.int .i64 0) (.slice none 0 0) (.slice none 0 0) ∧ w5.cell? ⟨w.heap.size, 2, none⟩ = some ku ∧ w5.cell? ⟨w.heap.size, 3, none⟩ = some vu ∧ Hid (∀ W9, W9 = ((((w5.setCell ⟨w.heap.size + 1, 0, none⟩ (.int .i64 0)).setCell ⟨w.heap.size + 1, 1, none⟩ (.int .i64 n)).setCell ⟨w.heap.size + 1, 2, none⟩ (.slice none 0 0)).setCell ⟨w.heap.size + 1, 3, none⟩ (.slice none 0 0)) →
      Quad W9 (w.heap.size + 1) (.int .i64 0) (.int .i64 n) (.slice none 0 0) (.slice none 0 0) ∧ RefPost base ok (vs ++ [nl]) ⟨0, n, [], []⟩ (.slice (some ⟨g, 0, none⟩) n cap) w (.returned (.tuple #[.agg #[.int .i64 0, .int .i64 n, .slice none 0 0, .slice none 0 0], .slice va vn vc])) W9) := by
  obtain ⟨va, vc, rfl⟩ := rows_form q1
  have hs := hW.size
  have hs5 := q2.size
  have e0 : ∀ b, w.heap.size ≤ b → b ≤ w.heap.size + 1 + 1 → w5.heap[b]? = W.heap[b]? := fun b hb hb2 => q2.block b (by omega) (fun e => by have : b = g := Option.some.inj e; omega)
  have hr5 := hW.res.move (e0 _ (by omega) (by omega))
  have ec := e0 w.heap.size (Nat.le_refl _) (by omega)
  refine ⟨va, _, vc, rfl, hW.f.move (e0 _ (by omega) (by omega)), hr5, (World.cell?_of_block (w := W) ec).trans hW.c2, (World.cell?_of_block (w := W) ec).trans hW.c3, ?_⟩
  refine ref_end (f := ⟨0, n, [], []⟩) hr5 ⟨q2.os.trans hW.below.os, q2.tape.trans hW.below.tape, q2.output.trans hW.below.output, by omega, fun b hb hne => (q2.block b (by omega) hne).trans (hW.below.block b hb)⟩ (fun g' e hg' => ?_) (fun e => ?_) q1 (fd_bare _ _)
  · rcases q3 with q | q
    · rw [q] at e; exact e
    · rw [q] at e; have := Option.some.inj e; omega
  · rcases q3 with q | q
    · rw [q] at e; have := Option.some.inj e; omega
    · rw [q] at e; have := Option.some.inj e; omega

/-- nothing but a code -/
theorem ref_new {w W : World} {base : Nat} {ok : Nat → Prop} {vs : List (List Ent)} {va : Option Addr} {vn vc : Nat} (hR : Rows (kRow kEnt) ok w base 34 (.slice va vn vc) vs) (hb : Below w.heap.size w W) (c : Int) :
    RefPost base ok vs ⟨c, 0, [], []⟩ (.slice va vn vc) w (.returned (.tuple #[.agg #[.int .i64 c, .int .i64 0, .slice none 0 0, .slice none 0 0], .slice va vn vc])) W :=
  ⟨va, vn, vc, none, 0, 0, none, 0, 0, rfl, hR.later hb, fd_bare _ _, ⟨hb.os, hb.tape, hb.output, hb.size, fun b hb2 _ => hb.block b hb2⟩, fun _ e _ => e⟩

theorem refPost_returned {base : Nat} {ok : Nat → Prop} {vs' : List (List Ent)} {f : Fd} {v : Value} {w w' : World} : ¬ RefPost base ok vs' f v w .outgrown w' := by
  rintro ⟨_, _, _, _, _, _, _, _, _, e, _⟩
  cases e

theorem setCell_other {W : World} {B i j : Nat} {u : Value} (h : i ≠ j) : (W.setCell ⟨B, i, none⟩ u).cell? ⟨B, j, none⟩ = W.cell? ⟨B, j, none⟩ := World.cell?_setCell_other _ _ _ _ (by intro q; cases q; exact h rfl)

theorem Quad.put0 {W : World} {B : Nat} {p q r s : Value} (h : Quad W B p q r s) (u : Value) : Quad (W.setCell ⟨B, 0, none⟩ u) B u q r s := by
  refine ⟨World.cell?_setCell_same' _ _ _ (by rw [h.c0]; rfl), (setCell_other (by decide)).trans h.c1, (setCell_other (by decide)).trans h.c2, (setCell_other (by decide)).trans h.c3, ?_, ?_, ?_, ?_⟩
  all_goals simp only [World.frozen?_setCell]
  · exact h.f0
  · exact h.f1
  · exact h.f2
  · exact h.f3

theorem Quad.put1 {W : World} {B : Nat} {p q r s : Value} (h : Quad W B p q r s) (u : Value) : Quad (W.setCell ⟨B, 1, none⟩ u) B p u r s := by
  refine ⟨(setCell_other (by decide)).trans h.c0, World.cell?_setCell_same' _ _ _ (by rw [h.c1]; rfl), (setCell_other (by decide)).trans h.c2, (setCell_other (by decide)).trans h.c3, ?_, ?_, ?_, ?_⟩
  all_goals simp only [World.frozen?_setCell]
  · exact h.f0
  · exact h.f1
  · exact h.f2
  · exact h.f3

theorem Quad.put2 {W : World} {B : Nat} {p q r s : Value} (h : Quad W B p q r s) (u : Value) : Quad (W.setCell ⟨B, 2, none⟩ u) B p q u s := by
  refine ⟨(setCell_other (by decide)).trans h.c0, (setCell_other (by decide)).trans h.c1, World.cell?_setCell_same' _ _ _ (by rw [h.c2]; rfl), (setCell_other (by decide)).trans h.c3, ?_, ?_, ?_, ?_⟩
  all_goals simp only [World.frozen?_setCell]
  · exact h.f0
  · exact h.f1
  · exact h.f2
  · exact h.f3

theorem Quad.put3 {W : World} {B : Nat} {p q r s : Value} (h : Quad W B p q r s) (u : Value) : Quad (W.setCell ⟨B, 3, none⟩ u) B p q r u := by
  refine ⟨(setCell_other (by decide)).trans h.c0, (setCell_other (by decide)).trans h.c1, (setCell_other (by decide)).trans h.c2, World.cell?_setCell_same' _ _ _ (by rw [h.c3]; rfl), ?_, ?_, ?_, ?_⟩
  all_goals simp only [World.frozen?_setCell]
  · exact h.f0
  · exact h.f1
  · exact h.f2
  · exact h.f3

/-- what it has come to is written -/
theorem DeedL.put {w W : World} {kd ver : Int} {ku vu : Value} {lim : Int} {p q r s p' q' r' s' : Value} (h : DeedL w kd ver ku vu lim p q r s W) (j : Nat) (u : Value) (hQ : Quad (W.setCell ⟨w.heap.size + 1 + 1, j, none⟩ u) (w.heap.size + 1 + 1) p' q' r' s') : DeedL w kd ver ku vu lim p' q' r' s' (W.setCell ⟨w.heap.size + 1 + 1, j, none⟩ u) := by
  have hx : ∀ b, b ≠ w.heap.size + 1 + 1 → (W.setCell ⟨w.heap.size + 1 + 1, j, none⟩ u).heap[b]? = W.heap[b]? := fun b hb => heap_setCell_other _ _ _ _ hb
  have e0 := hx w.heap.size (by omega)
  exact ⟨h.below.setCell (p := ⟨w.heap.size + 1 + 1, j, none⟩) (by show w.heap.size ≤ w.heap.size + 1 + 1; omega) _, (World.cell?_of_block (w := W) e0).trans h.c0, (World.cell?_of_block (w := W) e0).trans h.c1, (World.cell?_of_block (w := W) e0).trans h.c2, (World.cell?_of_block (w := W) e0).trans h.c3, (World.cell?_of_block (w := W) e0).trans h.c4, h.res.move (hx _ (by omega)), hQ⟩

section
variable {P : Program} {ops : Array Oper} {Q : Exit → Act → World → Prop} {S : World → Prop} {m : Nat}

/-- number k, for which number m waits by way of others, may be taken first -/
theorem U_firstX {k : Nat} {ok : Oper} {v : Value} (X : List Nat) (hk : ops[k]? = some ok) (hmX : m ∈ X) (hw : ∀ x ∈ X, ∃ ox, ops[x]? = some ox ∧ ∃ e ∈ ox.after, Region.binds .any e = true ∧ (e.on = k ∨ e.on ∈ X)) (hsel : ∀ (j : Nat) (o : Oper) cs b, ops[j]? = some o → o.op ≠ .select cs b)
    (hQ : ∀ c a w, Q (.panic c) (a.put ok.dst v) w → Q (.panic c) a w) :
    ∀ (fuel : Nat) (listed : Array Bool) (a : Act) (w : World),
      (∀ j oj, ops[j]? = some oj → j ≠ k → listed.getD j true = false → (∀ e ∈ oj.after, Region.binds .any e = true → e.on ≠ k) → ok.apart ops oj = true) →
      k ∈ Region.ready .any ops listed → (∀ x ∈ X, listed.getD x true = false) → YieldsIf P ops S ok v a → S w →
      wpAnyU P ops Q S m fuel (listed.setIfInBounds k true) (a.put ok.dst v) w → wpAnyU P ops Q S m (fuel + 1) listed a w := by
  intro fuel
  induction fuel with
  | zero =>
    intro listed a w _ hr hm hy hS H
    refine ⟨fun h => (by rw [h] at hr; cases hr), fun j hj => ?_⟩
    by_cases hjk : j = k
    · subst hjk
      exact hy.wpOp hk hS ⟨fun _ => hS, H⟩
    · have := ready_mono hj hjk
      rw [H.1] at this
      cases this
  | succ fuel ih =>
    intro listed a w hfree hr hm hy hS H
    refine ⟨fun h => (by rw [h] at hr; cases hr), fun j hj => ?_⟩
    by_cases hjk : j = k
    · subst hjk
      exact hy.wpOp hk hS ⟨fun _ => hS, H⟩
    · have h1 := H.2 j (ready_mono hj hjk)
      have hun : ∀ i, listed.getD i true = false → ¬ (listed[i]?.getD false = true) := fun i h0 h1 => by
        rcases Nat.lt_or_ge i listed.size with h' | h'
        · simp [h'] at h0 h1; rw [h0] at h1; cases h1
        · simp [Array.getElem?_eq_none h'] at h1
      have hnX : ∀ i, i ∈ Region.ready .any ops listed → i ∉ X := fun i hi hiX => by
        obtain ⟨ox, hox, e, he, hb, heq⟩ := hw i hiX
        obtain ⟨_, oi, hoi, hall⟩ := mem_ready.1 hi
        rw [hox] at hoi
        cases hoi
        have h2 := hall e he hb
        rcases heq with heq | heq
        · rw [heq] at h2
          exact hun k (mem_ready.1 hr).1 (by simpa using h2)
        · exact hun _ (hm _ heq) (by simpa using h2)
      obtain ⟨hjun, oj, hoj, hall⟩ := mem_ready.1 hj
      have hnot : ∀ e ∈ oj.after, Region.binds .any e = true → e.on ≠ k := fun e he hb heq => by
        have h2 := hall e he hb
        rw [heq] at h2
        exact hun k (mem_ready.1 hr).1 (by simpa using h2)
      have hjm : j ≠ m := fun e => hnX j hj (e ▸ hmX)
      have hm2 : ∀ x ∈ X, (listed.setIfInBounds j true).getD x true = false := fun x hx => by
        have hjx : j ≠ x := fun e => hnX j hj (by rw [e]; exact hx)
        rw [getD_set_ne true hjx]
        exact hm x hx
      have h2 := wpOp_putIf hoj (hfree j oj hoj hjk hjun hnot) (fun cs b => hsel k ok cs b hk) (fun cs b => hsel j oj cs b hoj) hQ hy h1
      have hfree' : ∀ i oi, ops[i]? = some oi → i ≠ k → (listed.setIfInBounds j true).getD i true = false →
          (∀ e ∈ oi.after, Region.binds .any e = true → e.on ≠ k) → ok.apart ops oi = true := fun i oi hi hik hun hno => by
        refine hfree i oi hi hik ?_ hno
        by_cases hji : j = i
        · subst hji; exact hjun
        · rw [getD_set_ne true hji] at hun; exact hun
      have hkm : k ≠ m := fun e => hnX k hr (e ▸ hmX)
      refine wpOp_mono (fun a' w' h3 => ?_) h2
      obtain ⟨h3, h4, h5⟩ := h3
      have hS' : S w' := h4 (by rw [getD_set_ne true hjm, getD_set_ne true hkm]; exact hm m hmX)
      refine ⟨fun _ => hS', ih (listed.setIfInBounds j true) a' w' hfree' (ready_mono hr (Ne.symm hjk)) hm2 h3 hS' ?_⟩
      rw [Array.setIfInBounds_comm _ _ hjk]
      exact h5

theorem U_takeX (X : List Nat) {k : Nat} {ok : Oper} {v : Value} {fuel : Nat} {listed : Array Bool} {a : Act} {w : World} (hk : ops[k]? = some ok) (hmX : X.contains m = true)
    (hw : (X.all fun x => match ops[x]? with | some ox => ox.after.any (fun e => Region.binds .any e && ((e.on == k) || X.contains e.on)) | none => false) = true)
    (hs : Region.noSelect ops = true) (hf : Region.free .any ops listed k = true) (hr : (Region.ready .any ops listed).contains k = true) (hm : (X.all fun x => !(listed.getD x true)) = true)
    (hQ : ∀ c a w, Q (.panic c) (a.put ok.dst v) w → Q (.panic c) a w) (hy : YieldsIf P ops S ok v a) (hS : S w)
    (h : wpAnyU P ops Q S m fuel (listed.setIfInBounds k true) (a.put ok.dst v) w) : wpAnyU P ops Q S m (fuel + 1) listed a w :=
  U_firstX X hk (by simpa using hmX) (fun x hx => by
    have := List.all_eq_true.1 hw x hx
    cases ho : ops[x]? with
    | none => rw [ho] at this; cases this
    | some ox =>
      rw [ho] at this
      simp only [Array.any_eq_true', Bool.and_eq_true, Bool.or_eq_true, beq_iff_eq, List.contains_iff_mem] at this
      exact ⟨ox, rfl, this⟩) (Region.noSelect_spec hs) hQ fuel listed a w (Region.free_spec hk hf) (by simpa using hr) (fun x hx => by simpa using List.all_eq_true.1 hm x hx) hy hS h

end

end Go.Proofs.Ytdjiplheomoljaa

/- The reference's deed: putting an entry. -/
namespace Go.Proofs.Ytdjiplheomoljaa
open Go.ChangeShapes Go.WideShapes Go.ChangeAt Go.RowKit

set_option maxRecDepth 100000 in
set_option maxHeartbeats 8000000 in
theorem rdeed_put (ok : Nat → Prop) (vs : List (List Ent)) (i : Nat) (hi : i < vs.length) (l : List Ent) (key val : List Int) (h1 : 1 ≤ key.length) (h2 : key.length ≤ 1200) (h3 : val.length ≤ 4000) (lim : Int) (ka ea la : Option Addr) (kc ec lc : Nat) (base g cap : Nat) (w : World)
    (hR : Rows (kRow kEnt) ok w base 34 (.slice (some ⟨g, 0, none⟩) vs.length cap) vs) (hbase : base ≤ w.heap.size) (hok : Fresh ok w) (hfew : vs.length ≤ 90000) (hcap : vs.length ≤ cap) (g0 : w.cell? ⟨g, i, none⟩ = some (.slice la l.length lc)) (hl : Lies kEnt (fun b => ok b ∧ (Value.slice (some ⟨g, 0, none⟩) vs.length cap).ownBlock ≠ some b) w la lc l) (hlf : l.length ≤ 80000)
    (hk : Octs w ka kc key) (hv : Octs w ea ec val) :
    Calls Try.prog 23 #[.slice (some ⟨g, 0, none⟩) vs.length cap, .agg #[.int .i64 1, .int .i64 i, .slice ka key.length kc, .slice ea val.length ec, .int .i64 lim]] w fun e w' => RefPost base ok (vs ++ [putK l (key, val)]) ⟨0, vs.length, [], []⟩ (.slice (some ⟨g, 0, none⟩) vs.length cap) w e w' := by
  have hg : g < w.heap.size := World.block_lt_of_cell? _ _ g0
  obtain ⟨okk, hokk⟩ : ∃ okk : Nat → Prop, okk = fun b => (ok b ∧ b ≠ w.heap.size + 1) ∧ (Value.slice (some ⟨g, 0, none⟩) vs.length cap).ownBlock ≠ some b := ⟨_, rfl⟩
  have hfr : ∀ W, DeedL w 1 i (.slice ka key.length kc) (.slice ea val.length ec) lim (.int .i64 0) (.int .i64 vs.length) (.slice none 0 0) (.slice none 0 0) W → Fresh okk W := fun W hW b hb => by
    have := hW.size
    rw [hokk]
    exact ⟨⟨hok b (by omega), by omega⟩, fun e => by have : g = b := Option.some.inj e; omega⟩
  have c1 : Hid (∀ W, DeedL w 1 i (.slice ka key.length kc) (.slice ea val.length ec) lim (.int .i64 0) (.int .i64 vs.length) (.slice none 0 0) (.slice none 0 0) W → Calls Try.prog 34 #[.slice ka key.length kc] W fun e w' => ∃ (a1 : Option Addr) (n1 q1 : Nat), e = .returned (.slice a1 n1 q1) ∧ Hid (DeedL w 1 i (.slice ka key.length kc) (.slice ea val.length ec) lim (.int .i64 0) (.int .i64 vs.length) (.slice none 0 0) (.slice none 0 0) w' ∧ n1 = key.length ∧ IsBody w' okk (.slice a1 n1 q1) key)) := fun W hW => by
    refine (ownBytes_any ka kc key W (hk.later hW.below)).mono ?_
    rintro e w' ⟨a1, q1, rfl, r1, r2, r3⟩
    exact ⟨a1, _, q1, rfl, hW.later r3, rfl, a1, q1, rfl, r1, fun _ ad hd => hfr W hW _ (r2 ad hd)⟩
  have c2 : Hid (∀ (W : World) (a1 : Option Addr) (n1 q1 : Nat), (DeedL w 1 i (.slice ka key.length kc) (.slice ea val.length ec) lim (.int .i64 0) (.int .i64 vs.length) (.slice none 0 0) (.slice none 0 0) W ∧ n1 = key.length ∧ IsBody W okk (.slice a1 n1 q1) key) → Calls Try.prog 34 #[.slice ea val.length ec] W fun e w' => ∃ (a2 : Option Addr) (n2 q2 : Nat), e = .returned (.slice a2 n2 q2) ∧ Hid (DeedL w 1 i (.slice ka key.length kc) (.slice ea val.length ec) lim (.int .i64 0) (.int .i64 vs.length) (.slice none 0 0) (.slice none 0 0) w' ∧ (n1 = key.length ∧ IsBody w' okk (.slice a1 n1 q1) key) ∧ n2 = val.length ∧ IsBody w' okk (.slice a2 n2 q2) val)) := fun W a1 n1 q1 ⟨hW, e1, hb1⟩ => by
    refine (ownBytes_any ea ec val W (hv.later hW.below)).mono ?_
    rintro e w' ⟨a2, q2, rfl, r1, r2, r3⟩
    exact ⟨a2, _, q2, rfl, hW.later r3, ⟨e1, hb1.later r3⟩, rfl, a2, q2, rfl, r1, fun _ ad hd => hfr W hW _ (r2 ad hd)⟩
  have cW : Hid (∀ (W : World) (a1 : Option Addr) (n1 q1 : Nat) (a2 : Option Addr) (n2 q2 : Nat), (DeedL w 1 i (.slice ka key.length kc) (.slice ea val.length ec) lim (.int .i64 0) (.int .i64 vs.length) (.slice none 0 0) (.slice none 0 0) W ∧ (n1 = key.length ∧ IsBody W okk (.slice a1 n1 q1) key) ∧ n2 = val.length ∧ IsBody W okk (.slice a2 n2 q2) val) → Calls Try.prog 33 #[.slice la l.length lc, .agg #[.slice a1 n1 q1, .slice a2 n2 q2]] W fun e w' => ∃ (a3 : Option Addr) (n3 q3 : Nat), e = .returned (.slice a3 n3 q3) ∧ Hid (DeedL w 1 i (.slice ka key.length kc) (.slice ea val.length ec) lim (.int .i64 0) (.int .i64 vs.length) (.slice none 0 0) (.slice none 0 0) w' ∧ (kRow kEnt).rel okk w' (putK l (key, val)) [.slice a3 n3 q3])) := fun W a1 n1 q1 a2 n2 q2 ⟨hW, ⟨e1, hb1⟩, e2, hb2⟩ => by
    subst e1 e2
    refine (rwith_any okk l hlf (key, val) la lc a1 a2 q1 q2 W (hfr W hW) (hl.move (Kept.of_below hW.below) (fun b hb ho => by rw [hokk]; exact ⟨⟨ho.1, by omega⟩, ho.2⟩)) hb1 hb2).mono ?_
    rintro e w' ⟨a3, n3, q3, rfl, rfl, r1, r2, r3⟩
    exact ⟨a3, _, q3, rfl, hW.later r3, a3, q3, rfl, r1, r2⟩
  have cA : Hid (∀ W, DeedL w 1 i (.slice ka key.length kc) (.slice ea val.length ec) lim (.int .i64 0) (.int .i64 vs.length) (.slice none 0 0) (.slice none 0 0) W → Rows (kRow kEnt) (fun b => ok b ∧ b ≠ w.heap.size + 1) W base 34 (.slice (some ⟨g, 0, none⟩) vs.length cap) vs ∧ Fresh (fun b => ok b ∧ b ≠ w.heap.size + 1) W ∧ base ≤ W.heap.size) := fun W hW => deed_rows hR hbase hok hW
  have H0 := put_by (deedL_new w 1 i (.slice ka key.length kc) (.slice ea val.length ec) lim (.int .i64 0) (.int .i64 vs.length) (.slice none 0 0) (.slice none 0 0) 50 53 53)
  have z0 : ((w.alloc (.cells #[.int .i64 1, .int .i64 i, .slice ka key.length kc, .slice ea val.length ec, .int .i64 lim] 50)).alloc (.cells #[.int .i64 0, .int .i64 0, .slice none 0 0, .slice none 0 0] 53)).cell? ⟨g, i, none⟩ = some (.slice la l.length lc) :=
    ((playL_new w 1 i (.slice ka key.length kc) (.slice ea val.length ec) lim 50 53).told.below.cell (p := ⟨g, i, none⟩) hg).trans g0
  have HKK : Hid (okk = fun b => (ok b ∧ b ≠ w.heap.size + 1) ∧ (Value.slice (some ⟨g, 0, none⟩) vs.length cap).ownBlock ≠ some b) := hokk
  have HG := put_by hg
  have HT := put_by (And.intro hi (And.intro hcap hfew))
  have i1 : (i : Int) < (vs.length : Int) := by omega
  have i2 : 1 ≤ (key.length : Int) := by omega
  have i3 : (key.length : Int) ≤ 1200 := by omega
  have i4 : (val.length : Int) ≤ 4000 := by omega
  generalize hpost : (fun e w' => RefPost base ok (vs ++ [putK l (key, val)]) ⟨0, vs.length, [], []⟩ (.slice (some ⟨g, 0, none⟩) vs.length cap) w e w') = R
  have HO : Hid (∀ w', ¬ R .outgrown w') := fun w' hh => by
    rw [← hpost] at hh
    exact refPost_returned hh
  have HR := put_by hpost
  clear hpost hi hcap hfew hR hok hl hlf hk hv g0 hfr hokk hbase h1 h2 h3
  generalize hnl : putK l (key, val) = nl at *
  clear hnl
  generalize key.length = kn at *
  generalize val.length = en at *
  generalize l.length = ln at *
  obtain ⟨n, hn⟩ : ∃ n, n = vs.length := ⟨_, rfl⟩
  have HN := put_by hn
  rw [← hn] at c1 c2 cW cA H0 HKK HT i1 HR ⊢
  clear hn
  go_enter Try.func23, Try.ntmps23
  go_wp2
  obtain ⟨W2, hW2⟩ : ∃ W2, (((w.alloc (.cells #[.int .i64 1, .int .i64 i, .slice ka kn kc, .slice ea en ec, .int .i64 lim] 50)).alloc (.cells #[.int .i64 0, .int .i64 0, .slice none 0 0, .slice none 0 0] 53)).alloc (.cells #[.int .i64 0, .int .i64 n, .slice none 0 0, .slice none 0 0] 53)) = W2 := ⟨_, rfl⟩
  rw [hW2] at H0 ⊢
  clear hW2 z0
  have HD := put_by (H0.out.later (Below.refl _ _).drew)
  obtain ⟨-, -, -, d2, d3, -, -, ⟨e0, e1, e2, e3, -, -, -, -⟩⟩ := id H0.out
  go_region_held3 (fun V => (V.cell? ⟨w.heap.size, 2, none⟩ = some (.slice ka kn kc) ∧ V.cell? ⟨w.heap.size, 3, none⟩ = some (.slice ea en ec)) ∧ V.cell? ⟨w.heap.size + 1 + 1, 0, none⟩ = some (.int .i64 0) ∧ V.cell? ⟨w.heap.size + 1 + 1, 1, none⟩ = some (.int .i64 n) ∧ V.cell? ⟨w.heap.size + 1 + 1, 2, none⟩ = some (.slice none 0 0) ∧ V.cell? ⟨w.heap.size + 1 + 1, 3, none⟩ = some (.slice none 0 0)) (go_keep) (first
    | (go_at_call 34; (with_reducible refine (c1.out _ HD.out).mono ?_); clear c1; rintro e w1 ⟨a1, n1, q1, rfl, H1⟩; obtain ⟨-, -, -, j2, j3, -, -, ⟨k0, k1, k2, k3, -, -, -, -⟩⟩ := id H1.out.1)
    | (go_at_call 34; (with_reducible refine (c2.out _ _ _ _ H1.out).mono ?_); clear c2; rintro e w2 ⟨a2, n2, q2, rfl, H2⟩; obtain ⟨-, -, -, l2, l3, -, -, ⟨m0, m1, m2, m3, -, -, -, -⟩⟩ := id H2.out.1)
    | (go_at_call 33; (with_reducible refine (cW.out _ _ _ _ _ _ _ H2.out).mono ?_); clear cW; rintro e w3 ⟨a3, n3, q3, rfl, H3⟩; obtain ⟨-, -, -, o2, o3, -, -, ⟨p0, p1, p2, p3, -, -, -, -⟩⟩ := id H3.out.1)
    | (rw [if_pos (by rfl)]; refine wp_of_list rfl (by rintro ⟨_, _, hh⟩; exact HO.out _ hh) (wpList_append_one eltL rfl (.tmp 46) (.tmp 56) rfl base (.slice (some ⟨g, 0, none⟩) n cap) vs rfl (cA.out _ H3.out.1).1 nl [.slice a3 n3 q3] _ _ rfl rfl (HKK.out ▸ H3.out.2) (cA.out _ H3.out.1).2.1 (by have := HT.out; have := HN.out; omega) (by decide) (cA.out _ H3.out.1).2.2 (fun v' w5 r1 r2 r3 => ?_)); obtain ⟨va, vn, vc, hv', ⟨s0, s1, s2, s3, -, -, -, -⟩, ⟨t0, t1, t2, t3, u0, u1, u2, u3⟩, x2, x3, H5⟩ := deed_more (cap := cap) HG.out H3.out.1 r1 r2 r3; subst hv'; clear r1 r2 r3; refine list_end ?_))
  obtain ⟨hQ, hA⟩ := H5.out _ rfl
  generalize (((w5.setCell _ _).setCell _ _).setCell _ _).setCell _ _ = W9 at hQ hA ⊢
  go_wp2
  refine bodyPost_ret (v := .tuple #[.agg #[.int .i64 0, .int .i64 n, .slice none 0 0, .slice none 0 0], .slice va vn vc]) (by simp [results, Try.results23, go_sem, asAddr, hQ.c0, hQ.c1, hQ.c2, hQ.c3]) rfl ?_
  rw [← HR.out]
  exact hA

set_option maxRecDepth 100000 in
set_option maxHeartbeats 8000000 in
theorem rdeed_size (ok : Nat → Prop) (vs : List (List Ent)) (i : Nat) (hi : i < vs.length) (l : List Ent) (kn en : Nat) (hbad : kn < 1 ∨ 1200 < kn ∨ 4000 < en) (lim : Int) (ka ea la : Option Addr) (kc ec lc : Nat) (base g cap : Nat) (w : World)
    (hR : Rows (kRow kEnt) ok w base 34 (.slice (some ⟨g, 0, none⟩) vs.length cap) vs) (g0 : w.cell? ⟨g, i, none⟩ = some (.slice la l.length lc)) :
    Calls Try.prog 23 #[.slice (some ⟨g, 0, none⟩) vs.length cap, .agg #[.int .i64 1, .int .i64 i, .slice ka kn kc, .slice ea en ec, .int .i64 lim]] w fun e w' => RefPost base ok vs ⟨1, 0, [], []⟩ (.slice (some ⟨g, 0, none⟩) vs.length cap) w e w' := by
  have hg : g < w.heap.size := World.block_lt_of_cell? _ _ g0
  have z0 : ((w.alloc (.cells #[.int .i64 1, .int .i64 i, .slice ka kn kc, .slice ea en ec, .int .i64 lim] 50)).alloc (.cells #[.int .i64 0, .int .i64 0, .slice none 0 0, .slice none 0 0] 53)).cell? ⟨g, i, none⟩ = some (.slice la l.length lc) :=
    ((playL_new w 1 i (.slice ka kn kc) (.slice ea en ec) lim 50 53).told.below.cell (p := ⟨g, i, none⟩) hg).trans g0
  have HE : Hid (∀ W, Below w.heap.size w W → RefPost base ok vs ⟨1, 0, [], []⟩ (.slice (some ⟨g, 0, none⟩) vs.length cap) w (.returned (.tuple #[.agg #[.int .i64 1, .int .i64 0, .slice none 0 0, .slice none 0 0], .slice (some ⟨g, 0, none⟩) vs.length cap])) W) := fun W hW => ref_new hR hW 1
  have i1 : (i : Int) < (vs.length : Int) := by omega
  have hcase : (kn = 0) ∨ (1 ≤ (kn : Int) ∧ 1200 < (kn : Int)) ∨ (1 ≤ (kn : Int) ∧ (kn : Int) ≤ 1200 ∧ 4000 < (en : Int)) := by omega
  have HB : Hid (Below w.heap.size w (((w.alloc (.cells #[.int .i64 1, .int .i64 i, .slice ka kn kc, .slice ea en ec, .int .i64 lim] 50)).alloc (.cells #[.int .i64 1, .int .i64 0, .slice none 0 0, .slice none 0 0] 53)).alloc (.cells #[.int .i64 1, .int .i64 0, .slice none 0 0, .slice none 0 0] 53))) :=
    (((Below.refl _ w).alloc (Nat.le_refl _) _).alloc (by simp) _).alloc (by simp; omega) _
  generalize hpost : (fun e w' => RefPost base ok vs ⟨1, 0, [], []⟩ (.slice (some ⟨g, 0, none⟩) vs.length cap) w e w') = R
  have HR := put_by hpost
  clear hpost hbad hi hR g0
  generalize l.length = ln at *
  generalize vs.length = n at *
  rcases hcase with rfl | ⟨h1, h2⟩ | ⟨h1, h2, h3⟩
  all_goals
    go_enter Try.func23, Try.ntmps23
    go_wp2
    refine bodyPost_ret (v := .tuple #[.agg #[.int .i64 1, .int .i64 0, .slice none 0 0, .slice none 0 0], .slice (some ⟨g, 0, none⟩) n cap]) (by simp [results, Try.results23, go_sem, asAddr]) rfl ?_
    rw [← HR.out]
    exact HE.out _ HB.out

end Go.Proofs.Ytdjiplheomoljaa

/- The reference's deed: dropping a key. -/
namespace Go.Proofs.Ytdjiplheomoljaa
open Go.ChangeShapes Go.WideShapes Go.ChangeAt Go.RowKit

theorem drew_alloc (w : World) (o : Obj) : (w.alloc o).drew = w.drew.alloc o := rfl

set_option maxRecDepth 100000 in
set_option maxHeartbeats 8000000 in
theorem rdeed_drop (ok : Nat → Prop) (vs : List (List Ent)) (i : Nat) (hi : i < vs.length) (l : List Ent) (key : List Int) (hhas : hasK l key = true) (lim : Int) (ka ea la : Option Addr) (kc en ec lc : Nat) (base g cap : Nat) (w : World)
    (hR : Rows (kRow kEnt) ok w base 34 (.slice (some ⟨g, 0, none⟩) vs.length cap) vs) (hbase : base ≤ w.heap.size) (hok : Fresh ok w) (hfew : vs.length ≤ 90000) (g0 : w.cell? ⟨g, i, none⟩ = some (.slice la l.length lc)) (hl : Lies kEnt (fun b => ok b ∧ (Value.slice (some ⟨g, 0, none⟩) vs.length cap).ownBlock ≠ some b) w la lc l) (hlf : l.length ≤ 80000)
    (hk : Octs w ka kc key) :
    Calls Try.prog 23 #[.slice (some ⟨g, 0, none⟩) vs.length cap, .agg #[.int .i64 2, .int .i64 i, .slice ka key.length kc, .slice ea en ec, .int .i64 lim]] w fun e w' => RefPost base ok (vs ++ [dropK l key]) ⟨0, vs.length, [], []⟩ (.slice (some ⟨g, 0, none⟩) vs.length cap) w e w' := by
  have hg : g < w.heap.size := World.block_lt_of_cell? _ _ g0
  obtain ⟨okk, hokk⟩ : ∃ okk : Nat → Prop, okk = fun b => (ok b ∧ b ≠ w.heap.size + 1) ∧ (Value.slice (some ⟨g, 0, none⟩) vs.length cap).ownBlock ≠ some b := ⟨_, rfl⟩
  have c1 : Hid (∀ W, DeedL w 2 i (.slice ka key.length kc) (.slice ea en ec) lim (.int .i64 0) (.int .i64 0) (.slice none 0 0) (.slice none 0 0) W → Calls Try.prog 35 #[.slice la l.length lc, .slice ka key.length kc] W fun e w' => ∃ (a1 : Option Addr) (n1 q1 : Nat), e = .returned (.tuple #[.slice a1 n1 q1, .bool true]) ∧ Hid (DeedL w 2 i (.slice ka key.length kc) (.slice ea en ec) lim (.int .i64 0) (.int .i64 0) (.slice none 0 0) (.slice none 0 0) w' ∧ (kRow kEnt).rel (fun b => okk b ∧ b ≠ w.heap.size + 1 + 1) w' (dropK l key) [.slice a1 n1 q1])) := fun W hW => by
    have hs := hW.size
    refine (rwithout_any (fun b => okk b ∧ b ≠ w.heap.size + 1 + 1) l (by omega) key la lc ka kc W (fun b hb => ?_) (hl.move (Kept.of_below hW.below) (fun b hb ho => by rw [hokk]; exact ⟨⟨⟨ho.1, by omega⟩, ho.2⟩, by omega⟩)) (hk.later hW.below)).mono ?_
    · rw [hokk]
      exact ⟨⟨⟨hok b (by omega), by omega⟩, fun e => by have : g = b := Option.some.inj e; omega⟩, by omega⟩
    rintro e w' ⟨a1, n1, q1, rfl, rfl, r1, r2, r3⟩
    rw [hhas]
    exact ⟨a1, _, q1, rfl, hW.later r3, a1, q1, rfl, r1, r2⟩
  have cA : Hid (∀ W, DeedL w 2 i (.slice ka key.length kc) (.slice ea en ec) lim (.int .i64 0) (.int .i64 vs.length) (.slice none 0 0) (.slice none 0 0) W → Rows (kRow kEnt) (fun b => ok b ∧ b ≠ w.heap.size + 1) W base 34 (.slice (some ⟨g, 0, none⟩) vs.length cap) vs ∧ Fresh (fun b => ok b ∧ b ≠ w.heap.size + 1) W ∧ base ≤ W.heap.size) := fun W hW => deed_rows hR hbase hok hW
  have H0 := put_by (deedL_new w 2 i (.slice ka key.length kc) (.slice ea en ec) lim (.int .i64 0) (.int .i64 0) (.slice none 0 0) (.slice none 0 0) 50 53 53)
  have z0 : ((w.alloc (.cells #[.int .i64 2, .int .i64 i, .slice ka key.length kc, .slice ea en ec, .int .i64 lim] 50)).alloc (.cells #[.int .i64 0, .int .i64 0, .slice none 0 0, .slice none 0 0] 53)).cell? ⟨g, i, none⟩ = some (.slice la l.length lc) :=
    ((playL_new w 2 i (.slice ka key.length kc) (.slice ea en ec) lim 50 53).told.below.cell (p := ⟨g, i, none⟩) hg).trans g0
  have HKK : Hid (okk = fun b => (ok b ∧ b ≠ w.heap.size + 1) ∧ (Value.slice (some ⟨g, 0, none⟩) vs.length cap).ownBlock ≠ some b) := hokk
  have HG := put_by hg
  have HT := put_by hfew
  have i1 : (i : Int) < (vs.length : Int) := by omega
  generalize hpost : (fun e w' => RefPost base ok (vs ++ [dropK l key]) ⟨0, vs.length, [], []⟩ (.slice (some ⟨g, 0, none⟩) vs.length cap) w e w') = R
  have HO : Hid (∀ w', ¬ R .outgrown w') := fun w' hh => by
    rw [← hpost] at hh
    exact refPost_returned hh
  have HR := put_by hpost
  clear hpost hi hfew hR hok hl hlf hk g0 hokk hbase hhas
  generalize hnl : dropK l key = nl at *
  clear hnl
  generalize key.length = kn at *
  generalize l.length = ln at *
  obtain ⟨n, hn⟩ : ∃ n, n = vs.length := ⟨_, rfl⟩
  have HN := put_by hn
  rw [← hn] at cA HKK HT i1 HR ⊢
  clear hn
  go_enter Try.func23, Try.ntmps23
  go_wp2_with (first
    | (go_at_call 35; refine (c1.out _ H0.out).mono ?_; clear c1; rintro e w1 ⟨a3, n3, q3, rfl, H1⟩; obtain ⟨-, -, -, -, -, -, -, ⟨k0, k1, k2, k3, v0, v1, v2, v3⟩⟩ := id H1.out.1))
  obtain ⟨W2, hW2⟩ : ∃ W2, w1.setCell ⟨w.heap.size + 1 + 1, 1, none⟩ (.int .i64 n) = W2 := ⟨_, rfl⟩
  have H2 : Hid (DeedL w 2 i (.slice ka kn kc) (.slice ea en ec) lim (.int .i64 0) (.int .i64 n) (.slice none 0 0) (.slice none 0 0) W2.drew ∧ (kRow kEnt).rel (fun b => (ok b ∧ b ≠ w.heap.size + 1) ∧ (Value.slice (some ⟨g, 0, none⟩) n cap).ownBlock ≠ some b) W2.drew nl [.slice a3 n3 q3]) := by
    rw [← hW2, ← HKK.out]
    refine ⟨(H1.out.1.put 1 _ (H1.out.1.f.put1 _)).later (Below.refl _ _).drew, ?_⟩
    exact (kRow kEnt).move (Kept.of_below (Below.refl _ _).drew) (fun _ _ q => q) ((kRow kEnt).move (w' := w1.setCell ⟨w.heap.size + 1 + 1, 1, none⟩ (.int .i64 n)) ⟨by simp, fun b _ ho => heap_setCell_other _ _ _ _ ho.2⟩ (fun _ _ ho => ho.1) H1.out.2)
  rw [hW2]
  clear hW2 z0 k0 k1 k2 k3 v0 v1 v2 v3 H1 H0
  obtain ⟨-, -, -, -, -, -, -, ⟨e0, e1, e2, e3, -, -, -, -⟩⟩ := id H2.out.1
  simp only [World.cell?_drew] at e0 e1 e2 e3
  go_region_held3 (fun V => V.cell? ⟨w.heap.size + 1 + 1, 0, none⟩ = some (.int .i64 0) ∧ V.cell? ⟨w.heap.size + 1 + 1, 1, none⟩ = some (.int .i64 n) ∧ V.cell? ⟨w.heap.size + 1 + 1, 2, none⟩ = some (.slice none 0 0) ∧ V.cell? ⟨w.heap.size + 1 + 1, 3, none⟩ = some (.slice none 0 0)) (go_keep) (first
    | (rw [if_pos (by rfl), drew_alloc]; refine wp_of_list rfl (by rintro ⟨_, _, hh⟩; exact HO.out _ hh) (wpList_append_one eltL rfl (.tmp 76) (.tmp 78) rfl base (.slice (some ⟨g, 0, none⟩) n cap) vs rfl (cA.out _ H2.out.1).1 nl [.slice a3 n3 q3] _ _ rfl rfl H2.out.2 (cA.out _ H2.out.1).2.1 (by have := HT.out; have := HN.out; omega) (by decide) (cA.out _ H2.out.1).2.2 (fun v' w5 r1 r2 r3 => ?_)); obtain ⟨va, vn, vc, hv', ⟨s0, s1, s2, s3, -, -, -, -⟩, ⟨t0, t1, t2, t3, u0, u1, u2, u3⟩, x2, x3, H5⟩ := deed_more (cap := cap) HG.out H2.out.1 r1 r2 r3; subst hv'; clear r1 r2 r3; refine list_end ?_))
  obtain ⟨hQ, hA⟩ := H5.out _ rfl
  generalize (((w5.setCell _ _).setCell _ _).setCell _ _).setCell _ _ = W9 at hQ hA ⊢
  go_wp2
  refine bodyPost_ret (v := .tuple #[.agg #[.int .i64 0, .int .i64 n, .slice none 0 0, .slice none 0 0], .slice va vn vc]) (by simp [results, Try.results23, go_sem, asAddr, hQ.c0, hQ.c1, hQ.c2, hQ.c3]) rfl ?_
  rw [← HR.out]
  exact hA

set_option maxRecDepth 100000 in
set_option maxHeartbeats 8000000 in
theorem rdeed_none (ok : Nat → Prop) (vs : List (List Ent)) (i : Nat) (hi : i < vs.length) (l : List Ent) (key : List Int) (hhas : hasK l key = false) (lim : Int) (ka ea la : Option Addr) (kc en ec lc : Nat) (base g cap : Nat) (w : World)
    (hR : Rows (kRow kEnt) ok w base 34 (.slice (some ⟨g, 0, none⟩) vs.length cap) vs) (g0 : w.cell? ⟨g, i, none⟩ = some (.slice la l.length lc)) (hl : Lies kEnt (fun _ => True) w la lc l) (hlf : l.length ≤ 80000)
    (hk : Octs w ka kc key) :
    Calls Try.prog 23 #[.slice (some ⟨g, 0, none⟩) vs.length cap, .agg #[.int .i64 2, .int .i64 i, .slice ka key.length kc, .slice ea en ec, .int .i64 lim]] w fun e w' => RefPost base ok vs ⟨6, 0, [], []⟩ (.slice (some ⟨g, 0, none⟩) vs.length cap) w e w' := by
  have hg : g < w.heap.size := World.block_lt_of_cell? _ _ g0
  have c1 : Hid (∀ W, DeedL w 2 i (.slice ka key.length kc) (.slice ea en ec) lim (.int .i64 0) (.int .i64 0) (.slice none 0 0) (.slice none 0 0) W → Calls Try.prog 35 #[.slice la l.length lc, .slice ka key.length kc] W fun e w' => ∃ (a1 : Option Addr) (n1 q1 : Nat), e = .returned (.tuple #[.slice a1 n1 q1, .bool false]) ∧ Hid (DeedL w 2 i (.slice ka key.length kc) (.slice ea en ec) lim (.int .i64 0) (.int .i64 0) (.slice none 0 0) (.slice none 0 0) w')) := fun W hW => by
    refine (rwithout_any (fun _ => True) l (by omega) key la lc ka kc W (fun b hb => trivial) (hl.later hW.below) (hk.later hW.below)).mono ?_
    rintro e w' ⟨a1, n1, q1, rfl, rfl, r1, r2, r3⟩
    rw [hhas]
    exact ⟨a1, _, q1, rfl, hW.later r3⟩
  have cE : Hid (∀ W, DeedL w 2 i (.slice ka key.length kc) (.slice ea en ec) lim (.int .i64 6) (.int .i64 0) (.slice none 0 0) (.slice none 0 0) W → ∀ W9, W9 = ((((W.setCell ⟨w.heap.size + 1, 0, none⟩ (.int .i64 6)).setCell ⟨w.heap.size + 1, 1, none⟩ (.int .i64 0)).setCell ⟨w.heap.size + 1, 2, none⟩ (.slice none 0 0)).setCell ⟨w.heap.size + 1, 3, none⟩ (.slice none 0 0)) → Quad W9 (w.heap.size + 1) (.int .i64 6) (.int .i64 0) (.slice none 0 0) (.slice none 0 0) ∧ RefPost base ok vs ⟨6, 0, [], []⟩ (.slice (some ⟨g, 0, none⟩) vs.length cap) w (.returned (.tuple #[.agg #[.int .i64 6, .int .i64 0, .slice none 0 0, .slice none 0 0], .slice (some ⟨g, 0, none⟩) vs.length cap])) W9) := fun W hW =>
    ref_kept (f := ⟨6, 0, [], []⟩) hR hW.res hW.below (fd_bare _ _)
  have H0 := put_by (deedL_new w 2 i (.slice ka key.length kc) (.slice ea en ec) lim (.int .i64 0) (.int .i64 0) (.slice none 0 0) (.slice none 0 0) 50 53 53)
  have z0 : ((w.alloc (.cells #[.int .i64 2, .int .i64 i, .slice ka key.length kc, .slice ea en ec, .int .i64 lim] 50)).alloc (.cells #[.int .i64 0, .int .i64 0, .slice none 0 0, .slice none 0 0] 53)).cell? ⟨g, i, none⟩ = some (.slice la l.length lc) :=
    ((playL_new w 2 i (.slice ka key.length kc) (.slice ea en ec) lim 50 53).told.below.cell (p := ⟨g, i, none⟩) hg).trans g0
  have i1 : (i : Int) < (vs.length : Int) := by omega
  generalize hpost : (fun e w' => RefPost base ok vs ⟨6, 0, [], []⟩ (.slice (some ⟨g, 0, none⟩) vs.length cap) w e w') = R
  have HR := put_by hpost
  clear hpost hi hR hl hlf hk g0 hhas
  generalize key.length = kn at *
  generalize l.length = ln at *
  generalize vs.length = n at *
  go_enter Try.func23, Try.ntmps23
  go_wp2_with (first
    | (go_at_call 35; refine (c1.out _ H0.out).mono ?_; clear c1; rintro e w1 ⟨a3, n3, q3, rfl, H1⟩; have H2 := put_by (H1.out.put 0 (.int .i64 6) (H1.out.f.put0 _)); obtain ⟨-, -, -, -, -, -, -, ⟨k0, k1, k2, k3, v0, v1, v2, v3⟩⟩ := id H1.out; obtain ⟨-, -, -, -, -, -, ⟨t0, t1, t2, t3, u0, u1, u2, u3⟩, ⟨y0, y1, y2, y3, -, -, -, -⟩⟩ := id H2.out))
  obtain ⟨hQ, hA⟩ := cE.out _ H2.out _ rfl
  generalize (((World.setCell _ _ _).setCell _ _).setCell _ _).setCell _ _ = W9 at hQ hA ⊢
  refine bodyPost_ret (v := .tuple #[.agg #[.int .i64 6, .int .i64 0, .slice none 0 0, .slice none 0 0], .slice (some ⟨g, 0, none⟩) n cap]) (by simp [results, Try.results23, go_sem, asAddr, hQ.c0, hQ.c1, hQ.c2, hQ.c3]) rfl ?_
  rw [← HR.out]
  exact hA

end Go.Proofs.Ytdjiplheomoljaa

/- The reference's deed: looking a key up. -/
namespace Go.Proofs.Ytdjiplheomoljaa
open Go.ChangeShapes Go.WideShapes Go.ChangeAt Go.RowKit

/-- so far: what the key has in what was gone through -/
def LookI (w : World) (ver : Int) (ku vu : Value) (lim : Int) (l : List Ent) (key : List Int) (code : Int) (u : Value) (W : World) : Prop :=
  DeedL w 3 ver ku vu lim (.int .i64 code) (.int .i64 0) u (.slice none 0 0) W ∧ kFd.rel (fun b => w.heap.size + 1 + 1 + 1 ≤ b) W (lookF l key) [.int .i64 code, .int .i64 0, u, .slice none 0 0]

theorem lookF_snoc (l : List Ent) (e : Ent) (key : List Int) : lookF (l ++ [e]) key = if e.1 = key then ⟨0, 0, e.2, []⟩ else lookF l key := by
  unfold lookF
  rw [lookK_snoc]
  by_cases h : e.1 = key <;> simp [h]

theorem LookI.later {w W W' : World} {ver : Int} {ku vu : Value} {lim : Int} {l : List Ent} {key : List Int} {code : Int} {u : Value} (h : LookI w ver ku vu lim l key code u W) (hb : Below W.heap.size W W') : LookI w ver ku vu lim l key code u W' :=
  ⟨h.1.later hb, kFd.move (Kept.of_below hb) (fun _ _ q => q) h.2⟩

set_option maxRecDepth 100000 in
set_option maxHeartbeats 8000000 in
theorem rdeed_look (ok : Nat → Prop) (vs : List (List Ent)) (i : Nat) (hi : i < vs.length) (l : List Ent) (key : List Int) (lim : Int) (ka ea la : Option Addr) (kc en ec lc : Nat) (base g cap : Nat) (w : World)
    (hR : Rows (kRow kEnt) ok w base 34 (.slice (some ⟨g, 0, none⟩) vs.length cap) vs) (g0 : w.cell? ⟨g, i, none⟩ = some (.slice la l.length lc)) (hl : Lies kEnt (fun _ => True) w la lc l) (hlf : l.length ≤ 80000)
    (hk : Octs w ka kc key) :
    Calls Try.prog 23 #[.slice (some ⟨g, 0, none⟩) vs.length cap, .agg #[.int .i64 3, .int .i64 i, .slice ka key.length kc, .slice ea en ec, .int .i64 lim]] w fun e w' => RefPost base ok vs (lookF l key) (.slice (some ⟨g, 0, none⟩) vs.length cap) w e w' := by
  have hg : g < w.heap.size := World.block_lt_of_cell? _ _ g0
  have cE : Hid (∀ W (code : Int) (a : Option Addr) (m c : Nat), LookI w i (.slice ka key.length kc) (.slice ea en ec) lim l key code (.slice a m c) W → ∀ W9, W9 = ((((W.setCell ⟨w.heap.size + 1, 0, none⟩ (.int .i64 code)).setCell ⟨w.heap.size + 1, 1, none⟩ (.int .i64 0)).setCell ⟨w.heap.size + 1, 2, none⟩ (.slice a m c)).setCell ⟨w.heap.size + 1, 3, none⟩ (.slice none 0 0)) → Quad W9 (w.heap.size + 1) (.int .i64 code) (.int .i64 0) (.slice a m c) (.slice none 0 0) ∧ RefPost base ok vs (lookF l key) (.slice (some ⟨g, 0, none⟩) vs.length cap) w (.returned (.tuple #[.agg #[.int .i64 code, .int .i64 0, .slice a m c, .slice none 0 0], .slice (some ⟨g, 0, none⟩) vs.length cap])) W9) := fun W code a m c hW => by
    have hf := hW.2
    obtain ⟨v9, a9, c9, e9, -, -, -⟩ := id hf
    simp only [List.cons.injEq, Value.int.injEq, true_and, and_true] at e9
    obtain ⟨e1, e2, -, -⟩ := e9
    have hq := kFd.move (w' := W) (ok' := fun b => w.heap.size ≤ b ∧ b ≠ w.heap.size + 1) (Kept.of_below (Below.refl _ _)) (fun b _ hb => ⟨by omega, by omega⟩) hf
    rw [e1, e2] at hq ⊢
    exact ref_kept (f := lookF l key) hR hW.1.res hW.1.below hq
  have H0 : Hid (LookI w i (.slice ka key.length kc) (.slice ea en ec) lim [] key 6 (.slice none 0 0) (((w.alloc (.cells #[.int .i64 3, .int .i64 i, .slice ka key.length kc, .slice ea en ec, .int .i64 lim] 50)).alloc (.cells #[.int .i64 0, .int .i64 0, .slice none 0 0, .slice none 0 0] 53)).alloc (.cells #[.int .i64 6, .int .i64 0, .slice none 0 0, .slice none 0 0] 53))) :=
    ⟨deedL_new _ _ _ _ _ _ _ _ _ _ _ _ _, fd_bare 6 0⟩
  have z0 : ((w.alloc (.cells #[.int .i64 3, .int .i64 i, .slice ka key.length kc, .slice ea en ec, .int .i64 lim] 50)).alloc (.cells #[.int .i64 0, .int .i64 0, .slice none 0 0, .slice none 0 0] 53)).cell? ⟨g, i, none⟩ = some (.slice la l.length lc) :=
    ((playL_new w 3 i (.slice ka key.length kc) (.slice ea en ec) lim 50 53).told.below.cell (p := ⟨g, i, none⟩) hg).trans g0
  have HL := put_by (And.intro hl hk)
  have HLF := put_by hlf
  have i1 : (i : Int) < (vs.length : Int) := by omega
  generalize hpost : (fun e w' => RefPost base ok vs (lookF l key) (.slice (some ⟨g, 0, none⟩) vs.length cap) w e w') = R
  have HR := put_by hpost
  clear hpost hi hR hl hlf hk g0
  obtain ⟨kn, hkn⟩ : ∃ kn, kn = key.length := ⟨_, rfl⟩
  have HKN := put_by hkn
  rw [← hkn] at cE H0 z0 ⊢
  clear hkn
  obtain ⟨ln, hln⟩ : ∃ ln, ln = l.length := ⟨_, rfl⟩
  have HLN := put_by hln
  rw [← hln] at z0 HLF
  clear hln
  generalize vs.length = n at *
  have hl8 : ln ≤ 80000 := HLF.out
  go_enter Try.func23, Try.ntmps23
  go_wp2
  generalize ((w.alloc (.cells #[.int .i64 3, .int .i64 i, .slice ka kn kc, .slice ea en ec, .int .i64 lim] 50)).alloc (.cells #[.int .i64 0, .int .i64 0, .slice none 0 0, .slice none 0 0] 53)).alloc (.cells #[.int .i64 6, .int .i64 0, .slice none 0 0, .slice none 0 0] 53) = W0 at H0 ⊢
  clear z0
  go_loopw [85] (fun j wr => ∃ (k : Nat) (code : Int) (a : Option Addr) (m c : Nat), k ≤ ln ∧ j = .int .i64 k ∧ Hid (LookI w i (.slice ka kn kc) (.slice ea en ec) lim (l.take k) key code (.slice a m c) wr)) (fun j _ => ln - (intOf j).toNat)
  case atStart => exact ⟨0, 6, none, 0, 0, Nat.zero_le _, rfl, H0.out⟩
  case round =>
    obtain ⟨k, code, a, m, c, hk, rfl, HI⟩ := hrel
    by_cases hlt : k < ln
    · have hx : k < l.length := by rw [← HLN.out]; exact hlt
      obtain ⟨b4, off, rfl, hb4, _, cs, ⟨u, v, rfl, hu, hv⟩, hc⟩ := HL.out.1.at hx
      obtain ⟨xa, xc, rfl, hxo, -⟩ := id hu
      obtain ⟨ya, yc, rfl, hyo, -⟩ := id hv
      have hB := HI.out.1.below
      have d0 : wr.cell? ⟨b4, off + k * 2, none⟩ = some (.slice xa (l[k]).1.length xc) := (hB.cell (p := ⟨b4, off + k * 2, none⟩) hb4).trans (by simpa using hc 0 _ rfl)
      have d1 : wr.cell? ⟨b4, off + k * 2 + 1, none⟩ = some (.slice ya (l[k]).2.length yc) := (hB.cell (p := ⟨b4, off + k * 2 + 1, none⟩) hb4).trans (hc 1 _ rfl)
      obtain ⟨Wa, hWa⟩ : ∃ Wa, Wa = wr.alloc (.cells #[.slice xa (l[k]).1.length xc, .slice ya (l[k]).2.length yc] 57) := ⟨_, rfl⟩
      have hba : Below wr.heap.size wr Wa := by rw [hWa]; exact (Below.refl _ wr).alloc (Nat.le_refl _) _
      have hTe : Two Wa wr.heap.size (.slice xa (l[k]).1.length xc) (.slice ya (l[k]).2.length yc) := by rw [hWa]; exact Two.new _ _ _ _
      have HIa := put_by (HI.out.later hba)
      have dk := HIa.out.1.c2
      have cS : Hid (Calls Try.prog 36 #[.slice xa (l[k]).1.length xc, .slice ka kn kc] Wa fun e w2 => e = .returned (.bool (decide ((l[k]).1 = key))) ∧ Hid (LookI w i (.slice ka kn kc) (.slice ea en ec) lim (l.take k) key code (.slice a m c) w2 ∧ Two w2 wr.heap.size (.slice xa (l[k]).1.length xc) (.slice ya (l[k]).2.length yc))) := by
        have hBa := HIa.out.1.below
        have := bytesSame_any xa ka xc kc (l[k]).1 key Wa (hxo.later hBa) (HL.out.2.later hBa)
        rw [← HKN.out] at this
        refine this.mono ?_
        rintro e w2 ⟨rfl, rfl⟩
        exact ⟨rfl, HIa.out, hTe⟩
      have cO : Hid (∀ W, DeedL w 3 i (.slice ka kn kc) (.slice ea en ec) lim (.int .i64 0) (.int .i64 0) (.slice a m c) (.slice none 0 0) W → Calls Try.prog 34 #[.slice ya (l[k]).2.length yc] W fun e w4 => ∃ (a1 : Option Addr) (n1 q1 : Nat), e = .returned (.slice a1 n1 q1) ∧ Hid (DeedL w 3 i (.slice ka kn kc) (.slice ea en ec) lim (.int .i64 0) (.int .i64 0) (.slice a m c) (.slice none 0 0) w4 ∧ n1 = (l[k]).2.length ∧ IsBody w4 (fun b => w.heap.size + 1 + 1 + 1 ≤ b) (.slice a1 n1 q1) (l[k]).2)) := fun W hW => by
        refine (ownBytes_any ya yc (l[k]).2 W (hyo.later hW.below)).mono ?_
        rintro e w4 ⟨a1, q1, rfl, r1, r2, r3⟩
        exact ⟨a1, _, q1, rfl, hW.later r3, rfl, a1, q1, rfl, r1, fun _ ad hd => by have := r2 ad hd; have := hW.size; show w.heap.size + 1 + 1 + 1 ≤ ad.block; omega⟩
      have HS : Hid (l.take (k + 1) = l.take k ++ [l[k]]) := List.take_succ_eq_append_getElem hx
      have ik : (k : Int) < (ln : Int) := by omega
      have hws := HI.out.1.size
      subst hWa
      clear hc hu hv hxo hyo hba HIa hB
      generalize hi1 : (l[k]).1.length = x1 at d0 cS hTe dk
      generalize hi2 : (l[k]).2.length = x2 at d1 cS cO hTe dk
      have HI2 := put_by hi2
      clear hi1 hi2
      obtain ⟨p0, p1, -, -⟩ := hTe
      by_cases he : (l[k]).1 = key
      · have e1 : decide ((l[k]).1 = key) = true := decide_eq_true he
        have HE := put_by he
        rw [e1] at cS
        clear e1 he
        go_wp2_with (first
          | (go_at_call 36; refine cS.out.mono ?_; clear cS; rintro e w2 ⟨rfl, H2⟩; have H3 := put_by (H2.out.1.1.put 0 (.int .i64 0) (H2.out.1.1.f.put0 _)); obtain ⟨-, -, -, -, -, -, -, ⟨k0, k1, k2, k3, v0, v1, v2, v3⟩⟩ := id H2.out.1.1; obtain ⟨y0, y1, -, -⟩ := id H2.out.2; have y1' := (World.cell?_setCell_far w2 ⟨w.heap.size + 1 + 1, 0, none⟩ ⟨wr.heap.size, 1, none⟩ (.int .i64 0) (by show w.heap.size + 1 + 1 ≠ wr.heap.size; omega)).trans y1)
          | (go_at_call 34; refine (cO.out _ H3.out).mono ?_; clear cO; rintro e w4 ⟨a1, n1, q1, rfl, H4⟩; obtain ⟨-, -, -, -, -, -, -, ⟨m0, m1, m2, m3, o0, o1, o2, o3⟩⟩ := id H4.out.1))
        have HN : Hid (LookI w i (.slice ka kn kc) (.slice ea en ec) lim (l.take (k + 1)) key 0 (.slice a1 n1 q1) (w4.setCell ⟨w.heap.size + 1 + 1, 2, none⟩ (.slice a1 n1 q1))) := by
          refine ⟨H4.out.1.put 2 _ (H4.out.1.f.put2 _), ?_⟩
          rw [HS.out, lookF_snoc, if_pos HE.out]
          have h5 := H4.out.2.2
          have h6 := H4.out.2.1
          rw [← HI2.out] at h6
          rw [h6] at h5 ⊢
          exact kFd.move (w := w4) ⟨by simp, fun b _ ho => heap_setCell_other _ _ _ _ (by show b ≠ w.heap.size + 1 + 1; omega)⟩ (fun _ _ q => q) (fd_val h5)
        go_roundw
        case rel => exact ⟨k + 1, 0, a1, n1, q1, by omega, by go_num, HN.out⟩
        case measure => simp [intOf]; omega
      · have e1 : decide ((l[k]).1 = key) = false := decide_eq_false he
        have HE := put_by he
        rw [e1] at cS
        clear e1 he cO
        go_wp2_with (first
          | (go_at_call 36; refine cS.out.mono ?_; clear cS; rintro e w2 ⟨rfl, H2⟩))
        have HN : Hid (LookI w i (.slice ka kn kc) (.slice ea en ec) lim (l.take (k + 1)) key code (.slice a m c) w2) := by
          have := H2.out.1
          unfold LookI at this ⊢
          rw [HS.out, lookF_snoc, if_neg HE.out]
          exact this
        go_roundw
        case rel => exact ⟨k + 1, code, a, m, c, by omega, by go_num, HN.out⟩
        case measure => simp [intOf]; omega
    · have hkn : k = ln := by omega
      subst hkn
      have HI' : Hid (LookI w i (.slice ka kn kc) (.slice ea en ec) lim l key code (.slice a m c) wr) := by
        have h := HI.out
        rw [List.take_of_length_le (by rw [← HLN.out]; exact Nat.le_refl _)] at h
        exact h
      obtain ⟨-, -, -, -, -, -, ⟨t0, t1, t2, t3, u0, u1, u2, u3⟩, ⟨y0, y1, y2, y3, -, -, -, -⟩⟩ := id HI'.out.1
      clear HI HL
      go_wp2
      obtain ⟨hQ, hA⟩ := cE.out _ _ _ _ _ HI'.out _ rfl
      generalize (((World.setCell _ _ _).setCell _ _).setCell _ _).setCell _ _ = W9 at hQ hA ⊢
      refine bodyPost_ret (v := .tuple #[.agg #[.int .i64 code, .int .i64 0, .slice a m c, .slice none 0 0], .slice (some ⟨g, 0, none⟩) n cap]) (by simp [results, Try.results23, go_sem, asAddr, hQ.c0, hQ.c1, hQ.c2, hQ.c3]) rfl ?_
      rw [← HR.out]
      exact hA

end Go.Proofs.Ytdjiplheomoljaa

/- The reference's deed: a scan. -/
namespace Go.Proofs.Ytdjiplheomoljaa
open Go.ChangeShapes Go.WideShapes Go.ChangeAt Go.RowKit

theorem scanK_in (l : List Ent) (e : Ent) (lo hi : List Int) (n : Nat) (hw : within lo hi e.1 = true) (hn : (scanK l lo hi n).length < n) : scanK (l ++ [e]) lo hi n = scanK l lo hi n ++ [e] := by
  unfold scanK at hn ⊢
  rw [List.length_take] at hn
  have hlen : (l.filter (fun e => within lo hi e.1)).length < n := by omega
  rw [List.filter_append, List.take_of_length_le (Nat.le_of_lt hlen)]
  have : [e].filter (fun e => within lo hi e.1) = [e] := by simp [hw]
  rw [this, List.take_of_length_le (by simp; omega)]

theorem scanK_full (l : List Ent) (e : Ent) (lo hi : List Int) (n : Nat) (hn : ¬ (scanK l lo hi n).length < n) : scanK (l ++ [e]) lo hi n = scanK l lo hi n := by
  unfold scanK at hn ⊢
  rw [List.length_take] at hn
  have hlen : n ≤ (l.filter (fun e => within lo hi e.1)).length := by omega
  rw [List.filter_append, List.take_append_of_le_length hlen]

theorem scanK_out (l : List Ent) (e : Ent) (lo hi : List Int) (n : Nat) (hw : within lo hi e.1 = false) : scanK (l ++ [e]) lo hi n = scanK l lo hi n := by
  unfold scanK
  rw [List.filter_append]
  have : [e].filter (fun e => within lo hi e.1) = [] := by simp [hw]
  rw [this, List.append_nil]

theorem scanK_len (l : List Ent) (lo hi : List Int) (n : Nat) : (scanK l lo hi n).length ≤ l.length := by
  unfold scanK
  rw [List.length_take]
  exact Nat.le_trans (Nat.min_le_right _ _) (List.length_filter_le _ _)

/-- so far: what lies there of what was gone through -/
structure ScanJ (w : World) (ver : Int) (ku vu : Value) (lim : Int) (res : List Ent) (u : Value) (W : World) : Prop where
  deed : DeedL w 4 ver ku vu lim (.int .i64 0) (.int .i64 0) (.slice none 0 0) u W
  rows : Rows kEnt (fun b => w.heap.size + 1 + 1 + 1 ≤ b) W (w.heap.size + 1 + 1 + 1) 57 u res

theorem ScanJ.later {w W W' : World} {ver : Int} {ku vu : Value} {lim : Int} {res : List Ent} {u : Value} (h : ScanJ w ver ku vu lim res u W) (hb : Below W.heap.size W W') : ScanJ w ver ku vu lim res u W' :=
  ⟨h.deed.later hb, h.rows.later hb⟩

/-- in the midst of a round: the entry in its variable -/
def ScanE (w : World) (ver : Int) (ku vu : Value) (lim : Int) (res : List Ent) (u : Value) (B : Nat) (x y : Value) (W : World) : Prop :=
  ScanJ w ver ku vu lim res u W ∧ Two W B x y

theorem ScanE.later {w W W' : World} {ver : Int} {ku vu : Value} {lim : Int} {res : List Ent} {u : Value} {B : Nat} {x y : Value} (h : ScanE w ver ku vu lim res u B x y W) (hb : Below W.heap.size W W') : ScanE w ver ku vu lim res u B x y W' :=
  ⟨h.1.later hb, h.2.later hb⟩

/-- one more was appended -/
theorem ScanE.more {w W w5 : World} {ver : Int} {ku vu : Value} {lim : Int} {res res' : List Ent} {u u' : Value} {B : Nat} {x y : Value} (h : ScanE w ver ku vu lim res u B x y W) (hB : ∀ g, u.ownBlock = some g → g ≠ B) (q1 : Rows kEnt (fun b => w.heap.size + 1 + 1 + 1 ≤ b) w5 (w.heap.size + 1 + 1 + 1) 57 u' res') (q2 : W.grownBy w5 u.ownBlock) :
    Two w5 B x y ∧ Quad w5 (w.heap.size + 1 + 1) (.int .i64 0) (.int .i64 0) (.slice none 0 0) u ∧ ScanJ w ver ku vu lim res' u' (w5.setCell ⟨w.heap.size + 1 + 1, 3, none⟩ u') := by
  have hs := h.1.deed.size
  have hu := rows_lt h.1.rows
  have hlow : ∀ b, b < W.heap.size → b < w.heap.size + 1 + 1 + 1 → w5.heap[b]? = W.heap[b]? := fun b hb hb2 => q2.block b hb (fun e => by have := (hu b e.symm).1; omega)
  have hBW : B < W.heap.size := World.block_lt_of_cell? _ _ h.2.c0
  have hBe : w5.heap[B]? = W.heap[B]? := q2.block B hBW (fun e => hB B e.symm rfl)
  have hd : DeedL w 4 ver ku vu lim (.int .i64 0) (.int .i64 0) (.slice none 0 0) u w5 := h.1.deed.move (below_grown h.1.deed.below h.1.deed.below.size q2 (fun r e => by have := (hu r e).1; omega)) (hlow _ (by omega) (by omega)) (hlow _ (by omega) (by omega)) (hlow _ (by omega) (by omega))
  refine ⟨⟨(World.cell?_of_block (w := W) hBe).trans h.2.c0, (World.cell?_of_block (w := W) hBe).trans h.2.c1, (World.frozen?_of_block (w := W) hBe).trans h.2.f0, (World.frozen?_of_block (w := W) hBe).trans h.2.f1⟩, hd.f, hd.put 3 u' (hd.f.put3 u'), ?_⟩
  exact q1.move ⟨by simp, fun b _ ho => heap_setCell_other _ _ _ _ (by show b ≠ w.heap.size + 1 + 1; omega)⟩ (fun g hg => heap_setCell_other _ _ _ _ (by have := (rows_lt q1 g hg).1; show g ≠ w.heap.size + 1 + 1; omega))

set_option maxRecDepth 100000 in
set_option maxHeartbeats 16000000 in
theorem rdeed_scan (ok : Nat → Prop) (vs : List (List Ent)) (i : Nat) (hi : i < vs.length) (l : List Ent) (lo hi' : List Int) (lim : Int) (hlim : 0 ≤ lim) (ka ea la : Option Addr) (kc ec lc : Nat) (base g cap : Nat) (w : World)
    (hR : Rows (kRow kEnt) ok w base 34 (.slice (some ⟨g, 0, none⟩) vs.length cap) vs) (g0 : w.cell? ⟨g, i, none⟩ = some (.slice la l.length lc)) (hl : Lies kEnt (fun _ => True) w la lc l) (hlf : l.length ≤ 80000)
    (hk : Octs w ka kc lo) (hv : Octs w ea ec hi') :
    Calls Try.prog 23 #[.slice (some ⟨g, 0, none⟩) vs.length cap, .agg #[.int .i64 4, .int .i64 i, .slice ka lo.length kc, .slice ea hi'.length ec, .int .i64 lim]] w fun e w' => RefPost base ok vs ⟨0, 0, [], scanK l lo hi' lim.toNat⟩ (.slice (some ⟨g, 0, none⟩) vs.length cap) w e w' := by
  have hg : g < w.heap.size := World.block_lt_of_cell? _ _ g0
  have cE : Hid (∀ W (a : Option Addr) (m c : Nat), ScanJ w i (.slice ka lo.length kc) (.slice ea hi'.length ec) lim (scanK l lo hi' lim.toNat) (.slice a m c) W → ∀ W9, W9 = ((((W.setCell ⟨w.heap.size + 1, 0, none⟩ (.int .i64 0)).setCell ⟨w.heap.size + 1, 1, none⟩ (.int .i64 0)).setCell ⟨w.heap.size + 1, 2, none⟩ (.slice none 0 0)).setCell ⟨w.heap.size + 1, 3, none⟩ (.slice a m c)) → Quad W9 (w.heap.size + 1) (.int .i64 0) (.int .i64 0) (.slice none 0 0) (.slice a m c) ∧ RefPost base ok vs ⟨0, 0, [], scanK l lo hi' lim.toNat⟩ (.slice (some ⟨g, 0, none⟩) vs.length cap) w (.returned (.tuple #[.agg #[.int .i64 0, .int .i64 0, .slice none 0 0, .slice a m c], .slice (some ⟨g, 0, none⟩) vs.length cap])) W9) := fun W a m c hW => by
    obtain ⟨rfl, h1, h2, -⟩ := rows_lies hW.rows (fun b hb => hb)
    exact ref_kept (f := ⟨0, 0, [], scanK l lo hi' lim.toNat⟩) hR hW.deed.res hW.deed.below ⟨_, a, c, rfl, IsBody.none, h1.move (Kept.of_below (Below.refl _ _)) (fun b _ hb => ⟨by omega, by omega⟩), h2⟩
  have H0 : Hid (ScanJ w i (.slice ka lo.length kc) (.slice ea hi'.length ec) lim [] (.slice none 0 0) (((w.alloc (.cells #[.int .i64 4, .int .i64 i, .slice ka lo.length kc, .slice ea hi'.length ec, .int .i64 lim] 50)).alloc (.cells #[.int .i64 0, .int .i64 0, .slice none 0 0, .slice none 0 0] 53)).alloc (.cells #[.int .i64 0, .int .i64 0, .slice none 0 0, .slice none 0 0] 53))) :=
    ⟨deedL_new _ _ _ _ _ _ _ _ _ _ _ _ _, Rows.nil _ _ _ _ _⟩
  have z0 : ((w.alloc (.cells #[.int .i64 4, .int .i64 i, .slice ka lo.length kc, .slice ea hi'.length ec, .int .i64 lim] 50)).alloc (.cells #[.int .i64 0, .int .i64 0, .slice none 0 0, .slice none 0 0] 53)).cell? ⟨g, i, none⟩ = some (.slice la l.length lc) :=
    ((playL_new w 4 i (.slice ka lo.length kc) (.slice ea hi'.length ec) lim 50 53).told.below.cell (p := ⟨g, i, none⟩) hg).trans g0
  have HL := put_by (And.intro hl (And.intro hk hv))
  have HLF := put_by hlf
  have i1 : (i : Int) < (vs.length : Int) := by omega
  have HLIM := put_by (show ((lim.toNat : Nat) : Int) = lim by omega)
  generalize hpost : (fun e w' => RefPost base ok vs ⟨0, 0, [], scanK l lo hi' lim.toNat⟩ (.slice (some ⟨g, 0, none⟩) vs.length cap) w e w') = R
  have HO : Hid (∀ w', ¬ R .outgrown w') := fun w' hh => by
    rw [← hpost] at hh
    exact refPost_returned hh
  have HR := put_by hpost
  clear hpost hi hR hl hlf hk hv g0
  obtain ⟨kn, hkn⟩ : ∃ kn, kn = lo.length := ⟨_, rfl⟩
  have HKN := put_by hkn
  rw [← hkn] at cE H0 z0 ⊢
  clear hkn
  obtain ⟨en, hen⟩ : ∃ en, en = hi'.length := ⟨_, rfl⟩
  have HEN := put_by hen
  rw [← hen] at cE H0 z0 ⊢
  clear hen
  obtain ⟨ln, hln⟩ : ∃ ln, ln = l.length := ⟨_, rfl⟩
  have HLN := put_by hln
  rw [← hln] at z0 HLF
  clear hln
  generalize vs.length = n at *
  have hl8 : ln ≤ 80000 := HLF.out
  go_enter Try.func23, Try.ntmps23
  go_wp2
  generalize ((w.alloc (.cells #[.int .i64 4, .int .i64 i, .slice ka kn kc, .slice ea en ec, .int .i64 lim] 50)).alloc (.cells #[.int .i64 0, .int .i64 0, .slice none 0 0, .slice none 0 0] 53)).alloc (.cells #[.int .i64 0, .int .i64 0, .slice none 0 0, .slice none 0 0] 53) = W0 at H0 ⊢
  clear z0
  go_loopw [110] (fun j wr => ∃ (k : Nat) (a : Option Addr) (m c : Nat), k ≤ ln ∧ j = .int .i64 k ∧ Hid (ScanJ w i (.slice ka kn kc) (.slice ea en ec) lim (scanK (l.take k) lo hi' lim.toNat) (.slice a m c) wr)) (fun j _ => ln - (intOf j).toNat)
  case atStart =>
    refine ⟨0, none, 0, 0, Nat.zero_le _, rfl, ?_⟩
    have e : scanK (l.take 0) lo hi' lim.toNat = [] := by simp [scanK]
    rw [e]
    exact H0.out
  case round =>
    obtain ⟨k, a, m, c, hk, rfl, HI⟩ := hrel
    by_cases hlt : k < ln
    · have hx : k < l.length := by rw [← HLN.out]; exact hlt
      obtain ⟨b4, off, rfl, hb4, _, cs, ⟨u, v, rfl, hu, hv⟩, hc⟩ := HL.out.1.at hx
      obtain ⟨xa, xc, rfl, hxo, -⟩ := id hu
      obtain ⟨ya, yc, rfl, hyo, -⟩ := id hv
      have hB := HI.out.deed.below
      have d0 : wr.cell? ⟨b4, off + k * 2, none⟩ = some (.slice xa (l[k]).1.length xc) := (hB.cell (p := ⟨b4, off + k * 2, none⟩) hb4).trans (by simpa using hc 0 _ rfl)
      have d1 : wr.cell? ⟨b4, off + k * 2 + 1, none⟩ = some (.slice ya (l[k]).2.length yc) := (hB.cell (p := ⟨b4, off + k * 2 + 1, none⟩) hb4).trans (hc 1 _ rfl)
      obtain ⟨Wa, hWa⟩ : ∃ Wa, Wa = wr.alloc (.cells #[.slice xa (l[k]).1.length xc, .slice ya (l[k]).2.length yc] 57) := ⟨_, rfl⟩
      have hba : Below wr.heap.size wr Wa := by rw [hWa]; exact (Below.refl _ wr).alloc (Nat.le_refl _) _
      have hTe : Two Wa wr.heap.size (.slice xa (l[k]).1.length xc) (.slice ya (l[k]).2.length yc) := by rw [hWa]; exact Two.new _ _ _ _
      obtain ⟨res, hres⟩ : ∃ res, res = scanK (l.take k) lo hi' lim.toNat := ⟨_, rfl⟩
      have HRES := put_by hres
      rw [← hres] at HI
      clear hres
      have HIa : Hid (ScanE w i (.slice ka kn kc) (.slice ea en ec) lim res (.slice a m c) wr.heap.size (.slice xa (l[k]).1.length xc) (.slice ya (l[k]).2.length yc) Wa) := ⟨HI.out.later hba, hTe⟩
      have dk := HIa.out.1.deed.c2
      have c1 : Hid (∀ W, ScanE w i (.slice ka kn kc) (.slice ea en ec) lim res (.slice a m c) wr.heap.size (.slice xa (l[k]).1.length xc) (.slice ya (l[k]).2.length yc) W → Calls Try.prog 37 #[.slice xa (l[k]).1.length xc, .slice ka kn kc] W fun e w2 => e = .returned (.bool (ahead (l[k]).1 lo)) ∧ Hid (ScanE w i (.slice ka kn kc) (.slice ea en ec) lim res (.slice a m c) wr.heap.size (.slice xa (l[k]).1.length xc) (.slice ya (l[k]).2.length yc) w2)) := fun W hW => by
        have hBa := hW.1.deed.below
        have := bytesLess_any xa ka xc kc (l[k]).1 lo W (hxo.later hBa) (HL.out.2.1.later hBa)
        rw [← HKN.out] at this
        refine this.mono ?_
        rintro e w2 ⟨rfl, hb2⟩
        exact ⟨rfl, hW.later hb2⟩
      have c2 : Hid (∀ W, ScanE w i (.slice ka kn kc) (.slice ea en ec) lim res (.slice a m c) wr.heap.size (.slice xa (l[k]).1.length xc) (.slice ya (l[k]).2.length yc) W → Calls Try.prog 37 #[.slice xa (l[k]).1.length xc, .slice ea en ec] W fun e w2 => e = .returned (.bool (ahead (l[k]).1 hi')) ∧ Hid (ScanE w i (.slice ka kn kc) (.slice ea en ec) lim res (.slice a m c) wr.heap.size (.slice xa (l[k]).1.length xc) (.slice ya (l[k]).2.length yc) w2)) := fun W hW => by
        have hBa := hW.1.deed.below
        have := bytesLess_any xa ea xc ec (l[k]).1 hi' W (hxo.later hBa) (HL.out.2.2.later hBa)
        rw [← HEN.out] at this
        refine this.mono ?_
        rintro e w2 ⟨rfl, hb2⟩
        exact ⟨rfl, hW.later hb2⟩
      have c3 : Hid (∀ W, ScanE w i (.slice ka kn kc) (.slice ea en ec) lim res (.slice a m c) wr.heap.size (.slice xa (l[k]).1.length xc) (.slice ya (l[k]).2.length yc) W → Calls Try.prog 34 #[.slice xa (l[k]).1.length xc] W fun e w4 => ∃ (a1 : Option Addr) (n1 q1 : Nat), e = .returned (.slice a1 n1 q1) ∧ Hid (ScanE w i (.slice ka kn kc) (.slice ea en ec) lim res (.slice a m c) wr.heap.size (.slice xa (l[k]).1.length xc) (.slice ya (l[k]).2.length yc) w4 ∧ IsBody w4 (fun b => w.heap.size + 1 + 1 + 1 ≤ b ∧ (Value.slice a m c).ownBlock ≠ some b) (.slice a1 n1 q1) (l[k]).1)) := fun W hW => by
        refine (ownBytes_any xa xc (l[k]).1 W (hxo.later hW.1.deed.below)).mono ?_
        rintro e w4 ⟨a1, q1, rfl, r1, r2, r3⟩
        exact ⟨a1, _, q1, rfl, hW.later r3, a1, q1, rfl, r1, fun _ ad hd => ⟨by have := r2 ad hd; have := hW.1.deed.size; omega, fun e => by have := r2 ad hd; have := (rows_lt hW.1.rows _ e).2; omega⟩⟩
      have c4 : Hid (∀ (W : World) (a1 : Option Addr) (n1 q1 : Nat), (ScanE w i (.slice ka kn kc) (.slice ea en ec) lim res (.slice a m c) wr.heap.size (.slice xa (l[k]).1.length xc) (.slice ya (l[k]).2.length yc) W ∧ IsBody W (fun b => w.heap.size + 1 + 1 + 1 ≤ b ∧ (Value.slice a m c).ownBlock ≠ some b) (.slice a1 n1 q1) (l[k]).1) → Calls Try.prog 34 #[.slice ya (l[k]).2.length yc] W fun e w4 => ∃ (a2 : Option Addr) (n2 q2 : Nat), e = .returned (.slice a2 n2 q2) ∧ Hid (ScanE w i (.slice ka kn kc) (.slice ea en ec) lim res (.slice a m c) wr.heap.size (.slice xa (l[k]).1.length xc) (.slice ya (l[k]).2.length yc) w4 ∧ kEnt.rel (fun b => w.heap.size + 1 + 1 + 1 ≤ b ∧ (Value.slice a m c).ownBlock ≠ some b) w4 l[k] [.slice a1 n1 q1, .slice a2 n2 q2])) := fun W a1 n1 q1 ⟨hW, hb1⟩ => by
        refine (ownBytes_any ya yc (l[k]).2 W (hyo.later hW.1.deed.below)).mono ?_
        rintro e w4 ⟨a2, q2, rfl, r1, r2, r3⟩
        exact ⟨a2, _, q2, rfl, hW.later r3, _, _, rfl, hb1.later r3, a2, q2, rfl, r1, fun _ ad hd => ⟨by have := r2 ad hd; have := hW.1.deed.size; omega, fun e => by have := r2 ad hd; have := (rows_lt hW.1.rows _ e).2; omega⟩⟩
      have HS : Hid (l.take (k + 1) = l.take k ++ [l[k]]) := List.take_succ_eq_append_getElem hx
      have hmr : m = res.length := by
        obtain ⟨a9, c9, e9⟩ := rows_form HI.out.rows
        simp only [Value.slice.injEq] at e9
        exact e9.2.1
      have hm8 : m ≤ 80000 := by
        have h1 := scanK_len (l.take k) lo hi' lim.toNat
        rw [← HRES.out, List.length_take] at h1
        have := HLN.out
        omega
      have HMR := put_by hmr
      have HNX : Hid (∀ b1 b2 : Bool, ahead (l[k]).1 lo = b1 → ahead (l[k]).1 hi' = b2 → (b1 = false → (en = 0 ∨ b2 = true) → (m : Int) < lim → scanK (l.take (k + 1)) lo hi' lim.toNat = res ++ [l[k]]) ∧ ((b1 = true ∨ (en ≠ 0 ∧ b2 = false) ∨ ¬ (m : Int) < lim) → scanK (l.take (k + 1)) lo hi' lim.toNat = res)) := fun b1 b2 e1 e2 => by
        have h9 := HLIM.out
        have h8 := HEN.out
        refine ⟨fun q1 q2 q3 => ?_, fun q => ?_⟩
        · rw [HS.out, HRES.out]
          refine scanK_in _ _ _ _ _ ?_ (by rw [← HRES.out]; omega)
          unfold within
          rw [e1, e2, q1]
          rcases q2 with q2 | q2
          · have : hi' = [] := List.length_eq_zero_iff.1 (by omega)
            simp [this]
          · simp [q2]
        · rw [HS.out, HRES.out]
          rcases q with q | ⟨q1, q2⟩ | q
          · exact scanK_out _ _ _ _ _ (by unfold within; rw [e1, q]; rfl)
          · refine scanK_out _ _ _ _ _ ?_
            have : ¬ hi' = [] := fun e => q1 (by rw [h8, e]; rfl)
            unfold within
            rw [e2, q2]
            simp [this]
          · exact scanK_full _ _ _ _ _ (by rw [← HRES.out]; omega)
      have ik : (k : Int) < (ln : Int) := by omega
      have hws := HI.out.deed.size
      have HOWN : Hid (∀ g, (Value.slice a m c).ownBlock = some g → g ≠ wr.heap.size) := fun g e => by have := (rows_lt HI.out.rows g e).2; omega
      have hne : w.heap.size + 1 + 1 ≠ wr.heap.size := by omega
      subst hWa
      clear hc hu hv hxo hyo hba hB hTe hmr HRES
      generalize hi1 : (l[k]).1.length = x1 at d0 c1 c2 c3 c4 HIa dk
      generalize hi2 : (l[k]).2.length = x2 at d1 c1 c2 c3 c4 HIa dk
      clear hi1 hi2
      obtain ⟨b1, hb1⟩ : ∃ b1, ahead (l[k]).1 lo = b1 := ⟨_, rfl⟩
      obtain ⟨b2, hb2⟩ : ∃ b2, ahead (l[k]).1 hi' = b2 := ⟨_, rfl⟩
      have HNY := put_by (HNX.out b1 b2 hb1 hb2)
      rw [hb1] at c1
      rw [hb2] at c2
      clear HNX hb1 hb2
      obtain ⟨-, ⟨p0, p1, -, -⟩⟩ := id HIa.out
      have hcase : b1 = true ∨ (b1 = false ∧ en = 0 ∧ lim ≤ (m : Int)) ∨ (b1 = false ∧ ((en : Int) == 0) = false ∧ b2 = false) ∨ (b1 = false ∧ ((en : Int) == 0) = false ∧ b2 = true ∧ lim ≤ (m : Int)) ∨ (b1 = false ∧ en = 0 ∧ (m : Int) < lim) ∨ (b1 = false ∧ ((en : Int) == 0) = false ∧ b2 = true ∧ (m : Int) < lim) := by
        by_cases h0 : en = 0
        · cases b1
          · by_cases hm : (m : Int) < lim
            · exact .inr (.inr (.inr (.inr (.inl ⟨rfl, h0, hm⟩))))
            · exact .inr (.inl ⟨rfl, h0, by omega⟩)
          · exact .inl rfl
        · have h1 : ((en : Int) == 0) = false := by rw [beq_eq_false_iff_ne]; omega
          cases b1
          · cases b2
            · exact .inr (.inr (.inl ⟨rfl, h1, rfl⟩))
            · by_cases hm : (m : Int) < lim
              · exact .inr (.inr (.inr (.inr (.inr ⟨rfl, h1, rfl, hm⟩))))
              · exact .inr (.inr (.inr (.inl ⟨rfl, h1, rfl, by omega⟩)))
          · exact .inl rfl
      have hout : ∀ V, Hid (ScanE w i (.slice ka kn kc) (.slice ea en ec) lim res (.slice a m c) wr.heap.size (.slice xa x1 xc) (.slice ya x2 yc) V) → scanK (l.take (k + 1)) lo hi' lim.toNat = res → Hid (ScanJ w i (.slice ka kn kc) (.slice ea en ec) lim (scanK (l.take (k + 1)) lo hi' lim.toNat) (.slice a m c) V) := fun V h1 h2 => by rw [h2]; exact h1.out.1
      rcases hcase with rfl | ⟨rfl, rfl, hm⟩ | ⟨rfl, h0, rfl⟩ | ⟨rfl, h0, rfl, hm⟩ | ⟨rfl, rfl, hm⟩ | ⟨rfl, h0, rfl, hm⟩
      all_goals
        go_wp2_with (first
          | (go_at_call 37; (with_reducible refine (c1.out _ HIa.out).mono ?_); clear c1; rintro e w2 ⟨rfl, H2⟩; obtain ⟨⟨⟨-, -, -, j2, j3, j4, -, ⟨k0, k1, k2, k3, v0, v1, v2, v3⟩⟩, -⟩, ⟨y0, y1, -, -⟩⟩ := id H2.out)
          | (go_at_call 37; (with_reducible refine (c2.out _ H2.out).mono ?_); clear c2 H2; rintro e w2 ⟨rfl, H2⟩; obtain ⟨⟨⟨-, -, -, l2, l3, l4, -, ⟨m0, m1, m2, m3, o0, o1, o2, o3⟩⟩, -⟩, ⟨r0, r1, -, -⟩⟩ := id H2.out))
      · have HN := hout _ H2 (HNY.out.2 (by simp))
        go_roundw
        case rel => exact ⟨k + 1, a, m, c, by omega, by go_num, HN.out⟩
        case measure => simp [intOf]; omega
      · have HN := hout _ H2 (HNY.out.2 (.inr (.inr (by omega))))
        go_roundw
        case rel => exact ⟨k + 1, a, m, c, by omega, by go_num, HN.out⟩
        case measure => simp [intOf]; omega
      · have HN := hout _ H2 (HNY.out.2 (.inr (.inl ⟨by simpa using h0, by simp⟩)))
        go_roundw
        case rel => exact ⟨k + 1, a, m, c, by omega, by go_num, HN.out⟩
        case measure => simp [intOf]; omega
      · have HN := hout _ H2 (HNY.out.2 (.inr (.inr (by omega))))
        go_roundw
        case rel => exact ⟨k + 1, a, m, c, by omega, by go_num, HN.out⟩
        case measure => simp [intOf]; omega
      all_goals
        have hnx : scanK (l.take (k + 1)) lo hi' lim.toNat = res ++ [l[k]] := HNY.out.1 (by simp) (by simp) hm
        have HNX := put_by hnx
        have HD := put_by (H2.out.later (Below.refl _ _).drew)
        clear hnx HNY hout HIa
        obtain ⟨⟨⟨-, -, -, -, -, -, -, ⟨-, -, -, g3, -, -, -, -⟩⟩, -⟩, ⟨s0, s1, -, -⟩⟩ := id HD.out
        generalize hV2 : w2.drew = V2 at HD g3 s0 s1
        refine region_plain (fun V => V.cell? ⟨wr.heap.size, 0, none⟩ = some (.slice xa x1 xc) ∧ V.cell? ⟨wr.heap.size, 1, none⟩ = some (.slice ya x2 yc) ∧ V.cell? ⟨w.heap.size + 1 + 1, 3, none⟩ = some (.slice a m c)) 12 (by kernel_rfl) ?_
        rw [hV2]
        have hS := And.intro s0 (And.intro s1 g3)
        refine U_takeX [12, 10, 1] (k := 0) (v := .pointer (some ⟨w.heap.size + 1 + 1, 3, none⟩)) rfl (by kernel_rfl) (by kernel_rfl) (by kernel_rfl) (by kernel_rfl) (by kernel_rfl) (by kernel_rfl) (fun _ _ _ h => h) (Or.inl ⟨by rfl, fun V hV => ?_⟩) hS ?_
        · obtain ⟨z0, z1, z2⟩ := hV; go_simp
        simp only [Act.put, List.setIfInBounds_toArray]
        refine U_takeX [12, 10] (k := 1) (v := .slice a m c) rfl (by kernel_rfl) (by kernel_rfl) (by kernel_rfl) (by kernel_rfl) (by kernel_rfl) (by kernel_rfl) (fun _ _ _ h => h) (Or.inl ⟨by rfl, fun V hV => ?_⟩) hS ?_
        · obtain ⟨z0, z1, z2⟩ := hV; go_simp
        simp only [Act.put]
        refine U_takeX [12, 10, 7, 4, 3] (k := 2) (v := .pointer (some ⟨wr.heap.size, 0, none⟩)) rfl (by kernel_rfl) (by kernel_rfl) (by kernel_rfl) (by kernel_rfl) (by kernel_rfl) (by kernel_rfl) (fun _ _ _ h => h) (Or.inl ⟨by rfl, fun V hV => ?_⟩) hS ?_
        · obtain ⟨z0, z1, z2⟩ := hV; go_simp
        simp only [Act.put]
        refine U_takeX [12, 10, 7, 4] (k := 3) (v := .slice xa x1 xc) rfl (by kernel_rfl) (by kernel_rfl) (by kernel_rfl) (by kernel_rfl) (by kernel_rfl) (by kernel_rfl) (fun _ _ _ h => h) (Or.inl ⟨by rfl, fun V hV => ?_⟩) hS ?_
        · obtain ⟨z0, z1, z2⟩ := hV; go_simp
        simp only [Act.put]
        refine U_takeX [12, 10, 7, 6] (k := 5) (v := .pointer (some ⟨wr.heap.size, 1, none⟩)) rfl (by kernel_rfl) (by kernel_rfl) (by kernel_rfl) (by kernel_rfl) (by kernel_rfl) (by kernel_rfl) (fun _ _ _ h => h) (Or.inl ⟨by rfl, fun V hV => ?_⟩) hS ?_
        · obtain ⟨z0, z1, z2⟩ := hV; go_simp
        simp only [Act.put]
        refine U_takeX [12, 10, 7] (k := 6) (v := .slice ya x2 yc) rfl (by kernel_rfl) (by kernel_rfl) (by kernel_rfl) (by kernel_rfl) (by kernel_rfl) (by kernel_rfl) (fun _ _ _ h => h) (Or.inl ⟨by rfl, fun V hV => ?_⟩) hS ?_
        · obtain ⟨z0, z1, z2⟩ := hV; go_simp
        simp only [Act.put]
        refine U_one (i := 4) (by kernel_rfl) rfl rfl rfl (fun K hK => ?_)
        go_simp
        refine (c3.out _ HD.out).mono ?_
        rintro e w3 ⟨a1, n1, q1, rfl, H3⟩
        obtain ⟨⟨⟨-, -, -, -, -, -, -, ⟨-, -, -, g4, -, -, -, -⟩⟩, -⟩, ⟨s2, s3, -, -⟩⟩ := id H3.out.1
        refine hK _ _ (fun _ => ⟨s2, s3, g4⟩) ?_
        clear hK K
        refine U_one (i := 7) (by kernel_rfl) rfl rfl rfl (fun K hK => ?_)
        go_simp
        refine (c4.out _ _ _ _ H3.out).mono ?_
        rintro e w4 ⟨a2, n2, q2, rfl, H4⟩
        obtain ⟨⟨⟨-, -, -, -, -, -, -, ⟨-, -, -, g5, -, -, -, -⟩⟩, -⟩, ⟨s4, s5, -, -⟩⟩ := id H4.out.1
        refine hK _ _ (fun _ => ⟨s4, s5, g5⟩) ?_
        clear hK K
        refine U_one (i := 8) (by kernel_rfl) rfl rfl rfl (fun K hK => ?_)
        go_simp
        refine hK _ _ (fun _ => ⟨s4, s5, g5⟩) ?_
        clear hK K
        refine U_one (i := 9) (by kernel_rfl) rfl rfl rfl (fun K hK => ?_)
        go_simp
        refine hK _ _ (fun _ => by simp [World.cell?_alloc_some, s4, s5, g5]) ?_
        clear hK K
        refine U_one (i := 10) (by kernel_rfl) rfl rfl rfl (fun K hK => ?_)
        refine wp_of_list rfl (by rintro ⟨_, _, hh⟩; exact HO.out _ hh) (wpList_append_one eltE rfl (.tmp 142) (.tmp 150) rfl (w.heap.size + 1 + 1 + 1) (.slice a m c) res rfl H4.out.1.1.rows l[k] [.slice a1 n1 q1, .slice a2 n2 q2] _ _ rfl rfl H4.out.2 (fun b hb => by have := H4.out.1.1.deed.size; show w.heap.size + 1 + 1 + 1 ≤ b; omega) (by have := HMR.out; omega) (by decide) (by have := H4.out.1.1.deed.size; omega) (fun v' w5 r1 r2 r3 => ?_))
        obtain ⟨⟨t0, t1, -, -⟩, ⟨-, -, -, f3, -, -, -, ff⟩, hJ⟩ := H4.out.1.more HOWN.out r1 r2
        obtain ⟨va, vc, hv'⟩ := rows_form r1
        generalize (res ++ [l[k]]).length = vn at hv'
        subst hv'
        rw [← HNX.out] at hJ
        have HJ := put_by hJ
        clear hJ r1 r2 r3
        refine hK _ _ (fun _ => ⟨t0, t1, f3⟩) ?_
        clear hK K
        refine U_one (i := 11) (by kernel_rfl) rfl rfl rfl (fun K hK => ?_)
        go_simp
        refine hK _ _ (fun _ => ⟨t0, t1, f3⟩) ?_
        clear hK K
        refine U_one (i := 12) (by kernel_rfl) rfl rfl rfl (fun K hK => ?_)
        go_simp
        refine hK _ _ (fun hh => by cases (show true = false from hh)) ?_
        clear hK K
        refine U_done (by kernel_rfl) ?_ _
        generalize w5.setCell _ _ = W6 at HJ ⊢
        go_wp2
        go_roundw
        case rel => exact ⟨k + 1, va, vn, vc, by omega, by go_num, HJ.out⟩
        case measure => simp [intOf]; omega
    · have hkn : k = ln := by omega
      subst hkn
      have HI' : Hid (ScanJ w i (.slice ka kn kc) (.slice ea en ec) lim (scanK l lo hi' lim.toNat) (.slice a m c) wr) := by
        have h := HI.out
        rw [List.take_of_length_le (by rw [← HLN.out]; exact Nat.le_refl _)] at h
        exact h
      obtain ⟨⟨-, -, -, -, -, -, ⟨t0, t1, t2, t3, u0, u1, u2, u3⟩, ⟨y0, y1, y2, y3, -, -, -, -⟩⟩, -⟩ := id HI'.out
      clear HI HL
      go_wp2
      obtain ⟨hQ, hA⟩ := cE.out _ _ _ _ HI'.out _ rfl
      generalize (((World.setCell _ _ _).setCell _ _).setCell _ _).setCell _ _ = W9 at hQ hA ⊢
      refine bodyPost_ret (v := .tuple #[.agg #[.int .i64 0, .int .i64 0, .slice none 0 0, .slice a m c], .slice (some ⟨g, 0, none⟩) n cap]) (by simp [results, Try.results23, go_sem, asAddr, hQ.c0, hQ.c1, hQ.c2, hQ.c3]) rfl ?_
      rw [← HR.out]
      exact hA

end Go.Proofs.Ytdjiplheomoljaa

/- The reference's deed on a version that is there. -/
namespace Go.Proofs.Ytdjiplheomoljaa
open Go.ChangeShapes Go.WideShapes Go.ChangeAt Go.RowKit

set_option maxRecDepth 100000 in
set_option maxHeartbeats 8000000 in
theorem rdeed_lim (ok : Nat → Prop) (vs : List (List Ent)) (i : Nat) (hi : i < vs.length) (l : List Ent) (kn en : Nat) (lim : Int) (hlim : lim < 0) (ka ea la : Option Addr) (kc ec lc : Nat) (base g cap : Nat) (w : World)
    (hR : Rows (kRow kEnt) ok w base 34 (.slice (some ⟨g, 0, none⟩) vs.length cap) vs) (g0 : w.cell? ⟨g, i, none⟩ = some (.slice la l.length lc)) :
    Calls Try.prog 23 #[.slice (some ⟨g, 0, none⟩) vs.length cap, .agg #[.int .i64 4, .int .i64 i, .slice ka kn kc, .slice ea en ec, .int .i64 lim]] w fun e w' => RefPost base ok vs ⟨2, 0, [], []⟩ (.slice (some ⟨g, 0, none⟩) vs.length cap) w e w' := by
  have hg : g < w.heap.size := World.block_lt_of_cell? _ _ g0
  have z0 : ((w.alloc (.cells #[.int .i64 4, .int .i64 i, .slice ka kn kc, .slice ea en ec, .int .i64 lim] 50)).alloc (.cells #[.int .i64 0, .int .i64 0, .slice none 0 0, .slice none 0 0] 53)).cell? ⟨g, i, none⟩ = some (.slice la l.length lc) :=
    ((playL_new w 4 i (.slice ka kn kc) (.slice ea en ec) lim 50 53).told.below.cell (p := ⟨g, i, none⟩) hg).trans g0
  have HE : Hid (∀ W, Below w.heap.size w W → RefPost base ok vs ⟨2, 0, [], []⟩ (.slice (some ⟨g, 0, none⟩) vs.length cap) w (.returned (.tuple #[.agg #[.int .i64 2, .int .i64 0, .slice none 0 0, .slice none 0 0], .slice (some ⟨g, 0, none⟩) vs.length cap])) W) := fun W hW => ref_new hR hW 2
  have i1 : (i : Int) < (vs.length : Int) := by omega
  have HB : Hid (Below w.heap.size w (((w.alloc (.cells #[.int .i64 4, .int .i64 i, .slice ka kn kc, .slice ea en ec, .int .i64 lim] 50)).alloc (.cells #[.int .i64 2, .int .i64 0, .slice none 0 0, .slice none 0 0] 53)).alloc (.cells #[.int .i64 2, .int .i64 0, .slice none 0 0, .slice none 0 0] 53))) :=
    (((Below.refl _ w).alloc (Nat.le_refl _) _).alloc (by simp) _).alloc (by simp; omega) _
  generalize hpost : (fun e w' => RefPost base ok vs ⟨2, 0, [], []⟩ (.slice (some ⟨g, 0, none⟩) vs.length cap) w e w') = R
  have HR := put_by hpost
  clear hpost hi hR g0
  generalize l.length = ln at *
  generalize vs.length = n at *
  go_enter Try.func23, Try.ntmps23
  go_wp2
  refine bodyPost_ret (v := .tuple #[.agg #[.int .i64 2, .int .i64 0, .slice none 0 0, .slice none 0 0], .slice (some ⟨g, 0, none⟩) n cap]) (by simp [results, Try.results23, go_sem, asAddr]) rfl ?_
  rw [← HR.out]
  exact HE.out _ HB.out

/-- a deed of a kind that is there, on a version that is there -/
theorem rdeed_any (ok : Nat → Prop) (vs : List (List Ent)) (d : Dd) (hk : d.kind = 1 ∨ d.kind = 2 ∨ d.kind = 3 ∨ d.kind = 4) (h0 : 0 ≤ d.ver) (hv : d.ver < (vs.length : Int)) (ka ea : Option Addr) (kc ec : Nat) (base : Nat) (va : Option Addr) (vc : Nat) (w : World)
    (hR : Rows (kRow kEnt) ok w base 34 (.slice va vs.length vc) vs) (hbase : base ≤ w.heap.size) (hok : Fresh ok w) (hfew : vs.length ≤ 90000) (hlf : ∀ l ∈ vs, l.length ≤ 80000) (hkey : Octs w ka kc d.key) (hval : Octs w ea ec d.val) :
    Calls Try.prog 23 #[.slice va vs.length vc, .agg #[.int .i64 d.kind, .int .i64 d.ver, .slice ka d.key.length kc, .slice ea d.val.length ec, .int .i64 d.lim]] w fun e w' => RefPost base ok (deedK vs d).2 (deedK vs d).1 (.slice va vs.length vc) w e w' := by
  obtain ⟨i, hi⟩ : ∃ i : Nat, d.ver = i := ⟨d.ver.toNat, by omega⟩
  have hi2 : i < vs.length := by omega
  have hnow : vs.getD d.ver.toNat [] = vs[i] := by rw [hi]; simp [List.getD, List.getElem?_eq_getElem hi2]
  obtain ⟨g, cap, p, e, hcap, ⟨la, lc, ep, hl, -⟩, g0, -⟩ := rows_one hR hi2
  simp only [Value.slice.injEq, true_and] at e
  obtain ⟨rfl, rfl⟩ := e
  simp only [List.cons.injEq, and_true] at ep
  rw [ep] at g0
  have hT : Lies kEnt (fun _ => True) w la lc vs[i] := hl.move (Kept.of_below (Below.refl _ _)) (fun _ _ _ => trivial)
  have hl8 := hlf _ (List.getElem_mem hi2)
  rw [hi]
  unfold deedK
  simp only [hnow]
  rcases hk with hk | hk | hk | hk <;> rw [hk]
  · simp only [if_true]
    split
    · rename_i h
      exact rdeed_size ok vs i hi2 _ _ _ h d.lim ka ea la kc ec lc base g _ w hR g0
    · rename_i h
      exact rdeed_put ok vs i hi2 _ _ _ (by omega) (by omega) (by omega) d.lim ka ea la kc ec lc base g _ w hR hbase hok hfew hcap g0 hl hl8 hkey hval
  · rw [if_neg (by decide), if_pos rfl]
    split
    · rename_i h
      exact rdeed_drop ok vs i hi2 _ _ h d.lim ka ea la kc _ ec lc base g _ w hR hbase hok hfew g0 hl hl8 hkey
    · rename_i h
      exact rdeed_none ok vs i hi2 _ _ (by simpa using h) d.lim ka ea la kc _ ec lc base g _ w hR g0 hT hl8 hkey
  · rw [if_neg (by decide), if_neg (by decide), if_pos rfl]
    have := rdeed_look ok vs i hi2 _ _ d.lim ka ea la kc d.val.length ec lc base g _ w hR g0 hT hl8 hkey
    unfold lookF at this
    cases h : lookK vs[i] d.key with
    | none => rw [h] at this; exact this
    | some v => rw [h] at this; exact this
  · rw [if_neg (by decide), if_neg (by decide), if_neg (by decide)]
    split
    · rename_i h
      exact rdeed_lim ok vs i hi2 _ _ _ d.lim h ka ea la kc ec lc base g _ w hR g0
    · rename_i h
      exact rdeed_scan ok vs i hi2 _ _ _ d.lim (by omega) ka ea la kc ec lc base g _ w hR g0 hT hl8 hkey hval

end Go.Proofs.Ytdjiplheomoljaa

/- What stands between two deeds of the reference. -/
namespace Go.Proofs.Ytdjiplheomoljaa
open Go.ChangeShapes Go.WideShapes Go.ChangeAt Go.RowKit

/-- between two deeds: the versions in v, what the deeds came to in f, all else as it was -/
structure RefI (w : World) (vs : List (List Ent)) (fs : List Fd) (f v : Value) (W : World) : Prop where
  vers : Rows (kRow kEnt) (fun b => f.ownBlock ≠ some b) W w.heap.size 34 v vs
  fds : Rows kFd (fun b => v.ownBlock ≠ some b) W w.heap.size 53 f fs
  apart : ∀ g, v.ownBlock = some g → f.ownBlock ≠ some g
  below : Below w.heap.size w W

theorem RefI.later {w W W' : World} {vs : List (List Ent)} {fs : List Fd} {f v : Value} (h : RefI w vs fs f v W) (hb : Below W.heap.size W W') : RefI w vs fs f v W' :=
  ⟨h.vers.later hb, h.fds.later hb, h.apart, h.below.trans (hb.mono h.below.size)⟩

/-- a deed is done, and put into the variable B -/
theorem RefI.step {w wr W w2 : World} {B : Nat} {vs vs' : List (List Ent)} {fs : List Fd} {fd : Fd} {f v z0 z1 z2 z3 : Value} {e : Ending} (h : RefI w vs fs f v wr) (hb : Below wr.heap.size wr W) (hB1 : wr.heap.size ≤ B) (hB2 : B < W.heap.size) (hQ : Quad W B z0 z1 z2 z3) (hs : RefPost w.heap.size (fun b => f.ownBlock ≠ some b ∧ b ≠ B) vs' fd v W e w2) :
    ∃ (va : Option Addr) (vn vc : Nat) (a : Option Addr) (n c : Nat) (b : Option Addr) (m d : Nat), e = .returned (.tuple #[.agg #[.int .i64 fd.code, .int .i64 fd.ver, .slice a n c, .slice b m d], .slice va vn vc]) ∧ Quad w2 B z0 z1 z2 z3 ∧
      ∀ W9, W9 = ((((w2.setCell ⟨B, 0, none⟩ (.int .i64 fd.code)).setCell ⟨B, 1, none⟩ (.int .i64 fd.ver)).setCell ⟨B, 2, none⟩ (.slice a n c)).setCell ⟨B, 3, none⟩ (.slice b m d)) →
        Quad W9 B (.int .i64 fd.code) (.int .i64 fd.ver) (.slice a n c) (.slice b m d) ∧ RefI w vs' fs f (.slice va vn vc) W9 ∧ kFd.rel (fun b => (Value.slice va vn vc).ownBlock ≠ some b ∧ f.ownBlock ≠ some b) W9 fd [.int .i64 fd.code, .int .i64 fd.ver, .slice a n c, .slice b m d] := by
  obtain ⟨va, vn, vc, a, n, c, b, m, d, rfl, h1, h2, h3, h4⟩ := hs
  have hfl : ∀ g, f.ownBlock = some g → w.heap.size ≤ g ∧ g < wr.heap.size := rows_lt h.fds
  have hvl : ∀ g, v.ownBlock = some g → w.heap.size ≤ g ∧ g < wr.heap.size := rows_lt h.vers
  have hsz := hb.size
  have hwr := h.below.size
  have hQ2 : Quad w2 B z0 z1 z2 z3 := hQ.move (h3.block B hB2 (fun e => by have := (hvl B e.symm).2; omega))
  refine ⟨va, vn, vc, a, n, c, b, m, d, rfl, hQ2, ?_⟩
  rintro W9 h9
  have hQ9 := hQ2.set (.int .i64 fd.code) (.int .i64 fd.ver) (.slice a n c) (.slice b m d)
  have e9 : ∀ b, b ≠ B → W9.heap[b]? = w2.heap[b]? := fun b hb => by rw [h9]; exact heap_quad _ _ _ _ _ _ hb
  have hs9 : W9.heap.size = w2.heap.size := by rw [h9]; simp
  have ho : W9.os = w2.os ∧ W9.tape = w2.tape ∧ W9.output = w2.output := by rw [h9]; exact ⟨rfl, rfl, rfl⟩
  rw [← h9] at hQ9
  clear h9
  have hv' : ∀ g, (Value.slice va vn vc).ownBlock = some g → g < W.heap.size → g < wr.heap.size := fun g e hg => (hvl g (h4 g e hg)).2
  have hvB : (Value.slice va vn vc).ownBlock ≠ some B := fun e => by have := hv' B e hB2; omega
  refine ⟨hQ9, ⟨?_, ?_, fun g e1 e2 => ?_, ?_⟩, kFd.move ⟨Nat.le_of_eq hs9.symm, fun b _ ho => e9 b (by have := ho.1; omega)⟩ (fun b _ ho => ⟨ho.2, fun e => by have := (hfl b e).2; have := ho.1; omega⟩) h2⟩
  · exact (h1.move ⟨Nat.le_of_eq hs9.symm, fun b _ ho => e9 b ho.2⟩ (fun g hg => e9 g (fun e => hvB (e ▸ hg)))).turned (fun _ _ ho => ho.1)
  · -- what the deeds came to: in blocks that the deed left
    have r1 : Rows kFd (fun b => (v.ownBlock ≠ some b ∧ b ≠ B) ∧ (Value.slice va vn vc).ownBlock ≠ some b) wr w.heap.size 53 f fs := h.fds.turned (fun b hb ho => ⟨⟨ho, by omega⟩, fun e => ho (h4 b e (by omega))⟩)
    have r2 := r1.later hb
    have r3 := r2.move (w' := w2) ⟨h3.size, fun b hb ho => h3.block b hb (fun e => ho.1.1 e.symm)⟩ (fun g hg => h3.block g (by have := (hfl g hg).2; omega) (fun e => h.apart g e.symm hg))
    have r4 := r3.move (w' := W9) ⟨Nat.le_of_eq hs9.symm, fun b _ ho => e9 b ho.1.2⟩ (fun g hg => e9 g (fun e => by have := (hfl g hg).2; omega))
    exact r4.turned (fun b _ ho => ho.2)
  · have hg := (hfl g e2).2
    exact h.apart g (h4 g e1 (by omega)) e2
  · refine ⟨ho.1.trans (h3.os.trans (hb.os.trans h.below.os)), ho.2.1.trans (h3.tape.trans (hb.tape.trans h.below.tape)), ho.2.2.trans (h3.output.trans (hb.output.trans h.below.output)), by have := h3.size; omega, fun b hbw => ?_⟩
    exact (e9 b (by omega)).trans ((h3.block b (by omega) (fun e => by have := (hvl b e.symm).1; omega)).trans ((hb.block b (by omega)).trans (h.below.block b hbw)))

/-- and what it came to is written down -/
theorem RefI.told {w w2 w5 : World} {vs : List (List Ent)} {fs fs' : List Fd} {f f' v : Value} (h : RefI w vs fs f v w2) (q1 : Rows kFd (fun b => v.ownBlock ≠ some b) w5 w.heap.size 53 f' fs') (q2 : w2.grownBy w5 f.ownBlock) (q3 : f'.ownBlock = f.ownBlock ∨ f'.ownBlock = some (w2.heap.size + 1)) : RefI w vs fs' f' v w5 := by
  have hfl : ∀ g, f.ownBlock = some g → w.heap.size ≤ g ∧ g < w2.heap.size := rows_lt h.fds
  have hvl : ∀ g, v.ownBlock = some g → w.heap.size ≤ g ∧ g < w2.heap.size := rows_lt h.vers
  have hf' : ∀ b, b < w2.heap.size → f.ownBlock ≠ some b → f'.ownBlock ≠ some b := fun b hb hne e => by
    rcases q3 with q | q
    · exact hne (by rw [← q, e])
    · rw [q] at e
      have := Option.some.inj e
      omega
  have r1 : Rows (kRow kEnt) (fun b => f'.ownBlock ≠ some b ∧ f.ownBlock ≠ some b) w2 w.heap.size 34 v vs := h.vers.turned (fun b hb ho => ⟨hf' b hb ho, ho⟩)
  have r2 := r1.move (w' := w5) (Kept.of_grown q2 (fun b ho => ho.2)) (fun g hg => q2.block g (hvl g hg).2 (fun e => h.apart g hg e.symm))
  exact ⟨r2.turned (fun b _ ho => ho.1), q1, fun g hg => hf' g (hvl g hg).2 (h.apart g hg), below_grown h.below h.below.size q2 (fun r e => (hfl r e).1)⟩

/-- ahead of the first deed -/
theorem refI_new (w : World) : RefI w [[]] [] (.slice none 0 0) (.slice (some ⟨w.heap.size, 0, none⟩) 1 1) (w.alloc (.cells #[.slice none 0 0] 34)) := by
  have hb : Below w.heap.size w (w.alloc (.cells #[.slice none 0 0] 34)) := (Below.refl _ w).alloc (Nat.le_refl _) _
  refine ⟨⟨[[.slice none 0 0]], ⟨rfl, .inr ⟨w.heap.size, 1, _, rfl, Nat.le_refl _, heap_alloc_new w _, Nat.le_refl _, by decide, rfl, rfl⟩⟩, ⟨⟨none, 0, rfl, Lies.nil _ _ _ (fun _ => rfl), Ples.none⟩, trivial⟩⟩, Rows.nil _ _ _ _ _, (fun _ _ e => by cases e), hb⟩

end Go.Proofs.Ytdjiplheomoljaa

/- All deeds, one by one, by the reference. -/
namespace Go.Proofs.Ytdjiplheomoljaa
open Go.ChangeShapes Go.WideShapes Go.ChangeAt Go.RowKit

theorem playL_quad (wr : World) (kd ver : Int) (ku vu : Value) (lim : Int) (c : Int) (t0 t1 : TypeId) : Below wr.heap.size wr ((wr.alloc (.cells #[.int .i64 kd, .int .i64 ver, ku, vu, .int .i64 lim] t0)).alloc (.cells #[.int .i64 c, .int .i64 0, .slice none 0 0, .slice none 0 0] t1)) :=
  ((Below.refl _ wr).alloc (Nat.le_refl _) _).alloc (by simp) _

set_option maxRecDepth 100000 in
set_option maxHeartbeats 16000000 in
theorem TreePlayed_any (ok : Nat → Prop) (ds : List Dd) (hds : ds.length ≤ 400) (da : Option Addr) (dc : Nat) (w : World) (hL : Lies kDd ok w da dc ds) :
    Calls Try.prog 10 #[.slice da ds.length dc] w fun e w' => PlayedPost w ds e w' := by
  obtain ⟨n, hn⟩ : ∃ n, n = ds.length := ⟨_, rfl⟩
  rw [← hn]
  have hn4 : (n : Int) ≤ 400 := by omega
  have HL := put_by hL
  have HN := put_by hn
  have H0 := put_by (refI_new w)
  clear hL hn hds
  go_enter Try.func10, Try.ntmps10
  go_wp2
  generalize w.alloc (.cells #[.slice none 0 0] 34) = W0 at H0 ⊢
  go_loopw [4, 5, 15] (fun v s i wr => ∃ (k : Nat) (a : Option Addr) (c : Nat) (va : Option Addr) (vn vc : Nat), k ≤ n ∧ i = .int .i64 k ∧ s = .slice a k c ∧ v = .slice va vn vc ∧ Hid (RefI w (playK [[]] (ds.take k)).2 (playK [[]] (ds.take k)).1 (.slice a k c) (.slice va vn vc) wr)) (fun _ _ i _ => n - (intOf i).toNat)
  case atStart => exact ⟨0, none, 0, some ⟨w.heap.size, 0, none⟩, 1, 1, Nat.zero_le _, rfl, rfl, rfl, H0.out⟩
  case round =>
    obtain ⟨k, a, c, va, vn, vc, hk, rfl, rfl, rfl, HR⟩ := hrel
    by_cases hlt : k < n
    · have hx : k < ds.length := by rw [← HN.out]; exact hlt
      obtain ⟨b4, off, rfl, hb4, _, cs, ⟨u, v, rfl, hu, hv⟩, hc⟩ := HL.out.at hx
      obtain ⟨ka, kc, rfl, hku, -⟩ := id hu
      obtain ⟨ea, ec, rfl, heu, -⟩ := id hv
      have hI := HR.out
      have hcell : ∀ j x, [Value.int .i64 (ds[k]).kind, .int .i64 (ds[k]).ver, .slice ka (ds[k]).key.length kc, .slice ea (ds[k]).val.length ec, .int .i64 (ds[k]).lim][j]? = some x → wr.cell? ⟨b4, off + k * 5 + j, none⟩ = some x := fun j x hj => (hI.below.cell (p := ⟨b4, off + k * 5 + j, none⟩) hb4).trans (hc j x hj)
      have d0 := hcell 0 _ rfl
      have d1 := hcell 1 _ rfl
      have d2 := hcell 2 _ rfl
      have d3 := hcell 3 _ rfl
      have d4 := hcell 4 _ rfl
      simp only [Nat.add_zero] at d0
      have hsn : ds.take (k + 1) = ds.take k ++ [ds[k]] := List.take_succ_eq_append_getElem hx
      have htl : (ds.take k).length = k := by rw [List.length_take]; omega
      have hfk : (playK [[]] (ds.take k)).1.length = k := by rw [playK_length, htl]
      obtain ⟨vs, hvs⟩ : ∃ vs, vs = (playK [[]] (ds.take k)).2 := ⟨_, rfl⟩
      obtain ⟨fs, hfs⟩ : ∃ fs, fs = (playK [[]] (ds.take k)).1 := ⟨_, rfl⟩
      have hsn1 : (playK [[]] (ds.take (k + 1))).1 = fs ++ [(stepK vs ds[k]).1] := by rw [hsn, playK_snoc, hvs, hfs]
      have hsn2 : (playK [[]] (ds.take (k + 1))).2 = (stepK vs ds[k]).2 := by rw [hsn, playK_snoc, hvs]
      have hm1 := playK_many (ds.take k) [[]]
      rw [htl, ← hvs] at hm1
      simp only [List.length_cons, List.length_nil] at hm1
      have hm2 : ∀ l ∈ vs, l.length ≤ 80000 := fun l hl => by
        rw [hvs] at hl
        have := playK_few (ds.take k) (vs := [[]]) (n := 0) (by simp) l hl
        rw [htl] at this
        omega
      rw [← hvs, ← hfs] at hI
      rw [← hfs] at hfk
      have hvn : vn = vs.length := by
        obtain ⟨a9, c9, e9⟩ := rows_form hI.vers
        simp only [Value.slice.injEq] at e9
        exact e9.2.1
      -- a code alone
      have HC : Hid (∀ (cd : Int), stepK vs ds[k] = (⟨cd, 0, [], []⟩, vs) → RefI w vs fs (.slice a k c) (.slice va vn vc) ((wr.alloc (.cells #[.int .i64 (ds[k]).kind, .int .i64 (ds[k]).ver, .slice ka (ds[k]).key.length kc, .slice ea (ds[k]).val.length ec, .int .i64 (ds[k]).lim] 50)).alloc (.cells #[.int .i64 cd, .int .i64 0, .slice none 0 0, .slice none 0 0] 53)) ∧
          kFd.rel (fun b => (Value.slice va vn vc).ownBlock ≠ some b ∧ (Value.slice a k c).ownBlock ≠ some b) ((wr.alloc (.cells #[.int .i64 (ds[k]).kind, .int .i64 (ds[k]).ver, .slice ka (ds[k]).key.length kc, .slice ea (ds[k]).val.length ec, .int .i64 (ds[k]).lim] 50)).alloc (.cells #[.int .i64 cd, .int .i64 0, .slice none 0 0, .slice none 0 0] 53)) ⟨cd, 0, [], []⟩ [.int .i64 cd, .int .i64 0, .slice none 0 0, .slice none 0 0] ∧ Quad ((wr.alloc (.cells #[.int .i64 (ds[k]).kind, .int .i64 (ds[k]).ver, .slice ka (ds[k]).key.length kc, .slice ea (ds[k]).val.length ec, .int .i64 (ds[k]).lim] 50)).alloc (.cells #[.int .i64 cd, .int .i64 0, .slice none 0 0, .slice none 0 0] 53)) (wr.heap.size + 1) (.int .i64 cd) (.int .i64 0) (.slice none 0 0) (.slice none 0 0)) := fun cd _ => ⟨hI.later (playL_quad _ _ _ _ _ _ _ _ _), fd_bare _ _, by
        have := Quad.new (wr.alloc (.cells #[.int .i64 (ds[k]).kind, .int .i64 (ds[k]).ver, .slice ka (ds[k]).key.length kc, .slice ea (ds[k]).val.length ec, .int .i64 (ds[k]).lim] 50)) (.int .i64 cd) (.int .i64 0) (.slice none 0 0) (.slice none 0 0) 53
        rwa [alloc_size] at this⟩
      have cP : Hid ((ds[k]).kind = 1 ∨ (ds[k]).kind = 2 ∨ (ds[k]).kind = 3 ∨ (ds[k]).kind = 4 → 0 ≤ (ds[k]).ver → (ds[k]).ver < (vn : Int) → Calls Try.prog 23 #[.slice va vn vc, .agg #[.int .i64 (ds[k]).kind, .int .i64 (ds[k]).ver, .slice ka (ds[k]).key.length kc, .slice ea (ds[k]).val.length ec, .int .i64 (ds[k]).lim]] ((wr.alloc (.cells #[.int .i64 (ds[k]).kind, .int .i64 (ds[k]).ver, .slice ka (ds[k]).key.length kc, .slice ea (ds[k]).val.length ec, .int .i64 (ds[k]).lim] 50)).alloc (.cells #[.int .i64 0, .int .i64 0, .slice none 0 0, .slice none 0 0] 53)) fun e w2 =>
          ∃ (p q : Int) (a' : Option Addr) (n' c' : Nat) (b' : Option Addr) (m' d' : Nat) (va' : Option Addr) (vn' vc' : Nat), e = .returned (.tuple #[.agg #[.int .i64 p, .int .i64 q, .slice a' n' c', .slice b' m' d'], .slice va' vn' vc']) ∧ Hid (Quad w2 (wr.heap.size + 1) (.int .i64 0) (.int .i64 0) (.slice none 0 0) (.slice none 0 0) ∧
            ∀ W9, W9 = ((((w2.setCell ⟨wr.heap.size + 1, 0, none⟩ (.int .i64 p)).setCell ⟨wr.heap.size + 1, 1, none⟩ (.int .i64 q)).setCell ⟨wr.heap.size + 1, 2, none⟩ (.slice a' n' c')).setCell ⟨wr.heap.size + 1, 3, none⟩ (.slice b' m' d')) →
              Quad W9 (wr.heap.size + 1) (.int .i64 p) (.int .i64 q) (.slice a' n' c') (.slice b' m' d') ∧ RefI w (stepK vs ds[k]).2 fs (.slice a k c) (.slice va' vn' vc') W9 ∧ kFd.rel (fun b => (Value.slice va' vn' vc').ownBlock ≠ some b ∧ (Value.slice a k c).ownBlock ≠ some b) W9 (stepK vs ds[k]).1 [.int .i64 p, .int .i64 q, .slice a' n' c', .slice b' m' d'])) := fun hkd h0 hv9 => by
        have hbd := playL_quad wr (ds[k]).kind (ds[k]).ver (.slice ka (ds[k]).key.length kc) (.slice ea (ds[k]).val.length ec) (ds[k]).lim 0 50 53
        have hq := (playL_new wr (ds[k]).kind (ds[k]).ver (.slice ka (ds[k]).key.length kc) (.slice ea (ds[k]).val.length ec) (ds[k]).lim 50 53).told.quad
        have hB2 : wr.heap.size + 1 < ((wr.alloc (.cells #[.int .i64 (ds[k]).kind, .int .i64 (ds[k]).ver, .slice ka (ds[k]).key.length kc, .slice ea (ds[k]).val.length ec, .int .i64 (ds[k]).lim] 50)).alloc (.cells #[.int .i64 0, .int .i64 0, .slice none 0 0, .slice none 0 0] 53)).heap.size := World.block_lt_of_cell? _ _ hq.c0
        generalize ((wr.alloc (.cells #[.int .i64 (ds[k]).kind, .int .i64 (ds[k]).ver, .slice ka (ds[k]).key.length kc, .slice ea (ds[k]).val.length ec, .int .i64 (ds[k]).lim] 50)).alloc (.cells #[.int .i64 0, .int .i64 0, .slice none 0 0, .slice none 0 0] 53)) = X at hbd hq hB2 ⊢
        have hIX := hI.later hbd
        have hRX : Rows (kRow kEnt) (fun b => (Value.slice a k c).ownBlock ≠ some b ∧ b ≠ wr.heap.size + 1) X w.heap.size 34 (.slice va vn vc) vs := (hI.vers.turned (ok2 := fun b => (Value.slice a k c).ownBlock ≠ some b ∧ b ≠ wr.heap.size + 1) (fun b hb ho => ⟨ho, by omega⟩)).later hbd
        have hfr : Fresh (fun b => (Value.slice a k c).ownBlock ≠ some b ∧ b ≠ wr.heap.size + 1) X := fun b hb => ⟨fun e => by have := (rows_lt hIX.fds b e).2; omega, by omega⟩
        have e9 : stepK vs ds[k] = deedK vs ds[k] := by
          rw [stepK, if_neg (by omega), if_neg (by omega)]
        rw [hvn] at hRX hv9 ⊢
        refine (rdeed_any _ vs ds[k] hkd h0 hv9 ka ea kc ec w.heap.size va vc X hRX hIX.below.size hfr (by omega) hm2 (hku.later hIX.below) (heu.later hIX.below)).mono ?_
        intro e w2 hs
        rw [← e9, ← hvn] at hs
        obtain ⟨va', vn', vc', a', n', c', b', m', d', rfl, r1, r2⟩ := hI.step hbd (Nat.le_succ _) hB2 hq hs
        exact ⟨_, _, a', n', c', b', m', d', va', vn', vc', rfl, r1, r2⟩
      have HST : Hid ((¬ ((ds[k]).kind = 1 ∨ (ds[k]).kind = 2 ∨ (ds[k]).kind = 3 ∨ (ds[k]).kind = 4) → stepK vs ds[k] = (⟨3, 0, [], []⟩, vs)) ∧ (((ds[k]).kind = 1 ∨ (ds[k]).kind = 2 ∨ (ds[k]).kind = 3 ∨ (ds[k]).kind = 4) → ((ds[k]).ver < 0 ∨ (vn : Int) ≤ (ds[k]).ver) → stepK vs ds[k] = (⟨2, 0, [], []⟩, vs))) := by
        rw [hvn]
        exact ⟨fun h => by rw [stepK, if_pos (by omega)], fun h1 h2 => by rw [stepK, if_neg (by omega), if_pos h2]⟩
      have HFK := put_by hfk
      have HSN := put_by (And.intro hsn1 hsn2)
      clear hcell hc hu hv hku heu hsn htl hfk hI hvs hfs hsn1 hsn2 hm1 hm2 hvn HR
      generalize stepK vs ds[k] = st at *
      generalize (ds[k]).kind = kd at *
      generalize (ds[k]).ver = ver at *
      generalize (ds[k]).key.length = kn at *
      generalize (ds[k]).val.length = en at *
      generalize (ds[k]).lim = lim at *
      have ik : (k : Int) < (n : Int) := by omega
      have ik4 : k < 400 := by omega
      have HNX : Hid (∀ (cd : Int) (w3 : World) (a6 : Option Addr) (c6 : Nat), st = (⟨cd, 0, [], []⟩, vs) → RefI w vs (fs ++ [⟨cd, 0, [], []⟩]) (.slice a6 (k + 1) c6) (.slice va vn vc) w3 → RefI w (playK [[]] (ds.take (k + 1))).2 (playK [[]] (ds.take (k + 1))).1 (.slice a6 (k + 1) c6) (.slice va vn vc) w3) := fun cd w3 a6 c6 e h => by
        rw [HSN.out.1, HSN.out.2, e]
        exact h
      by_cases hkd : kd = 1 ∨ kd = 2 ∨ kd = 3 ∨ kd = 4
      · by_cases hv0 : ver < 0 ∨ (vn : Int) ≤ ver
        · have HE := put_by (HST.out.2 hkd hv0)
          have HC2 := put_by (HC.out 2 HE.out)
          clear HC cP HST
          rcases hkd with rfl | rfl | rfl | rfl
          all_goals
            rcases hv0 with hv0 | hv0
          all_goals
            try (have j0 : 0 ≤ ver := by omega)
            go_upto_region 14 with (fail)
            generalize (wr.alloc _).alloc _ = W9 at HC2 ⊢
            clear d0 d1 d2 d3 d4
            obtain ⟨y0, y1, y2, y3, -, -, -, -⟩ := id HC2.out.2.2
            go_wp2_with (first
              | (at_builtin; refine wpList_append_one eltF rfl (.tmp 55) (.tmp 57) rfl w.heap.size (.slice a k c) fs rfl HC2.out.1.fds ⟨2, 0, [], []⟩ [.int .i64 2, .int .i64 0, .slice none 0 0, .slice none 0 0] _ _ rfl rfl HC2.out.2.1 (fun b hb e => by have := (rows_lt HC2.out.1.vers b e).2; omega) (by rw [HFK.out]; omega) (by decide) HC2.out.1.below.size ?_; intro v' w3 hR3 hg3 hat3))
            obtain ⟨a6, c6, e6⟩ := rows_form hR3
            have hl6 : (fs ++ [(⟨2, 0, [], []⟩ : Fd)]).length = k + 1 := by simp [HFK.out]
            rw [hl6] at e6
            subst e6
            have HN3 := put_by (HNX.out _ _ _ _ HE.out (HC2.out.1.told hR3 hg3 hat3))
            clear hl6 hR3 hg3 hat3 HC2
            go_wp2
            go_roundw
            case rel => exact ⟨k + 1, a6, c6, va, vn, vc, by omega, by go_num, rfl, rfl, HN3.out⟩
            case measure => simp [intOf]; omega
        · have cX := put_by (cP.out hkd (by omega) (by omega))
          have j1 : 0 ≤ ver := by omega
          have j2 : ver < (vn : Int) := by omega
          clear cP HC HST HNX hv0
          rcases hkd with rfl | rfl | rfl | rfl
          all_goals
            go_upto_region 14 with (first
              | (go_at_call 23; refine cX.out.mono ?_; clear cX; rintro e w2 ⟨p, q, a', n', c', b', m', d', va', vn', vc', rfl, H2⟩; obtain ⟨y0, y1, y2, y3, u0, u1, u2, u3⟩ := id H2.out.1))
            obtain ⟨hQ9, hI9, hr9⟩ := H2.out.2 _ rfl
            generalize (((w2.setCell _ _).setCell _ _).setCell _ _).setCell _ _ = W9 at hQ9 hI9 hr9 ⊢
            have HI9 := put_by (And.intro hI9 hr9)
            clear hI9 hr9 H2 y0 y1 y2 y3 u0 u1 u2 u3 d0 d1 d2 d3 d4
            obtain ⟨y0, y1, y2, y3, -, -, -, -⟩ := hQ9
            go_wp2_with (first
              | (at_builtin; refine wpList_append_one eltF rfl (.tmp 55) (.tmp 57) rfl w.heap.size (.slice a k c) fs rfl HI9.out.1.fds st.1 [.int .i64 p, .int .i64 q, .slice a' n' c', .slice b' m' d'] _ _ rfl rfl HI9.out.2 (fun b hb e => by have := (rows_lt HI9.out.1.vers b e).2; omega) (by rw [HFK.out]; omega) (by decide) HI9.out.1.below.size ?_; intro v' w3 hR3 hg3 hat3))
            obtain ⟨a6, c6, e6⟩ := rows_form hR3
            have hl6 : (fs ++ [st.1]).length = k + 1 := by simp [HFK.out]
            rw [hl6] at e6
            subst e6
            have HN3 : Hid (RefI w (playK [[]] (ds.take (k + 1))).2 (playK [[]] (ds.take (k + 1))).1 (.slice a6 (k + 1) c6) (.slice va' vn' vc') w3) := by
              rw [HSN.out.1, HSN.out.2]
              exact HI9.out.1.told hR3 hg3 hat3
            clear hl6 hR3 hg3 hat3 HI9
            go_wp2
            go_roundw
            case rel => exact ⟨k + 1, a6, c6, va', vn', vc', by omega, by go_num, rfl, rfl, HN3.out⟩
            case measure => simp [intOf]; omega
      · have HE := put_by (HST.out.1 hkd)
        have HC2 := put_by (HC.out 3 HE.out)
        have b1 : kd ≠ 1 := by omega
        have b2 : kd ≠ 2 := by omega
        have b3 : kd ≠ 3 := by omega
        have b4' : kd ≠ 4 := by omega
        have c1 : (kd != 1) = true := by simpa using b1
        have c2 : (kd != 2) = true := by simpa using b2
        have c3 : (kd != 3) = true := by simpa using b3
        have c4 : (kd != 4) = true := by simpa using b4'
        clear HC cP HST hkd
        go_upto_region 14 with (fail)
        generalize (wr.alloc _).alloc _ = W9 at HC2 ⊢
        clear d0 d1 d2 d3 d4
        obtain ⟨y0, y1, y2, y3, -, -, -, -⟩ := id HC2.out.2.2
        go_wp2_with (first
          | (at_builtin; refine wpList_append_one eltF rfl (.tmp 55) (.tmp 57) rfl w.heap.size (.slice a k c) fs rfl HC2.out.1.fds ⟨3, 0, [], []⟩ [.int .i64 3, .int .i64 0, .slice none 0 0, .slice none 0 0] _ _ rfl rfl HC2.out.2.1 (fun b hb e => by have := (rows_lt HC2.out.1.vers b e).2; omega) (by rw [HFK.out]; omega) (by decide) HC2.out.1.below.size ?_; intro v' w3 hR3 hg3 hat3))
        obtain ⟨a6, c6, e6⟩ := rows_form hR3
        have hl6 : (fs ++ [(⟨3, 0, [], []⟩ : Fd)]).length = k + 1 := by simp [HFK.out]
        rw [hl6] at e6
        subst e6
        have HN3 := put_by (HNX.out _ _ _ _ HE.out (HC2.out.1.told hR3 hg3 hat3))
        clear hl6 hR3 hg3 hat3 HC2
        go_wp2
        go_roundw
        case rel => exact ⟨k + 1, a6, c6, va, vn, vc, by omega, by go_num, rfl, rfl, HN3.out⟩
        case measure => simp [intOf]; omega
    · have hkm : k = n := by omega
      subst hkm
      have H9 : Hid (Lies kFd (fun _ => True) wr a c (playK [[]] ds).1 ∧ Ples a c ∧ Below w.heap.size w wr) := by
        have hI := HR.out
        rw [List.take_of_length_le (by rw [← HN.out]; exact Nat.le_refl _)] at hI
        obtain ⟨ao, cap, e, h1, h2, -, -⟩ := hI.fds.lies (fun b e e2 => hI.apart b e2 e)
        simp only [Value.slice.injEq] at e
        obtain ⟨rfl, -, rfl⟩ := e
        exact ⟨h1.move (Kept.of_below (Below.refl _ _)) (fun _ _ _ => trivial), h2, hI.below⟩
      clear HR HL H0
      go_wp2
      exact bodyPost_ret (v := .tuple #[.slice a k c, .int .i64 0]) (by simp [results, Try.results10, go_sem]) rfl ⟨a, k, c, rfl, HN.out, H9.out.1, H9.out.2.1, H9.out.2.2⟩

theorem TreePlayed_many (n : Nat) (hn : 400 < n) (da : Option Addr) (dc : Nat) (w : World) :
    Calls Try.prog 10 #[.slice da n dc] w fun e w' => e = .returned (.tuple #[.slice none 0 0, .int .i64 1]) ∧ w' = w := by
  have hn4 : (400 : Int) < (n : Int) := by omega
  clear hn
  go_enter Try.func10, Try.ntmps10
  go_wp2
  exact bodyPost_ret (v := .tuple #[.slice none 0 0, .int .i64 1]) (by simp [results, Try.results10, go_sem]) rfl ⟨rfl, rfl⟩

end Go.Proofs.Ytdjiplheomoljaa
