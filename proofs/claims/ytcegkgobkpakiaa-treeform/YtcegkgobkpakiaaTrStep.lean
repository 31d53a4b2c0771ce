/- What one deed does, in memory: what it came to, and the versions behind it. -/
import Derived.Test.YtcegkgobkpakiaaTrPut
namespace Go.Proofs.Ytcegkgobkpakiaa
open Go.ChangeShapes Go.WideShapes Go.ChangeAt Go.RowKit

/-- a thing of a row -/
theorem rows_at {α : Type} {K : Kd α 2} {ok : Nat → Prop} {W : World} {base : Nat} {E : TypeId} {v : Value} {l : List α} (h : Rows K ok W base E v l) {i : Nat} (hi : i < l.length) :
    ∃ g cap p q, v = .slice (some ⟨g, 0, none⟩) l.length cap ∧ l.length ≤ cap ∧ K.rel (fun b => ok b ∧ v.ownBlock ≠ some b) W l[i] [p, q] ∧ W.cell? ⟨g, i * 2, none⟩ = some p ∧ W.cell? ⟨g, i * 2 + 1, none⟩ = some q ∧ g < W.heap.size := by
  obtain ⟨css, h1, h2⟩ := h
  obtain ⟨c, hc, hr⟩ := All2.find h2 i hi
  have hlen := K.len hr
  match c, hlen, hc, hr with
  | [p, q], _, hc, hr =>
    rcases h1.2 with ⟨_, e⟩ | ⟨g, cap, cur, e, hb, hg, hcap, _⟩
    · omega
    · have hil : i < css.length := by rw [← h2.length]; exact hi
      have hcs : css[i] = [p, q] := by
        rw [List.getElem?_eq_getElem hil] at hc
        exact Option.some.inj hc
      have hd : css.flatten.drop (i * 2) = [p, q] ++ (css.drop (i + 1)).flatten := by
        rw [← flatten_drop (rel_len h2) i, List.drop_eq_getElem_cons hil, hcs, List.flatten_cons]
      have hcell : ∀ j u, css.flatten[j]? = some u → W.cell? ⟨g, j, none⟩ = some u := fun j u hj => by
        have := h1.cells (g := g) (by rw [e]; rfl) j u hj
        rw [addr_add] at this
        simpa using this
      refine ⟨g, cap, p, q, e, hcap, hr, hcell _ _ ?_, hcell _ _ ?_, (Array.getElem?_eq_some_iff.1 hg).1⟩
      · have := congrArg (fun l => l[0]?) hd
        simpa using this
      · have := congrArg (fun l => l[1]?) hd
        simpa using this

/-- what a deed came to: all of it in new blocks, none of them the row of versions -/
def FdIn (w : World) (v : Value) (f : Fd) (e : Ending) (w' : World) : Prop :=
  ∃ (a : Option Addr) (n c : Nat) (b : Option Addr) (m d : Nat), e = .returned (.agg #[.int .i64 f.code, .int .i64 f.ver, .slice a n c, .slice b m d]) ∧ kFd.rel (fun b => w.heap.size ≤ b ∧ v.ownBlock ≠ some b) w' f [.int .i64 f.code, .int .i64 f.ver, .slice a n c, .slice b m d]

/-- what one deed comes to, and the versions behind it -/
def StepPost (Bv base : Nat) (ok : Nat → Prop) (vs : List (List Ent)) (f : Fd) (v : Value) (w : World) (e : Ending) (w' : World) : Prop :=
  ∃ v', FdIn w v' f e w' ∧ Box Bv base ok vs w' v' ∧ Turn Bv v w w' ∧ ∀ g, v'.ownBlock = some g → g < w.heap.size → v.ownBlock = some g

theorem step_add {Bv base : Nat} {ok : Nat → Prop} {vs : List (List Ent)} {l : List Ent} {v : Value} {w w' : World} {e : Ending} (h : AddPost Bv base ok vs l v w e w') : StepPost Bv base ok (vs ++ [l]) ⟨0, vs.length, [], []⟩ v w e w' := by
  obtain ⟨rfl, g, cap, h1, h2, h3⟩ := h
  exact ⟨_, ⟨none, 0, 0, none, 0, 0, rfl, fd_bare _ _⟩, h1, h2, fun g' e hg => by cases e; exact h3 hg⟩

theorem step_kept {Bv base : Nat} {ok : Nat → Prop} {vs : List (List Ent)} {f : Fd} {v : Value} {w w' : World} {e : Ending} (hx : Box Bv base ok vs w v) (h : FdPost w f e w' ∧ Below w.heap.size w w') : StepPost Bv base ok vs f v w e w' := by
  obtain ⟨⟨a, n, c, b, m, d, rfl, hf⟩, hb⟩ := h
  exact ⟨v, ⟨a, n, c, b, m, d, rfl, kFd.move (Kept.of_below (Below.refl _ _)) (fun b _ ho => ⟨ho, fun e => by have := (rows_lt hx.rows b e).2; omega⟩) hf⟩, hx.later hb, ⟨hb.os, hb.tape, hb.output, hb.size, fun b hb2 _ _ => hb.block b hb2⟩, fun _ e _ => e⟩

/-- and put into the variable B behind -/
theorem step_then {Bv base B : Nat} {ok : Nat → Prop} {vs vs' : List (List Ent)} {f : Fd} {v : Value} {w W w' : World} {e : Ending} (hx : Box Bv base ok vs w v) (hT : Told w B W) (hB : w.heap.size ≤ B) (h : StepPost Bv base (fun b => ok b ∧ b ≠ B) vs' f v W e w') :
    ∃ (a : Option Addr) (n c : Nat) (b : Option Addr) (m d : Nat), e = .returned (.agg #[.int .i64 f.code, .int .i64 f.ver, .slice a n c, .slice b m d]) ∧ Quad w' B (.int .i64 0) (.int .i64 0) (.slice none 0 0) (.slice none 0 0) ∧
      ∀ W9, W9 = ((((w'.setCell ⟨B, 0, none⟩ (.int .i64 f.code)).setCell ⟨B, 1, none⟩ (.int .i64 f.ver)).setCell ⟨B, 2, none⟩ (.slice a n c)).setCell ⟨B, 3, none⟩ (.slice b m d)) → Quad W9 B (.int .i64 f.code) (.int .i64 f.ver) (.slice a n c) (.slice b m d) ∧ StepPost Bv base ok vs' f v w (.returned (.agg #[.int .i64 f.code, .int .i64 f.ver, .slice a n c, .slice b m d])) W9 := by
  have hBv : Bv < w.heap.size := World.block_lt_of_cell? _ _ hx.cell
  have hBW : B < W.heap.size := World.block_lt_of_cell? _ _ hT.quad.c0
  have hsz := hT.below.size
  obtain ⟨v', ⟨a, n, c, b, m, d, rfl, hf⟩, h1, h2, h3⟩ := h
  have hvB : ∀ g, v.ownBlock = some g → g < w.heap.size := fun g e => (rows_lt hx.rows g e).2
  have hv' : v'.ownBlock ≠ some B := fun e => by
    have := hvB B (h3 B e hBW)
    omega
  have hQ : Quad w' B (.int .i64 0) (.int .i64 0) (.slice none 0 0) (.slice none 0 0) := hT.quad.move (h2.block B hBW (by omega) (fun e => by have := hvB B e; omega))
  refine ⟨a, n, c, b, m, d, rfl, hQ, ?_⟩
  rintro W9 rfl
  refine ⟨hQ.set _ _ _ _, v', ⟨a, n, c, b, m, d, rfl, ?_⟩, (h1.quad (by omega) hv' (fun q => q.2 rfl) _ _ _ _).turned (fun _ _ q => q.1) hx.not, (h2.before hT.below).quad hB _ _ _ _, fun g e hg => h3 g e (by omega)⟩
  exact kFd.move (ok := fun b => W.heap.size ≤ b ∧ v'.ownBlock ≠ some b) ⟨by simp, fun b _ ho => heap_quad _ _ _ _ _ _ (by omega)⟩ (fun b _ ho => ⟨Nat.le_trans hsz ho.1, ho.2⟩) hf

end Go.Proofs.Ytcegkgobkpakiaa
