/- Bytes behind bytes: numbers and texts that are told. -/
import Derived.Test.YtndnbkgejdindaaItMem
import Derived.Test.YtndnbkgejdindaaLitOcts
namespace Go.Proofs.Ytndnbkgejdindaa
open Go.ChangeShapes Go.WideShapes Go.ChangeAt Go.RowKit

/-- a row of bytes of the call's own has become another one -/
structure Told (B : Nat) (w w' : World) (v v' : Value) (m' : Nat) (xs : List Int) : Prop where
  own : w'.ownsRow B 5 1 v' m' (xs.map (Value.int .u8))
  len : m' = xs.length
  grown : w.grownBy w' v.ownBlock
  «at» : v'.ownBlock = v.ownBlock ∨ ∃ g, v'.ownBlock = some g ∧ w.heap.size ≤ g

theorem Told.trans {B : Nat} {w w1 w2 : World} {v v1 v2 : Value} {m1 m2 : Nat} {xs ys : List Int} (h : Told B w w1 v v1 m1 xs) (k : Told B w1 w2 v1 v2 m2 ys) : Told B w w2 v v2 m2 ys := by
  refine ⟨k.own, k.len, ⟨k.grown.os.trans h.grown.os, k.grown.tape.trans h.grown.tape, k.grown.output.trans h.grown.output, Nat.le_trans h.grown.size k.grown.size, fun b hb hne => ?_⟩, ?_⟩
  · have h1 := h.grown.block b hb hne
    refine (k.grown.block b (Nat.lt_of_lt_of_le hb h.grown.size) (fun e => ?_)).trans h1
    rcases h.«at» with e2 | ⟨g, e2, hg⟩
    · exact hne (e.trans e2)
    · rw [e2] at e
      cases e
      omega
  · rcases k.«at» with e | ⟨g, e, hg⟩
    · rw [e]
      exact h.«at»
    · exact .inr ⟨g, e, Nat.le_trans h.grown.size hg⟩

/-- what was there stays, but for the row -/
theorem Told.below {B : Nat} {w w' : World} {v v' : Value} {m' : Nat} {xs : List Int} (h : Told B w w' v v' m' xs) (hB : B ≤ w.heap.size) (hv : ∀ g, v.ownBlock = some g → B ≤ g) : Below B w w' :=
  below_grown (Below.refl _ w) hB h.grown hv

theorem Told.cell {B : Nat} {w w' : World} {v v' : Value} {m' : Nat} {xs : List Int} (h : Told B w w' v v' m' xs) {b j : Nat} (hb : b < w.heap.size) (hne : v.ownBlock ≠ some b) : w'.cell? ⟨b, j, none⟩ = w.cell? ⟨b, j, none⟩ :=
  World.cell?_of_block (h.grown.block b hb (fun e => hne e.symm))

theorem Told.ne {B : Nat} {w w' : World} {v v' : Value} {m' : Nat} {xs : List Int} (h : Told B w w' v v' m' xs) {b : Nat} (hb : b < w.heap.size) (hne : v.ownBlock ≠ some b) : v'.ownBlock ≠ some b := by
  rcases h.«at» with e | ⟨g, e, hg⟩
  · rw [e]; exact hne
  · rw [e]
    intro e2
    cases e2
    omega

theorem grown_alloc' {w w' : World} {o : Obj} {row : Option Nat} (h : (w.alloc o).grownBy w' row) : w.grownBy w' row := grown_alloc h

theorem told_alloc {B m' : Nat} {w w' : World} {o : Obj} {v v' : Value} {xs : List Int} {vs : List Value} (h1 : w'.ownsRow B 5 1 v' m' vs) (hv : vs = xs.map (Value.int .u8)) (hl : m' = xs.length) (h2 : (w.alloc o).grownBy w' v.ownBlock) (h3 : v'.ownBlock = v.ownBlock ∨ v'.ownBlock = some (w.alloc o).heap.size) : Told B w w' v v' m' xs :=
  ⟨hv ▸ h1, hl, grown_alloc h2, h3.imp id (fun e => ⟨_, e, by simp⟩)⟩

theorem told_of {B m' : Nat} {w w' : World} {v v' : Value} {xs : List Int} {vs : List Value} (h1 : w'.ownsRow B 5 1 v' m' vs) (hv : vs = xs.map (Value.int .u8)) (hl : m' = xs.length) (h2 : w.grownBy w' v.ownBlock) (h3 : v'.ownBlock = v.ownBlock ∨ v'.ownBlock = some w.heap.size) : Told B w w' v v' m' xs :=
  ⟨hv ▸ h1, hl, h2, h3.imp id (fun e => ⟨_, e, Nat.le_refl _⟩)⟩

theorem own_blocks {w : World} {B m : Nat} {v : Value} {vs : List Value} (h : w.ownsRow B 5 1 v m vs) : ∀ g, v.ownBlock = some g → B ≤ g := fun g hg => (h.lt g hg).1

theorem le4_ints (n : Nat) (h : n < 4294967296) : le4 n = [(n : Int) % 256, (n : Int) / 256 % 256, (n : Int) / 65536 % 256, (n : Int) / 16777216] := by
  simp only [le4, List.cons.injEq, and_true]
  omega

theorem own_val {w : World} {B m : Nat} {v : Value} {vs : List Value} (h : w.ownsRow B 5 1 v m vs) : ∃ a c, v = .slice a m c := by
  rcases h.2 with ⟨h1, h2⟩ | ⟨g, cap, cur, h1, h2⟩
  · exact ⟨none, 0, by rw [h1, h2]⟩
  · exact ⟨_, cap, h1⟩


end Go.Proofs.Ytndnbkgejdindaa
