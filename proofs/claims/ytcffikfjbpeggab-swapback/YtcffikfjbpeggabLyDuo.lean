/- A variable of two cells; the layouts that a raw list of numbers comes to, in plain words. -/
import Derived.Test.YtcffikfjbpeggabLyBaseB
namespace Go.Proofs.Ytcffikfjbpeggab
open Go.ChangeShapes Go.WideShapes Go.ChangeAt Go.RowKit

theorem heap_far (w : World) (B o : Nat) (v : Value) {b : Nat} (h : b ≠ B) : (w.setCell ⟨B, o, none⟩ v).heap[b]? = w.heap[b]? := by
  simp only [World.setCell, Array.getElem?_modify]
  rw [if_neg (fun e => h e.symm)]

structure Duo (W : World) (B : Nat) (p q : Value) : Prop where
  c0 : W.cell? ⟨B, 0, none⟩ = some p
  c1 : W.cell? ⟨B, 1, none⟩ = some q
  f0 : W.frozen? ⟨B, 0, none⟩ = false
  f1 : W.frozen? ⟨B, 1, none⟩ = false

theorem Duo.move {W W' : World} {B : Nat} {p q : Value} (h : Duo W B p q) (e : W'.heap[B]? = W.heap[B]?) : Duo W' B p q :=
  ⟨(World.cell?_of_block (w := W) e).trans h.c0, (World.cell?_of_block (w := W) e).trans h.c1, (World.frozen?_of_block (w := W) e).trans h.f0, (World.frozen?_of_block (w := W) e).trans h.f1⟩

theorem Duo.new (W : World) (p q : Value) (ty : TypeId) : Duo (W.alloc (.cells #[p, q] ty)) W.heap.size p q := ⟨by simp, by simp, by simp, by simp⟩

theorem Duo.lt {W : World} {B : Nat} {p q : Value} (h : Duo W B p q) : B < W.heap.size := World.block_lt_of_cell? _ _ h.c0

theorem Duo.later {W W' : World} {B : Nat} {p q : Value} (h : Duo W B p q) (hb : Below W.heap.size W W') : Duo W' B p q := h.move (hb.block B h.lt)

theorem Duo.grown {W W' : World} {B : Nat} {p q : Value} {row : Option Nat} (h : Duo W B p q) (hg : W.grownBy W' row) (hr : row ≠ some B) : Duo W' B p q := h.move (hg.block B h.lt (fun e => hr e.symm))

theorem Duo.set1 {W : World} {B : Nat} {p q : Value} (h : Duo W B p q) (x : Value) : Duo (W.setCell ⟨B, 1, none⟩ x) B p x := by
  have h0 := h.c0
  have h1 := h.c1
  refine ⟨?_, World.cell?_setCell_same' _ _ _ (by rw [h1]; rfl), by rw [World.frozen?_setCell]; exact h.f0, by rw [World.frozen?_setCell]; exact h.f1⟩
  rw [World.cell?_setCell_other _ _ _ _ (by simp)]
  exact h0

def set2 (W : World) (B : Nat) (x y : Value) : World := (W.setCell ⟨B, 0, none⟩ x).setCell ⟨B, 1, none⟩ y

theorem Duo.set2 {W : World} {B : Nat} {p q : Value} (h : Duo W B p q) (x y : Value) : Duo (set2 W B x y) B x y := by
  have h0 := h.c0
  have h1 := h.c1
  refine ⟨?_, World.cell?_setCell_same' _ _ _ (by rw [World.cell?_setCell_other _ _ _ _ (by simp), h1]; rfl), by unfold Go.Proofs.Ytcffikfjbpeggab.set2; rw [World.frozen?_setCell, World.frozen?_setCell]; exact h.f0, by unfold Go.Proofs.Ytcffikfjbpeggab.set2; rw [World.frozen?_setCell, World.frozen?_setCell]; exact h.f1⟩
  unfold Go.Proofs.Ytcffikfjbpeggab.set2
  rw [World.cell?_setCell_other _ _ _ _ (by simp)]
  exact World.cell?_setCell_same' _ _ _ (by rw [h0]; rfl)

theorem heap_set2 {W : World} {B : Nat} (x y : Value) {b : Nat} (h : b ≠ B) : (set2 W B x y).heap[b]? = W.heap[b]? :=
  (heap_far _ _ _ _ h).trans (heap_far _ _ _ _ h)

theorem below_set2 {n : Nat} {w W : World} {B : Nat} (h : Below n w W) (hn : n ≤ B) (x y : Value) : Below n w (set2 W B x y) :=
  (h.setCell (p := ⟨B, 0, none⟩) hn x).setCell (p := ⟨B, 1, none⟩) hn y

theorem kept_far {ok : Nat → Prop} {W : World} {B o : Nat} (hn : ¬ ok B) (x : Value) : Kept ok W (W.setCell ⟨B, o, none⟩ x) :=
  ⟨by simp, fun b _ ho => heap_far _ _ _ _ (fun e => hn (by rw [← e]; exact ho))⟩

theorem kept_set2 {ok : Nat → Prop} {W : World} {B : Nat} (hn : ¬ ok B) (x y : Value) : Kept ok W (set2 W B x y) :=
  ⟨by simp [set2], fun b _ ho => heap_set2 x y (fun e => hn (by rw [← e]; exact ho))⟩

theorem Rows.far {α : Type} {size : Nat} {K : Kd α size} {base base2 : Nat} {E : TypeId} {v : Value} {W : World} {l : List α} (h : Rows K (fun b => base2 ≤ b) W base E v l) {B o : Nat} (h1 : B < base) (h2 : B < base2) (x : Value) : Rows K (fun b => base2 ≤ b) (W.setCell ⟨B, o, none⟩ x) base E v l :=
  h.move (kept_far (by omega) x) (fun g hg => heap_far _ _ _ _ (fun e => by have := (rows_lt h g hg).1; omega))

theorem below_row {n : Nat} {w w1 w2 : World} {row : Option Nat} (h : Below n w w1) (hs : n ≤ w1.heap.size) (hg : w1.grownBy w2 row) (hr : ∀ r, row = some r → n ≤ r) : Below n w w2 := h.grown hg hs hr

/-- units from t on, turned round -/
def shiftL (t : Int) (u : Nat) : List Int := (List.range u).map (fun (i : Nat) => ((i : Int) + t) % 6)

theorem shiftL_length (t : Int) (u : Nat) : (shiftL t u).length = u := by simp [shiftL]

theorem shiftL_add (t : Int) (u n : Nat) : shiftL t (u + n) = shiftL t u ++ (List.range n).map (fun (j : Nat) => ((u : Int) + j + t) % 6) := by
  unfold shiftL
  rw [List.range_add, List.map_append, List.map_map]
  congr 1

theorem shiftL_range {t : Int} {u : Nat} : ∀ x ∈ shiftL t u, 0 ≤ x ∧ x ≤ 5 := by
  intro x hx
  simp only [shiftL, List.mem_map] at hx
  obtain ⟨i, -, rfl⟩ := hx
  omega

theorem shiftL_nodup {t : Int} {u : Nat} (hu : u ≤ 6) : (shiftL t u).Nodup := by
  rw [List.nodup_iff_pairwise_ne, List.pairwise_iff_getElem]
  intro i j hi hj hij
  simp only [shiftL, List.getElem_map, List.getElem_range]
  rw [shiftL_length] at hi hj
  omega

/-- what a layout of raw numbers is: units of their own, in chains of one to three, at least one chain, five units at most -/
def ForL (cs : List (List Int)) : Prop := (∀ x ∈ cs.flatten, 0 ≤ x ∧ x ≤ 5) ∧ cs.flatten.Nodup ∧ (∀ c ∈ cs, 1 ≤ c.length ∧ c.length ≤ 3) ∧ 1 ≤ cs.length ∧ cs.flatten.length ≤ 5

theorem flatten_many : ∀ {cs : List (List Int)}, (∀ c ∈ cs, 1 ≤ c.length) → cs.length ≤ cs.flatten.length
  | [], _ => by simp
  | c :: cs, h => by
    have a := h c List.mem_cons_self
    have b := flatten_many (fun c hc => h c (List.mem_cons_of_mem _ hc)) (cs := cs)
    simp only [List.flatten_cons, List.length_append, List.length_cons]
    omega

theorem ForL.len {cs : List (List Int)} (h : ForL cs) : cs.length ≤ 5 := Nat.le_trans (flatten_many (fun c hc => (h.2.2.1 c hc).1)) h.2.2.2.2

theorem ForL.may {ep : Int} {cs : List (List Int)} (h : ForL cs) (h0 : 0 ≤ ep) (h1 : ep ≤ 1000000) : mayL ep cs = true :=
  mayL_iff.2 ⟨⟨h0, h1⟩, ⟨h.2.2.2.1, by have := h.len; omega, h.2.2.1⟩, h.1, h.2.1⟩

theorem ForL.few {cs : List (List Int)} (h : ForL cs) : cs.length ≤ 140737488351232 ∧ ∀ c ∈ cs, c.length ≤ 140737488351232 :=
  ⟨by have := h.len; omega, fun c hc => by have := (h.2.2.1 c hc).2; omega⟩

theorem forL_one {t : Int} (h0 : 0 ≤ t) (h1 : t ≤ 5) : ForL [[t]] :=
  ⟨by simp; omega, by simp, by simp, by simp, by simp⟩

theorem forL_of {t : Int} {cs : List (List Int)} (hf : cs.flatten = shiftL t cs.flatten.length) (h5 : cs.flatten.length ≤ 5) (he : ∀ c ∈ cs, 1 ≤ c.length ∧ c.length ≤ 3) (h1 : 1 ≤ cs.length) : ForL cs :=
  ⟨by rw [hf]; exact shiftL_range, by rw [hf]; exact shiftL_nodup (by omega), he, h1, h5⟩

end Go.Proofs.Ytcffikfjbpeggab
