/- Rows of bytes that the call itself has laid, by a function of the place. -/
import Derived.Test.YtjjencnnmpefbaaDoorOctPlain
import Derived.Laws.OwnMore
namespace Go.Proofs.YtjjencnnmpefbaaDoor
open Go.ChangeShapes Go.WideShapes Go.ChangeAt Go.RowKit

/-- the numbers of a function, as many -/
def rowOf (n : Nat) (f : Nat → Int) : List Int := (List.range n).map f

theorem rowOf_length (n : Nat) (f : Nat → Int) : (rowOf n f).length = n := by simp [rowOf]

theorem rowOf_getD {n : Nat} (f : Nat → Int) {i : Nat} (h : i < n) : (rowOf n f).getD i 0 = f i := by
  simp [rowOf, List.getD, h]

theorem rowOf_congr {n : Nat} {f g : Nat → Int} (h : ∀ i, i < n → f i = g i) : rowOf n f = rowOf n g := by
  refine List.map_congr_left fun i hi => h i (by simpa using hi)

theorem rowOf_succ (n : Nat) (f : Nat → Int) : rowOf (n + 1) f = rowOf n f ++ [f n] := by simp [rowOf, List.range_succ]

theorem take_rowOf (xs : List Int) (n : Nat) (h : n ≤ xs.length) : xs.take n = rowOf n (fun i => xs.getD i 0) := by
  apply List.ext_getElem?
  intro i
  by_cases hi : i < n
  · have h2 : i < xs.length := by omega
    simp [rowOf, hi, List.getD, h2]
  · rw [List.getElem?_eq_none (by simp; omega), List.getElem?_eq_none (by rw [rowOf_length]; omega)]

theorem eq_rowOf (xs : List Int) : xs = rowOf xs.length (fun i => xs.getD i 0) := by
  rw [← take_rowOf xs xs.length (Nat.le_refl _), List.take_length]

/-- the call's own row at 'g' holds so many bytes of a function -/
def OwnOcts (w : World) (base g n cap : Nat) (f : Nat → Int) : Prop :=
  w.ownsRow base 5 1 (.slice (some ⟨g, 0, none⟩) n cap) n ((rowOf n f).map (Value.int .u8))

theorem OwnOcts.cell {w : World} {base g n cap : Nat} {f : Nat → Int} (h : OwnOcts w base g n cap f) {j : Nat} (hj : j < n) : w.cell? ⟨g, j, none⟩ = some (.int .u8 (f j)) := by
  have := World.ownsRow.cellAt h j (by omega)
  rw [this]
  simp [rowOf, hj]

theorem OwnOcts.frozen {w : World} {base g n cap : Nat} {f : Nat → Int} (h : OwnOcts w base g n cap f) (j : Nat) : w.frozen? ⟨g, j, none⟩ = false := World.ownsRow.frozenAt h j

theorem OwnOcts.congr {w : World} {base g n cap : Nat} {f f' : Nat → Int} (h : OwnOcts w base g n cap f) (e : ∀ i, i < n → f i = f' i) : OwnOcts w base g n cap f' := by
  unfold OwnOcts at h ⊢
  rw [← rowOf_congr e]
  exact h

theorem OwnOcts.lt {w : World} {base g n cap : Nat} {f : Nat → Int} (h : OwnOcts w base g n cap f) : base ≤ g ∧ g < w.heap.size := World.ownsRow.lt h g rfl

theorem OwnOcts.cap {w : World} {base g n cap : Nat} {f : Nat → Int} (h : OwnOcts w base g n cap f) : n ≤ cap := by
  rcases h.2 with ⟨h', _⟩ | ⟨g', cap', cur, h', _, _, hnc, _⟩
  · simp at h'
  · simp only [Value.slice.injEq, Option.some.injEq, Addr.mk.injEq, and_true, true_and] at h'
    obtain ⟨rfl, rfl⟩ := h'
    exact hnc

theorem OwnOcts.stored {w : World} {base g n cap : Nat} {f : Nat → Int} (h : OwnOcts w base g n cap f) (j : Nat) (x : Int) :
    OwnOcts (w.setCell ⟨g, j, none⟩ (.int .u8 x)) base g n cap (fun i => if i = j then x else f i) := by
  have := (World.ownsRow.stored h j (.int .u8 x)).1
  unfold OwnOcts
  have e : ((rowOf n f).map (Value.int .u8)).set j (.int .u8 x) = (rowOf n (fun i => if i = j then x else f i)).map (Value.int .u8) := by
    apply List.ext_getElem?
    intro i
    by_cases hi : i < n
    · by_cases hj : i = j
      · subst hj
        simp [rowOf, hi]
      · rw [List.getElem?_set_ne (fun e => hj e.symm)]
        simp [rowOf, hi, hj]
    · rw [List.getElem?_eq_none (by simp [rowOf]; omega), List.getElem?_eq_none (by simp [rowOf]; omega)]
  rw [← e]
  exact this

theorem OwnOcts.later {w w' : World} {base g n cap : Nat} {f : Nat → Int} (h : OwnOcts w base g n cap f) (hb : Below w.heap.size w w') : OwnOcts w' base g n cap f := by
  have hlt := h.lt.2
  refine ⟨h.1, ?_⟩
  rcases h.2 with ⟨h', _⟩ | ⟨g', cap', cur, h', h1, h2, h3⟩
  · simp at h'
  · simp only [Value.slice.injEq, Option.some.injEq, Addr.mk.injEq, and_true, true_and] at h'
    obtain ⟨rfl, rfl⟩ := h'
    exact .inr ⟨g, cap, cur, rfl, h1, (hb.block g hlt).trans h2, h3⟩

theorem OwnOcts.drew {w : World} {base g n cap : Nat} {f : Nat → Int} (h : OwnOcts w base g n cap f) : OwnOcts w.drew base g n cap f := h

theorem OwnOcts.octs {w : World} {base g n cap : Nat} {f : Nat → Int} (h : OwnOcts w base g n cap f) (hn : n ≤ 140737488351232) (hf : ∀ i, i < n → 0 ≤ f i ∧ f i ≤ 255) : Octs w (some ⟨g, 0, none⟩) cap (rowOf n f) := by
  have hb : ∀ y ∈ rowOf n f, 0 ≤ y ∧ y ≤ 255 := by
    intro y hy
    obtain ⟨i, hi, rfl⟩ := List.mem_map.1 hy
    exact hf i (by simpa using hi)
  refine ⟨by rw [rowOf_length]; exact h.cap, by rw [rowOf_length]; exact hn, (fun e => by cases e), hb, .inr ⟨g, 0, rfl, fun i hi => ?_⟩⟩
  rw [rowOf_length] at hi
  rw [Nat.zero_add, h.cell hi, rowOf_getD f hi]

/-- a row that an append has laid, where it is not empty -/
theorem own_ownOcts {w : World} {base n : Nat} {v : Value} {xs : List Int} (hx : xs.length = n) (hn : 0 < n) (h : w.ownsRow base 5 1 v n (xs.map (Value.int .u8))) :
    ∃ g cap, v = .slice (some ⟨g, 0, none⟩) n cap ∧ OwnOcts w base g n cap (fun i => xs.getD i 0) := by
  obtain ⟨g, cap, rfl⟩ := own_form h hn
  refine ⟨g, cap, rfl, ?_⟩
  unfold OwnOcts
  subst hx
  rw [← eq_rowOf]
  exact h

/-- a row that was made holds zeros -/
theorem made_ownOcts {w : World} {base g n cap : Nat} (h : w.ownsRow base 5 1 (.slice (some ⟨g, 0, none⟩) n cap) n (madeCells (Value.int .u8 0).cells (n * 1)).toList) : OwnOcts w base g n cap (fun _ => 0) := by
  unfold OwnOcts
  have e : (madeCells (Value.int .u8 0).cells (n * 1)).toList = (rowOf n (fun _ => 0)).map (Value.int .u8) := by
    rw [show (Value.int .u8 0).cells = #[Value.int .u8 0] from rfl, toList_madeCells_one, Nat.mul_one]
    simp [rowOf, List.map_const']
  rw [← e]
  exact h

end Go.Proofs.YtjjencnnmpefbaaDoor
