/- Plain facts: what is kept of truth values when one that was unknown is put otherwise; and one row's append. -/
import Derived.Test.YtnplkdngboogdacMorgan
import Derived.Test.YtnplkdngboogdacFoldMin
import Derived.Test.YtnplkdngboogdacFoldMax
namespace Go.Proofs.Ytnplkdngboogdac
open Go.ChangeShapes Go.WideShapes Go.ChangeAt Go.RowKit

theorem min_le (xs : List Int) : ∀ m : Int, xs.foldl min m ≤ m ∧ ∀ x ∈ xs, xs.foldl min m ≤ x := by
  induction xs with
  | nil => intro m; simp
  | cons y ys ih =>
    intro m
    have h := ih (min m y)
    refine ⟨by simp only [List.foldl_cons]; omega, ?_⟩
    intro x hx
    simp only [List.foldl_cons]
    rcases List.mem_cons.1 hx with rfl | hx
    · omega
    · exact h.2 x hx

theorem min_mem (xs : List Int) : ∀ m : Int, xs.foldl min m = m ∨ xs.foldl min m ∈ xs := by
  induction xs with
  | nil => intro m; simp
  | cons y ys ih =>
    intro m
    simp only [List.foldl_cons]
    rcases ih (min m y) with h | h
    · rw [h]
      by_cases hm : m ≤ y
      · left; omega
      · right; rw [show min m y = y by omega]; exact List.mem_cons_self
    · right; exact List.mem_cons_of_mem _ h

theorem max_le (xs : List Int) : ∀ m : Int, m ≤ xs.foldl max m ∧ ∀ x ∈ xs, x ≤ xs.foldl max m := by
  induction xs with
  | nil => intro m; simp
  | cons y ys ih =>
    intro m
    have h := ih (max m y)
    refine ⟨by simp only [List.foldl_cons]; omega, ?_⟩
    intro x hx
    simp only [List.foldl_cons]
    rcases List.mem_cons.1 hx with rfl | hx
    · omega
    · exact h.2 x hx

theorem max_mem (xs : List Int) : ∀ m : Int, xs.foldl max m = m ∨ xs.foldl max m ∈ xs := by
  induction xs with
  | nil => intro m; simp
  | cons y ys ih =>
    intro m
    simp only [List.foldl_cons]
    rcases ih (max m y) with h | h
    · rw [h]
      by_cases hm : y ≤ m
      · left; omega
      · right; rw [show max m y = y by omega]; exact List.mem_cons_self
    · right; exact List.mem_cons_of_mem _ h

theorem all_mem {xs : List Int} (h : xs.all truthy = true) {x : Int} (hx : x ∈ xs) : 0 ≤ x ∧ x ≤ 2 := (truthy_iff x).1 (List.all_eq_true.1 h x hx)

theorem set_all {xs : List Int} (h : xs.all truthy = true) (p : Nat) (z : Int) (hz : 0 ≤ z ∧ z ≤ 2) : (xs.set p z).all truthy = true := by
  rw [List.all_eq_true]
  intro x hx
  rcases List.mem_or_eq_of_mem_set hx with hx | hx
  · exact List.all_eq_true.1 h x hx
  · rw [hx, truthy_iff]; exact hz

/-- another number than the one that is put otherwise stays among them -/
theorem mem_set_other {xs : List Int} {p : Nat} (hp : p < xs.length) {x z : Int} (hx : x ∈ xs) (hne : xs.getD p 0 ≠ x) : x ∈ xs.set p z := by
  obtain ⟨j, hj, rfl⟩ := List.mem_iff_getElem.1 hx
  have hjp : p ≠ j := by
    rintro rfl
    exact hne (by simp [List.getD, List.getElem?_eq_getElem hp])
  refine List.mem_iff_getElem.2 ⟨j, by simpa using hj, ?_⟩
  rw [List.getElem_set_ne hjp]

theorem getD_mem {xs : List Int} {p : Nat} (hp : p < xs.length) : xs.getD p 0 ∈ xs := by
  simp [List.getD, List.getElem?_eq_getElem hp]

/-- one that is known bounds what is kept -/
theorem stays_known {xs : List Int} (h : xs.all truthy = true) {p : Nat} (hp : p < xs.length) {y : Int} (hy : y = xs.getD p 0) : pickVal min 2 xs ≤ y ∧ y ≤ pickVal max 0 xs := by
  have m : y ∈ xs := by rw [hy]; exact getD_mem hp
  simp only [pickVal, h, if_true]
  exact ⟨(min_le xs 2).2 _ m, (max_le xs 0).2 _ m⟩

/-- one that is unknown, put otherwise: what was known stays -/
theorem stays_least {xs : List Int} (h : xs.all truthy = true) {p : Nat} (hp : p < xs.length) (hy : xs.getD p 0 = 1) (z : Int) (hz : 0 ≤ z ∧ z ≤ 2) :
    pickVal min 2 xs = 1 ∨ (pickVal min 2 xs = 0 ∧ pickVal min 2 (xs.set p z) = 0) := by
  have m : (1 : Int) ∈ xs := by rw [← hy]; exact getD_mem hp
  have h' := set_all h p z hz
  simp only [pickVal, h, h', if_true]
  have l := (min_le xs 2).2 _ m
  rcases min_mem xs 2 with e | e
  · omega
  · have b := all_mem h e
    by_cases z0 : xs.foldl min 2 = 0
    · right
      refine ⟨z0, ?_⟩
      rw [z0] at e
      have m0 := mem_set_other (z := z) hp e (by omega)
      have l0 := (min_le (xs.set p z) 2).2 _ m0
      rcases min_mem (xs.set p z) 2 with e2 | e2
      · omega
      · have := all_mem h' e2; omega
    · left; omega

theorem stays_most {xs : List Int} (h : xs.all truthy = true) {p : Nat} (hp : p < xs.length) (hy : xs.getD p 0 = 1) (z : Int) (hz : 0 ≤ z ∧ z ≤ 2) :
    pickVal max 0 xs = 1 ∨ (pickVal max 0 xs = 2 ∧ pickVal max 0 (xs.set p z) = 2) := by
  have m : (1 : Int) ∈ xs := by rw [← hy]; exact getD_mem hp
  have h' := set_all h p z hz
  simp only [pickVal, h, h', if_true]
  have l := (max_le xs 0).2 _ m
  rcases max_mem xs 0 with e | e
  · omega
  · have b := all_mem h e
    by_cases z0 : xs.foldl max 0 = 2
    · right
      refine ⟨z0, ?_⟩
      rw [z0] at e
      have m0 := mem_set_other (z := z) hp e (by omega)
      have l0 := (max_le (xs.set p z) 0).2 _ m0
      rcases max_mem (xs.set p z) 0 with e2 | e2
      · omega
      · have := all_mem h' e2; omega
    · left; omega

/-- the form of a row that holds something -/
theorem own_form {w : World} {base n : Nat} {v : Value} {vs : List Value} (h : w.ownsRow base 3 1 v n vs) (hn : 0 < n) : ∃ g cap, v = .slice (some ⟨g, 0, none⟩) n cap ∧ base ≤ g := by
  rcases h.2 with ⟨_, h2⟩ | ⟨g, cap, cur, h1, h2, _⟩
  · omega
  · exact ⟨g, cap, h1, h2⟩

theorem own_cells {w : World} {base n g cap : Nat} {xs : List Int} {vs : List Value} (hn : n = xs.length) (hv : vs = xs.map (Value.int .i64)) (hb : xs.length ≤ 140737488355328)
    (h : w.ownsRow base 3 1 (.slice (some ⟨g, 0, none⟩) n cap) n vs) :
    Elems w (some ⟨g, 0, none⟩) xs ∧ (∀ j u, (xs.map (Value.int .i64))[j]? = some u → w.cell? ((⟨g, 0, none⟩ : Addr).add j) = some u) ∧
      ∀ j, j < n → w.cell? ⟨g, j, none⟩ = some (.int .i64 (xs.getD j 0)) := by
  subst hn hv
  have hc : ∀ j, j < xs.length → w.cell? ⟨g, j, none⟩ = some (.int .i64 (xs.getD j 0)) := by
    intro j hj
    rw [h.cellAt j (by omega)]
    simp [List.getD, List.getElem?_eq_getElem hj]
  refine ⟨⟨hb, .inr ⟨g, 0, rfl, fun i hi => by rw [Nat.zero_add]; exact hc i hi⟩⟩, ?_, hc⟩
  intro j u hj
  have hjl : j < xs.length := by
    have := (List.getElem?_eq_some_iff.1 hj).1
    simpa using this
  have ea : (⟨g, 0, none⟩ : Addr).add j = ⟨g, j, none⟩ := by cases j <;> simp [Addr.add]
  rw [ea, h.cellAt j (by omega), hj]

/-- a store into a row that the call itself has laid -/
theorem own_stored {w : World} {base n g cap : Nat} {xs : List Int} {vs : List Value} (hn : n = xs.length) (hv : vs = xs.map (Value.int .i64)) (h : w.ownsRow base 3 1 (.slice (some ⟨g, 0, none⟩) n cap) n vs) (p : Nat) (z : Int) :
    (w.setCell ⟨g, p, none⟩ (.int .i64 z)).ownsRow base 3 1 (.slice (some ⟨g, 0, none⟩) n cap) n ((xs.set p z).map (Value.int .i64)) ∧ n = (xs.set p z).length := by
  subst hn hv
  refine ⟨?_, by simp⟩
  have := (h.stored p (.int .i64 z)).1
  rwa [← List.map_set] at this

theorem And_len (ao : Option Addr) (cap n : Nat) (xs : List Int) (hn : n = xs.length) (w : World) (he : Elems w ao xs) (h : xs.all truthy = true) (A : Int) (hA : A = pickVal min 2 xs) :
    Calls Try.prog 5 #[.slice ao n cap] w fun e w' => e = .returned (.tuple #[.int .i64 A, .int .i64 0]) ∧ w = w' := by
  have := And_any ao cap xs w he
  rw [show pickErr xs = 0 by simp only [pickErr, h, if_true], ← hA, ← hn] at this
  exact this

theorem Or_len (ao : Option Addr) (cap n : Nat) (xs : List Int) (hn : n = xs.length) (w : World) (he : Elems w ao xs) (h : xs.all truthy = true) (A : Int) (hA : A = pickVal max 0 xs) :
    Calls Try.prog 6 #[.slice ao n cap] w fun e w' => e = .returned (.tuple #[.int .i64 A, .int .i64 0]) ∧ w = w' := by
  have := Or_any ao cap xs w he
  rw [show pickErr xs = 0 by simp only [pickErr, h, if_true], ← hA, ← hn] at this
  exact this

/-- one round's append -/
theorem one_step {w wr w1 : World} {B k : Nat} {u u1 : Value} {tl : List Value} {t : Value} (hbel : Below B w wr) (hB : B ≤ wr.heap.size)
    (hu : wr.ownsRow B 3 1 u k tl) (hu1 : w1.ownsRow B 3 1 u1 (k + 1) (tl ++ [t])) (hg1 : (wr.alloc (.cells #[t] 3)).grownBy w1 u.ownBlock) :
    w1.ownsRow B 3 1 u1 (k + 1) (tl ++ [t]) ∧ Below B w w1 ∧ B ≤ w1.heap.size := by
  have s1 := hg1.size
  rw [size_alloc] at s1
  exact ⟨hu1, (hbel.alloc hB _).grown hg1 (by rw [size_alloc]; omega) (own_ge hu), by omega⟩

end Go.Proofs.Ytnplkdngboogdac
