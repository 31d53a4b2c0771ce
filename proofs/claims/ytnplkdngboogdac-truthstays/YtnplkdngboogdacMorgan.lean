/- Plain facts: picked truth values and their negatives, and what is kept of them; and rows that lie apart. -/
import Derived.Test.YtnplkdngboogdacRowOf
import Derived.Maps.AppendAt
namespace Go.Proofs.Ytnplkdngboogdac
open Go.ChangeShapes Go.WideShapes Go.ChangeAt Go.RowKit

/-- the truth values that are picked -/
def tsOf (xs : List Int) : List Int := xs.map (fun x => x % 3)

/-- their negatives -/
def nsOf (xs : List Int) : List Int := xs.map (fun x => 2 - x % 3)

theorem tsOf_length (xs : List Int) : (tsOf xs).length = xs.length := by simp [tsOf]
theorem nsOf_length (xs : List Int) : (nsOf xs).length = xs.length := by simp [nsOf]

theorem tsOf_all (xs : List Int) : (tsOf xs).all truthy = true := by
  simp only [tsOf, List.all_map, List.all_eq_true]
  intro x _
  simp only [Function.comp, truthy_iff]
  omega

theorem nsOf_all (xs : List Int) : (nsOf xs).all truthy = true := by
  simp only [nsOf, List.all_map, List.all_eq_true]
  intro x _
  simp only [Function.comp, truthy_iff]
  omega

theorem tsOf_step (xs : List Int) (k : Nat) (hk : k < xs.length) : tsOf (xs.take (k + 1)) = tsOf (xs.take k) ++ [xs.getD k 0 % 3] := by
  rw [take_step xs k hk]; simp [tsOf]

theorem nsOf_step (xs : List Int) (k : Nat) (hk : k < xs.length) : nsOf (xs.take (k + 1)) = nsOf (xs.take k) ++ [2 - xs.getD k 0 % 3] := by
  rw [take_step xs k hk]; simp [nsOf]

theorem morgan (xs : List Int) : ∀ m : Int, (nsOf xs).foldl max (2 - m) = 2 - (tsOf xs).foldl min m := by
  induction xs with
  | nil => intro m; simp [nsOf, tsOf]
  | cons y ys ih =>
    intro m
    have h := ih (min m (y % 3))
    simp only [nsOf, tsOf, List.map_cons, List.foldl_cons] at h ⊢
    rw [← h, show max (2 - m) (2 - y % 3) = 2 - min m (y % 3) by omega]

/-- the block that a row lies in is there -/
theorem own_lt {w : World} {base : Nat} {e : TypeId} {size : Nat} {v : Value} {n : Nat} {xs : List Value} (h : w.ownsRow base e size v n xs) {g : Nat} (hg : v.ownBlock = some g) : g < w.heap.size := by
  rcases h.2 with ⟨h1, _⟩ | ⟨g', cap, cur, h1, _, h3, _⟩
  · subst h1; simp [Value.ownBlock] at hg
  · subst h1
    simp only [Value.ownBlock, Option.some.injEq] at hg
    subst hg
    exact (Array.getElem?_eq_some_iff.1 h3).1

/-- two rows lie apart: the one is in no block, or not in the other's -/
def Apart (u v : Value) : Prop := u.ownBlock = none ∨ u.ownBlock ≠ v.ownBlock

theorem Apart.symm {u v : Value} (h : Apart u v) : Apart v u := by
  unfold Apart at *
  cases hv : v.ownBlock with
  | none => exact .inl rfl
  | some g =>
    right
    rcases h with h | h
    · rw [h]; simp
    · rw [hv] at h; exact fun e => h e.symm

/-- what an append has made of u lies apart from v, as u did -/
theorem Apart.grown {w : World} {u u' v : Value} {base : Nat} {e : TypeId} {size n : Nat} {xs : List Value} (h : Apart u v) (hv : w.ownsRow base e size v n xs)
    (hu : u'.ownBlock = u.ownBlock ∨ u'.ownBlock = some w.heap.size) : Apart u' v := by
  unfold Apart at *
  rcases hu with hu | hu
  · rw [hu]; exact h
  · right
    rw [hu]
    intro e
    have := own_lt hv e.symm
    omega

theorem own_ge {w : World} {base : Nat} {e : TypeId} {size : Nat} {v : Value} {n : Nat} {xs : List Value} (h : w.ownsRow base e size v n xs) : ∀ g, v.ownBlock = some g → base ≤ g := by
  intro g hg
  rcases h.2 with ⟨h1, _⟩ | ⟨g', cap, cur, h1, h2, _⟩
  · subst h1; simp [Value.ownBlock] at hg
  · subst h1
    simp only [Value.ownBlock, Option.some.injEq] at hg
    omega

theorem size_alloc (w : World) (o : Obj) : (w.alloc o).heap.size = w.heap.size + 1 := by simp

/-- one round's two appends, to two rows that lie apart -/
theorem two_step {w wr w1 w2 : World} {B k : Nat} {u v u1 v1 : Value} {tl nl : List Value} {t n : Value} (hbel : Below B w wr) (hB : B ≤ wr.heap.size)
    (hu : wr.ownsRow B 3 1 u k tl) (hv : wr.ownsRow B 3 1 v k nl) (hap : Apart u v)
    (hu1 : w1.ownsRow B 3 1 u1 (k + 1) (tl ++ [t])) (hg1 : (wr.alloc (.cells #[t] 3)).grownBy w1 u.ownBlock) (ho1 : u1.ownBlock = u.ownBlock ∨ u1.ownBlock = some (wr.alloc (.cells #[t] 3)).heap.size)
    (hv1 : w2.ownsRow B 3 1 v1 (k + 1) (nl ++ [n])) (hg2 : (w1.alloc (.cells #[n] 3)).grownBy w2 v.ownBlock) (ho2 : v1.ownBlock = v.ownBlock ∨ v1.ownBlock = some (w1.alloc (.cells #[n] 3)).heap.size) :
    w2.ownsRow B 3 1 u1 (k + 1) (tl ++ [t]) ∧ w2.ownsRow B 3 1 v1 (k + 1) (nl ++ [n]) ∧ Apart u1 v1 ∧ Below B w w2 := by
  have a1 : Apart u1 v := hap.grown (hv.alloc _) ho1
  have a2 : Apart v1 u1 := a1.symm.grown (hu1.alloc _) ho2
  have s1 := hg1.size
  rw [size_alloc] at s1
  refine ⟨(hu1.alloc _).kept hg2 a1, hv1, a2.symm, ?_⟩
  have b1 : Below B w w1 := (hbel.alloc hB _).grown hg1 (by rw [size_alloc]; omega) (own_ge hu)
  exact (b1.alloc (by omega) _).grown hg2 (by rw [size_alloc]; omega) (own_ge hv)

theorem min_in (xs : List Int) (h : xs.all truthy = true) : ∀ m : Int, 0 ≤ m → m ≤ 2 → 0 ≤ xs.foldl min m ∧ xs.foldl min m ≤ 2 := by
  induction xs with
  | nil => intro m h0 h2; exact ⟨h0, h2⟩
  | cons y ys ih =>
    intro m h0 h2
    rw [List.all_cons, Bool.and_eq_true] at h
    have hy := (truthy_iff y).1 h.1
    exact ih h.2 (min m y) (by omega) (by omega)

theorem pick_min_in {xs : List Int} (h : xs.all truthy = true) : 0 ≤ pickVal min 2 xs ∧ pickVal min 2 xs ≤ 2 := by
  simp only [pickVal, h, if_true]
  exact min_in xs h 2 (by omega) (by omega)

theorem one_oneCell (x : Int) : ∀ u ∈ [Value.int .i64 x], u.oneCell' = true := by
  intro u hu
  simp only [List.mem_singleton] at hu
  subst hu
  rfl

end Go.Proofs.Ytnplkdngboogdac
