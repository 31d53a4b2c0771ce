/- Plain facts on lists of whole numbers: the numbers that are truth values, what picking one of two from the left comes to, and what counting them tells. -/
import Derived.WalkKit
import Derived.ProofKit
namespace Go.Proofs.Ytnplkdngboogdac
open Go.ChangeShapes Go.WideShapes Go.ChangeAt Go.RowKit

/-- a truth value: 0, 1 or 2 -/
def truthy (x : Int) : Bool := decide (0 ≤ x ∧ x ≤ 2)

/-- what is kept, from m on, where all are truth values, else 0 -/
def pickVal (f : Int → Int → Int) (m : Int) (xs : List Int) : Int := if xs.all truthy = true then xs.foldl f m else 0

/-- 0 (OK) where all are truth values, else 2 (ErrRange) -/
def pickErr (xs : List Int) : Int := if xs.all truthy = true then 0 else 2

/-- the slice at 'ao' holds the numbers xs, no more than a slice may hold -/
def Elems (w : World) (ao : Option Addr) (xs : List Int) : Prop :=
  xs.length ≤ 140737488355328 ∧ (xs = [] ∨ ∃ b off, ao = some ⟨b, off, none⟩ ∧ ∀ i, i < xs.length → w.cell? ⟨b, off + i, none⟩ = some (.int .i64 (xs.getD i 0)))

theorem Elems.at {w : World} {ao : Option Addr} {xs : List Int} (h : Elems w ao xs) {k : Nat} (hk : k < xs.length) :
    ∃ b off, ao = some ⟨b, off, none⟩ ∧ w.cell? ⟨b, off + k, none⟩ = some (.int .i64 (xs.getD k 0)) := by
  rcases h.2 with h | ⟨b, off, e, hc⟩
  · subst h; simp at hk
  · exact ⟨b, off, e, hc k hk⟩

theorem Elems.below {w w' : World} {ao : Option Addr} {xs : List Int} {B : Nat} (h : Elems w ao xs) (hb : Below B w w') (hB : ∀ a, ao = some a → a.block < B) : Elems w' ao xs := by
  refine ⟨h.1, ?_⟩
  rcases h.2 with h | ⟨b, off, e, hc⟩
  · exact .inl h
  · exact .inr ⟨b, off, e, fun i hi => (hb.cell (show b < B from hB _ e)).trans (hc i hi)⟩

theorem truthy_iff (x : Int) : truthy x = true ↔ 0 ≤ x ∧ x ≤ 2 := by simp [truthy]

theorem take_step (xs : List Int) (k : Nat) (hk : k < xs.length) : xs.take (k + 1) = xs.take k ++ [xs.getD k 0] := by
  rw [List.take_succ_eq_append_getElem hk]
  simp [List.getD, List.getElem?_eq_getElem hk]

theorem all_take_step (xs : List Int) (k : Nat) (hk : k < xs.length) (h : (xs.take k).all truthy = true) (ht : truthy (xs.getD k 0) = true) : (xs.take (k + 1)).all truthy = true := by
  rw [take_step xs k hk, List.all_append, h]
  simpa using ht

theorem all_bad (xs : List Int) (k : Nat) (hk : k < xs.length) (ht : truthy (xs.getD k 0) = false) : xs.all truthy = false := by
  rw [List.all_eq_false]
  refine ⟨xs[k], List.getElem_mem hk, ?_⟩
  simpa [List.getD, List.getElem?_eq_getElem hk] using ht

theorem foldl_step (f : Int → Int → Int) (m : Int) (xs : List Int) (k : Nat) (hk : k < xs.length) : (xs.take (k + 1)).foldl f m = f ((xs.take k).foldl f m) (xs.getD k 0) := by
  rw [take_step xs k hk, List.foldl_append]
  rfl

end Go.Proofs.Ytnplkdngboogdac
