/- Plain facts: bytes without the 255 at their end, and the least bytes behind whatever begins with them. -/
import Derived.Test.YtndnbkgejdindaaOctAppendAt
namespace Go.Proofs.Ytndnbkgejdindaa
open Go.ChangeShapes Go.WideShapes Go.ChangeAt Go.RowKit

/-- how many of the first k bytes stand ahead of the 255 at their end -/
def stemLen (xs : List Int) : Nat → Nat
  | 0 => 0
  | k + 1 => if xs.getD k 0 = 255 then stemLen xs k else k + 1

theorem stemLen_le (xs : List Int) (k : Nat) : stemLen xs k ≤ k := by
  induction k with
  | zero => simp [stemLen]
  | succ k ih => simp only [stemLen]; split <;> omega

theorem stemLen_high {xs : List Int} {k : Nat} (h : xs.getD k 0 = 255) : stemLen xs (k + 1) = stemLen xs k := by simp only [stemLen, if_pos h]

theorem stemLen_low {xs : List Int} {k : Nat} (h : ¬ xs.getD k 0 = 255) : stemLen xs (k + 1) = k + 1 := by simp only [stemLen, if_neg h]

/-- what stands at the stem's end is no 255 -/
theorem stemLen_last {xs : List Int} {k j : Nat} (h : stemLen xs k = j + 1) : ¬ xs.getD j 0 = 255 := by
  induction k with
  | zero => simp [stemLen] at h
  | succ k ih =>
    simp only [stemLen] at h
    split at h
    · exact ih h
    · obtain rfl : k = j := by omega
      assumption

/-- the least bytes that are greater than whatever begins with xs; nothing where there are none, or where there are too many -/
def nextVal (xs : List Int) : List Int :=
  if 1200 < xs.length then [] else match stemLen xs xs.length with
    | 0 => []
    | k + 1 => xs.take k ++ [xs.getD k 0 + 1]

/-- 1: too many; 6: there are none -/
def nextErr (xs : List Int) : Int := if 1200 < xs.length then 1 else if stemLen xs xs.length = 0 then 6 else 0

theorem nextVal_big {xs : List Int} (h : 1200 < xs.length) : nextVal xs = [] := by simp only [nextVal, if_pos h]
theorem nextErr_big {xs : List Int} (h : 1200 < xs.length) : nextErr xs = 1 := by simp only [nextErr, if_pos h]
theorem nextVal_none {xs : List Int} (h : ¬ 1200 < xs.length) (h0 : stemLen xs xs.length = 0) : nextVal xs = [] := by simp only [nextVal, if_neg h, h0]
theorem nextErr_none {xs : List Int} (h : ¬ 1200 < xs.length) (h0 : stemLen xs xs.length = 0) : nextErr xs = 6 := by simp only [nextErr, if_neg h, h0, if_true]
theorem nextVal_some {xs : List Int} {k : Nat} (h : ¬ 1200 < xs.length) (h0 : stemLen xs xs.length = k + 1) : nextVal xs = xs.take k ++ [xs.getD k 0 + 1] := by simp only [nextVal, if_neg h, h0]
theorem nextErr_some {xs : List Int} {k : Nat} (h : ¬ 1200 < xs.length) (h0 : stemLen xs xs.length = k + 1) : nextErr xs = 0 := by
  have : ¬ (k + 1 = 0) := by omega
  simp only [nextErr, if_neg h, h0, if_neg this]

theorem nextVal_bytes {xs : List Int} (hx : ∀ y ∈ xs, 0 ≤ y ∧ y ≤ 255) : ∀ y ∈ nextVal xs, 0 ≤ y ∧ y ≤ 255 := by
  intro y hy
  by_cases h : 1200 < xs.length
  · rw [nextVal_big h] at hy; cases hy
  · rcases h0 : stemLen xs xs.length with _ | k
    · rw [nextVal_none h h0] at hy; cases hy
    · rw [nextVal_some h h0] at hy
      have hl := stemLen_le xs xs.length
      have hn := stemLen_last h0
      rcases List.mem_append.1 hy with hy | hy
      · exact hx y (List.mem_of_mem_take hy)
      · have hk : k < xs.length := by omega
        have hm : xs.getD k 0 ∈ xs := by
          simp only [List.getD, List.getElem?_eq_getElem hk, Option.getD_some]
          exact List.getElem_mem hk
        have := hx _ hm
        simp only [List.mem_singleton] at hy
        omega

theorem take_snoc (xs : List Int) (k : Nat) (hk : k < xs.length) : xs.take (k + 1) = xs.take k ++ [xs.getD k 0] := by
  rw [List.take_succ_eq_append_getElem hk]
  simp [List.getD, List.getElem?_eq_getElem hk]

/-- the last of the first bytes, written over -/
theorem set_last (xs : List Int) (k : Nat) (hk : k < xs.length) (u : Value) : ((xs.take (k + 1)).map (Value.int .u8)).set k u = (xs.take k).map (Value.int .u8) ++ [u] := by
  rw [take_snoc xs k hk, List.map_append, List.set_append_right _ _ (by simp; omega)]
  have : k - (List.map (Value.int .u8) (List.take k xs)).length = 0 := by simp; omega
  rw [this]
  simp

end Go.Proofs.Ytndnbkgejdindaa
