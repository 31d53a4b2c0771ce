/- Plain facts: bytes without the 255 at their end, and the least bytes behind whatever begins with them. -/
import Derived.Test.YtjjdednlddnllaaRowsStep
namespace Go.Proofs.Ytjjdednlddnllaa
open Go.ChangeShapes Go.WideShapes Go.ChangeAt Go.RowKit

/-- how many of the first k bytes stand ahead of the 255 at their end -/
def stemLen (xs : List Int) : Nat → Nat
  | 0 => 0
  | k + 1 => if xs.getD k 0 = 255 then stemLen xs k else k + 1

theorem stemLen_le (xs : List Int) (k : Nat) : stemLen xs k ≤ k := by
  induction k with
  | zero => simp [stemLen]
  | succ k ih => simp only [stemLen]; split <;> omega

theorem stemLen_high {xs : List Int} {k : Nat} (h : xs.getD k 0 = 255) : stemLen xs (k + 1) = stemLen xs k := by simp only [stemLen, if_pos h]

theorem stemLen_low {xs : List Int} {k : Nat} (h : ¬ xs.getD k 0 = 255) : stemLen xs (k + 1) = k + 1 := by simp only [stemLen, if_neg h]

/-- what stands at the stem's end is no 255 -/
theorem stemLen_last {xs : List Int} {k j : Nat} (h : stemLen xs k = j + 1) : ¬ xs.getD j 0 = 255 := by
  induction k with
  | zero => simp [stemLen] at h
  | succ k ih =>
    simp only [stemLen] at h
    split at h
    · exact ih h
    · obtain rfl : k = j := by omega
      assumption

/-- the least bytes that are greater than whatever begins with xs; nothing where there are none, or where there are too many -/
def nextVal (xs : List Int) : List Int :=
  if 1200 < xs.length then [] else match stemLen xs xs.length with
    | 0 => []
    | k + 1 => xs.take k ++ [xs.getD k 0 + 1]

/-- 1: too many; 6: there are none -/
def nextErr (xs : List Int) : Int := if 1200 < xs.length then 1 else if stemLen xs xs.length = 0 then 6 else 0

theorem nextVal_big {xs : List Int} (h : 1200 < xs.length) : nextVal xs = [] := by simp only [nextVal, if_pos h]
theorem nextErr_big {xs : List Int} (h : 1200 < xs.length) : nextErr xs = 1 := by simp only [nextErr, if_pos h]
theorem nextVal_none {xs : List Int} (h : ¬ 1200 < xs.length) (h0 : stemLen xs xs.length = 0) : nextVal xs = [] := by simp only [nextVal, if_neg h, h0]
theorem nextErr_none {xs : List Int} (h : ¬ 1200 < xs.length) (h0 : stemLen xs xs.length = 0) : nextErr xs = 6 := by simp only [nextErr, if_neg h, h0, if_true]
theorem nextVal_some {xs : List Int} {k : Nat} (h : ¬ 1200 < xs.length) (h0 : stemLen xs xs.length = k + 1) : nextVal xs = xs.take k ++ [xs.getD k 0 + 1] := by simp only [nextVal, if_neg h, h0]
theorem nextErr_some {xs : List Int} {k : Nat} (h : ¬ 1200 < xs.length) (h0 : stemLen xs xs.length = k + 1) : nextErr xs = 0 := by
  have : ¬ (k + 1 = 0) := by omega
  simp only [nextErr, if_neg h, h0, if_neg this]

theorem nextVal_bytes {xs : List Int} (hx : ∀ y ∈ xs, 0 ≤ y ∧ y ≤ 255) : ∀ y ∈ nextVal xs, 0 ≤ y ∧ y ≤ 255 := by
  intro y hy
  by_cases h : 1200 < xs.length
  · rw [nextVal_big h] at hy; cases hy
  · rcases h0 : stemLen xs xs.length with _ | k
    · rw [nextVal_none h h0] at hy; cases hy
    · rw [nextVal_some h h0] at hy
      have hl := stemLen_le xs xs.length
      have hn := stemLen_last h0
      rcases List.mem_append.1 hy with hy | hy
      · exact hx y (List.mem_of_mem_take hy)
      · have hk : k < xs.length := by omega
        have hm : xs.getD k 0 ∈ xs := by
          simp only [List.getD, List.getElem?_eq_getElem hk, Option.getD_some]
          exact List.getElem_mem hk
        have := hx _ hm
        simp only [List.mem_singleton] at hy
        omega

theorem take_snoc (xs : List Int) (k : Nat) (hk : k < xs.length) : xs.take (k + 1) = xs.take k ++ [xs.getD k 0] := by
  rw [List.take_succ_eq_append_getElem hk]
  simp [List.getD, List.getElem?_eq_getElem hk]

/-- the last of the first bytes, written over -/
theorem set_last (xs : List Int) (k : Nat) (hk : k < xs.length) (u : Value) : ((xs.take (k + 1)).map (Value.int .u8)).set k u = (xs.take k).map (Value.int .u8) ++ [u] := by
  rw [take_snoc xs k hk, List.map_append, List.set_append_right _ _ (by simp; omega)]
  have : k - (List.map (Value.int .u8) (List.take k xs)).length = 0 := by simp; omega
  rw [this]
  simp

end Go.Proofs.Ytjjdednlddnllaa

/- Plain facts: bytes ahead of bytes, bytes that begin with bytes, and the next ones. -/
namespace Go.Proofs.Ytjjdednlddnllaa
open Go.ChangeShapes Go.WideShapes Go.ChangeAt Go.RowKit

/-- is the first list ahead of the second, byte by byte -/
def ahead : List Int → List Int → Bool
  | _, [] => false
  | [], _ :: _ => true
  | x :: xs, y :: ys => if x = y then ahead xs ys else decide (x < y)

/-- does the first list begin with the second -/
def starts : List Int → List Int → Bool
  | _, [] => true
  | [], _ :: _ => false
  | x :: xs, y :: ys => decide (x = y) && starts xs ys

theorem starts_short : ∀ (ys xs : List Int), xs.length < ys.length → starts xs ys = false
  | [], xs, h => by simp at h
  | y :: ys, [], h => rfl
  | y :: ys, x :: xs, h => by
    simp only [List.length_cons] at h
    simp only [starts, starts_short ys xs (by omega), Bool.and_false]

theorem starts_take : ∀ (ys xs : List Int), ys.length ≤ xs.length → starts xs ys = decide (xs.take ys.length = ys)
  | [], xs, h => by simp [starts]
  | y :: ys, [], h => by simp at h
  | y :: ys, x :: xs, h => by
    simp only [List.length_cons] at h
    simp only [starts, starts_take ys xs (by omega), List.length_cons, List.take_succ_cons, List.cons.injEq, Bool.decide_and]

theorem ahead_drop : ∀ (k : Nat) (xs ys : List Int), k ≤ xs.length → k ≤ ys.length → xs.take k = ys.take k → ahead xs ys = ahead (xs.drop k) (ys.drop k)
  | 0, xs, ys, _, _, _ => by simp
  | k + 1, [], ys, h, _, _ => by simp at h
  | k + 1, x :: xs, [], _, h, _ => by simp at h
  | k + 1, x :: xs, y :: ys, h1, h2, h => by
    simp only [List.length_cons] at h1 h2
    simp only [List.take_succ_cons, List.cons.injEq] at h
    simp only [ahead, if_pos h.1, List.drop_succ_cons]
    exact ahead_drop k xs ys (by omega) (by omega) h.2

theorem drop_at (xs : List Int) (k : Nat) (hk : k < xs.length) : xs.drop k = xs.getD k 0 :: xs.drop (k + 1) := by
  rw [List.drop_eq_getElem_cons hk]
  simp [List.getD, List.getElem?_eq_getElem hk]

/-- the first two that differ tell -/
theorem ahead_differ {xs ys : List Int} {k : Nat} (hx : k < xs.length) (hy : k < ys.length) (h : xs.take k = ys.take k) (hne : ¬ xs.getD k 0 = ys.getD k 0) : ahead xs ys = decide (xs.getD k 0 < ys.getD k 0) := by
  rw [ahead_drop k xs ys (by omega) (by omega) h, drop_at xs k hx, drop_at ys k hy]
  simp only [ahead, if_neg hne]

/-- where none differ, the lengths tell -/
theorem ahead_ends {xs ys : List Int} {k : Nat} (hx : k ≤ xs.length) (hy : k ≤ ys.length) (h : xs.take k = ys.take k) (he : k = xs.length ∨ k = ys.length) : ahead xs ys = decide (xs.length < ys.length) := by
  rw [ahead_drop k xs ys hx hy h]
  by_cases h2 : k = ys.length
  · rw [show ys.drop k = [] from List.drop_eq_nil_iff.2 (by omega)]
    have : ¬ xs.length < ys.length := by omega
    simp [ahead, this]
  · have h1 : k = xs.length := by omega
    rw [show xs.drop k = [] from List.drop_eq_nil_iff.2 (by omega), drop_at ys k (by omega)]
    have : xs.length < ys.length := by omega
    simp [ahead, this]

/-- of bytes that are all 255 -/
theorem starts_high : ∀ (a b : List Int), (∀ y ∈ a, y = 255) → (∀ y ∈ b, 0 ≤ y ∧ y ≤ 255) → starts b a = !ahead b a
  | [], b, _, _ => by simp [starts, ahead]
  | x :: a, [], _, _ => by simp [starts, ahead]
  | x :: a, y :: b, ha, hb => by
    have hx : x = 255 := ha x List.mem_cons_self
    have hy := hb y List.mem_cons_self
    have ih := starts_high a b (fun z hz => ha z (List.mem_cons_of_mem _ hz)) (fun z hz => hb z (List.mem_cons_of_mem _ hz))
    simp only [starts, ahead]
    by_cases e : y = x
    · simp [e, ih]
    · have hlt : y < x := by omega
      simp [e, hlt]

/-- of bytes whose last one below 255 is c -/
theorem starts_next : ∀ (p : List Int) (c : Int) (a b : List Int), (∀ y ∈ a, y = 255) → (∀ y ∈ b, 0 ≤ y ∧ y ≤ 255) →
    starts b (p ++ c :: a) = (!ahead b (p ++ c :: a) && ahead b (p ++ [c + 1]))
  | [], c, a, [], _, _ => by simp [starts, ahead]
  | [], c, a, y :: b, ha, hb => by
    have ih := starts_high a b ha (fun z hz => hb z (List.mem_cons_of_mem _ hz))
    simp only [List.nil_append, starts, ahead]
    by_cases e : y = c
    · simp [e, ih]
      intro _
      omega
    · by_cases h : y < c
      · simp [e, h]
      · have h1 : ¬ y < c + 1 := by omega
        simp [e, h1]
  | q :: p, c, a, [], _, _ => by simp [starts, ahead]
  | q :: p, c, a, y :: b, ha, hb => by
    have ih := starts_next p c a b ha (fun z hz => hb z (List.mem_cons_of_mem _ hz))
    simp only [List.cons_append, starts, ahead]
    by_cases e : y = q
    · simp [e, ih]
    · simp [e]

theorem ahead_next : ∀ (p : List Int) (c : Int) (a : List Int), ahead (p ++ c :: a) (p ++ [c + 1]) = true
  | [], c, a => by
    have h1 : ¬ c = c + 1 := by omega
    have h2 : c < c + 1 := by omega
    simp [ahead, h1, h2]
  | q :: p, c, a => by
    simp only [List.cons_append, ahead, if_true]
    exact ahead_next p c a

/-- behind the stem all are 255 -/
theorem stemLen_above {xs : List Int} : ∀ (n i : Nat), stemLen xs n ≤ i → i < n → xs.getD i 0 = 255
  | 0, i, _, h => by omega
  | n + 1, i, h1, h2 => by
    simp only [stemLen] at h1
    split at h1
    · by_cases e : i = n
      · subst e; assumption
      · exact stemLen_above n i h1 (by omega)
    · omega

theorem high_of_none {xs : List Int} (h : stemLen xs xs.length = 0) : ∀ y ∈ xs, y = 255 := by
  intro y hy
  obtain ⟨i, hi, rfl⟩ := List.mem_iff_getElem.1 hy
  have := stemLen_above (xs := xs) xs.length i (by omega) hi
  simpa [List.getD, List.getElem?_eq_getElem hi] using this

theorem parted {xs : List Int} {k : Nat} (h : stemLen xs xs.length = k + 1) : ∃ a, xs = xs.take k ++ xs.getD k 0 :: a ∧ ∀ y ∈ a, y = 255 := by
  have hl := stemLen_le xs xs.length
  have hk : k < xs.length := by omega
  refine ⟨xs.drop (k + 1), ?_, ?_⟩
  · rw [← drop_at xs k hk, List.take_append_drop]
  · intro y hy
    obtain ⟨i, hi, rfl⟩ := List.mem_iff_getElem.1 hy
    simp only [List.length_drop] at hi
    have := stemLen_above (xs := xs) xs.length (k + 1 + i) (by omega) (by omega)
    rw [List.getElem_drop]
    simpa [List.getD, List.getElem?_eq_getElem (show k + 1 + i < xs.length by omega)] using this

end Go.Proofs.Ytjjdednlddnllaa
