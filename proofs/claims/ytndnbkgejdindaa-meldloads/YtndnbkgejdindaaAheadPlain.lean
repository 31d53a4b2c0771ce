/- Plain facts: bytes ahead of bytes, bytes that begin with bytes, and the next ones. -/
import Derived.Test.YtndnbkgejdindaaNextPlain
namespace Go.Proofs.Ytndnbkgejdindaa
open Go.ChangeShapes Go.WideShapes Go.ChangeAt Go.RowKit

/-- is the first list ahead of the second, byte by byte -/
def ahead : List Int → List Int → Bool
  | _, [] => false
  | [], _ :: _ => true
  | x :: xs, y :: ys => if x = y then ahead xs ys else decide (x < y)

/-- does the first list begin with the second -/
def starts : List Int → List Int → Bool
  | _, [] => true
  | [], _ :: _ => false
  | x :: xs, y :: ys => decide (x = y) && starts xs ys

theorem starts_short : ∀ (ys xs : List Int), xs.length < ys.length → starts xs ys = false
  | [], xs, h => by simp at h
  | y :: ys, [], h => rfl
  | y :: ys, x :: xs, h => by
    simp only [List.length_cons] at h
    simp only [starts, starts_short ys xs (by omega), Bool.and_false]

theorem starts_take : ∀ (ys xs : List Int), ys.length ≤ xs.length → starts xs ys = decide (xs.take ys.length = ys)
  | [], xs, h => by simp [starts]
  | y :: ys, [], h => by simp at h
  | y :: ys, x :: xs, h => by
    simp only [List.length_cons] at h
    simp only [starts, starts_take ys xs (by omega), List.length_cons, List.take_succ_cons, List.cons.injEq, Bool.decide_and]

theorem ahead_drop : ∀ (k : Nat) (xs ys : List Int), k ≤ xs.length → k ≤ ys.length → xs.take k = ys.take k → ahead xs ys = ahead (xs.drop k) (ys.drop k)
  | 0, xs, ys, _, _, _ => by simp
  | k + 1, [], ys, h, _, _ => by simp at h
  | k + 1, x :: xs, [], _, h, _ => by simp at h
  | k + 1, x :: xs, y :: ys, h1, h2, h => by
    simp only [List.length_cons] at h1 h2
    simp only [List.take_succ_cons, List.cons.injEq] at h
    simp only [ahead, if_pos h.1, List.drop_succ_cons]
    exact ahead_drop k xs ys (by omega) (by omega) h.2

theorem drop_at (xs : List Int) (k : Nat) (hk : k < xs.length) : xs.drop k = xs.getD k 0 :: xs.drop (k + 1) := by
  rw [List.drop_eq_getElem_cons hk]
  simp [List.getD, List.getElem?_eq_getElem hk]

/-- the first two that differ tell -/
theorem ahead_differ {xs ys : List Int} {k : Nat} (hx : k < xs.length) (hy : k < ys.length) (h : xs.take k = ys.take k) (hne : ¬ xs.getD k 0 = ys.getD k 0) : ahead xs ys = decide (xs.getD k 0 < ys.getD k 0) := by
  rw [ahead_drop k xs ys (by omega) (by omega) h, drop_at xs k hx, drop_at ys k hy]
  simp only [ahead, if_neg hne]

/-- where none differ, the lengths tell -/
theorem ahead_ends {xs ys : List Int} {k : Nat} (hx : k ≤ xs.length) (hy : k ≤ ys.length) (h : xs.take k = ys.take k) (he : k = xs.length ∨ k = ys.length) : ahead xs ys = decide (xs.length < ys.length) := by
  rw [ahead_drop k xs ys hx hy h]
  by_cases h2 : k = ys.length
  · rw [show ys.drop k = [] from List.drop_eq_nil_iff.2 (by omega)]
    have : ¬ xs.length < ys.length := by omega
    simp [ahead, this]
  · have h1 : k = xs.length := by omega
    rw [show xs.drop k = [] from List.drop_eq_nil_iff.2 (by omega), drop_at ys k (by omega)]
    have : xs.length < ys.length := by omega
    simp [ahead, this]

/-- of bytes that are all 255 -/
theorem starts_high : ∀ (a b : List Int), (∀ y ∈ a, y = 255) → (∀ y ∈ b, 0 ≤ y ∧ y ≤ 255) → starts b a = !ahead b a
  | [], b, _, _ => by simp [starts, ahead]
  | x :: a, [], _, _ => by simp [starts, ahead]
  | x :: a, y :: b, ha, hb => by
    have hx : x = 255 := ha x List.mem_cons_self
    have hy := hb y List.mem_cons_self
    have ih := starts_high a b (fun z hz => ha z (List.mem_cons_of_mem _ hz)) (fun z hz => hb z (List.mem_cons_of_mem _ hz))
    simp only [starts, ahead]
    by_cases e : y = x
    · simp [e, ih]
    · have hlt : y < x := by omega
      simp [e, hlt]

/-- of bytes whose last one below 255 is c -/
theorem starts_next : ∀ (p : List Int) (c : Int) (a b : List Int), (∀ y ∈ a, y = 255) → (∀ y ∈ b, 0 ≤ y ∧ y ≤ 255) →
    starts b (p ++ c :: a) = (!ahead b (p ++ c :: a) && ahead b (p ++ [c + 1]))
  | [], c, a, [], _, _ => by simp [starts, ahead]
  | [], c, a, y :: b, ha, hb => by
    have ih := starts_high a b ha (fun z hz => hb z (List.mem_cons_of_mem _ hz))
    simp only [List.nil_append, starts, ahead]
    by_cases e : y = c
    · simp [e, ih]
      intro _
      omega
    · by_cases h : y < c
      · simp [e, h]
      · have h1 : ¬ y < c + 1 := by omega
        simp [e, h1]
  | q :: p, c, a, [], _, _ => by simp [starts, ahead]
  | q :: p, c, a, y :: b, ha, hb => by
    have ih := starts_next p c a b ha (fun z hz => hb z (List.mem_cons_of_mem _ hz))
    simp only [List.cons_append, starts, ahead]
    by_cases e : y = q
    · simp [e, ih]
    · simp [e]

theorem ahead_next : ∀ (p : List Int) (c : Int) (a : List Int), ahead (p ++ c :: a) (p ++ [c + 1]) = true
  | [], c, a => by
    have h1 : ¬ c = c + 1 := by omega
    have h2 : c < c + 1 := by omega
    simp [ahead, h1, h2]
  | q :: p, c, a => by
    simp only [List.cons_append, ahead, if_true]
    exact ahead_next p c a

/-- behind the stem all are 255 -/
theorem stemLen_above {xs : List Int} : ∀ (n i : Nat), stemLen xs n ≤ i → i < n → xs.getD i 0 = 255
  | 0, i, _, h => by omega
  | n + 1, i, h1, h2 => by
    simp only [stemLen] at h1
    split at h1
    · by_cases e : i = n
      · subst e; assumption
      · exact stemLen_above n i h1 (by omega)
    · omega

theorem high_of_none {xs : List Int} (h : stemLen xs xs.length = 0) : ∀ y ∈ xs, y = 255 := by
  intro y hy
  obtain ⟨i, hi, rfl⟩ := List.mem_iff_getElem.1 hy
  have := stemLen_above (xs := xs) xs.length i (by omega) hi
  simpa [List.getD, List.getElem?_eq_getElem hi] using this

theorem parted {xs : List Int} {k : Nat} (h : stemLen xs xs.length = k + 1) : ∃ a, xs = xs.take k ++ xs.getD k 0 :: a ∧ ∀ y ∈ a, y = 255 := by
  have hl := stemLen_le xs xs.length
  have hk : k < xs.length := by omega
  refine ⟨xs.drop (k + 1), ?_, ?_⟩
  · rw [← drop_at xs k hk, List.take_append_drop]
  · intro y hy
    obtain ⟨i, hi, rfl⟩ := List.mem_iff_getElem.1 hy
    simp only [List.length_drop] at hi
    have := stemLen_above (xs := xs) xs.length (k + 1 + i) (by omega) (by omega)
    rw [List.getElem_drop]
    simpa [List.getD, List.getElem?_eq_getElem (show k + 1 + i < xs.length by omega)] using this

end Go.Proofs.Ytndnbkgejdindaa
