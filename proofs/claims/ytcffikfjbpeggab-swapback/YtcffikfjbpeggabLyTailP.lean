/- Tails, in plain words. -/
import Derived.Test.YtcffikfjbpeggabLyPlace
namespace Go.Proofs.Ytcffikfjbpeggab
open Go.ChangeShapes Go.WideShapes Go.ChangeAt Go.RowKit

/-- a position lies ahead of its chain's tail -/
def Ahead (n : Nat) (ts : List Int) (p : Nat) : Prop := ((p / n : Nat) : Int) < ts.getD (p % n) 0

instance (n : Nat) (ts : List Int) (p : Nat) : Decidable (Ahead n ts p) := inferInstanceAs (Decidable (_ < _))

/-- one more than the greatest position that lies ahead of its chain's tail -/
def IsTail (n : Nat) (ts : List Int) (T : Int) : Prop :=
  (∀ p : Nat, p < 64 * n → Ahead n ts p → (p : Int) < T) ∧ (T = 0 ∨ ∃ p : Nat, p < 64 * n ∧ Ahead n ts p ∧ T = p + 1)

theorem IsTail.unique {n : Nat} {ts : List Int} {T U : Int} (h : IsTail n ts T) (k : IsTail n ts U) : T = U := by
  rcases h.2 with h2 | ⟨p, p1, p2, p3⟩
  · rcases k.2 with k2 | ⟨q, q1, q2, q3⟩
    · omega
    · have := h.1 q q1 q2; omega
  · rcases k.2 with k2 | ⟨q, q1, q2, q3⟩
    · have := k.1 p p1 p2; omega
    · have := h.1 q q1 q2; have := k.1 p p1 p2; omega

/-- when so many chains were looked at -/
def tailK (n : Nat) (ts : List Int) : Nat → Int
  | 0 => 0
  | k + 1 => if 0 < ts.getD k 0 then max (tailK n ts k) ((ts.getD k 0 - 1) * n + k + 1) else tailK n ts k

/-- when so many positions were looked at -/
def refK (n : Nat) (ts : List Int) : Nat → Int
  | 0 => 0
  | p + 1 => if Ahead n ts p then p + 1 else refK n ts p

theorem refK_is (n : Nat) (ts : List Int) : ∀ m, m ≤ 64 * n → (∀ p : Nat, p < m → Ahead n ts p → (p : Int) < refK n ts m) ∧ (refK n ts m = 0 ∨ ∃ p : Nat, p < m ∧ Ahead n ts p ∧ refK n ts m = p + 1)
  | 0, _ => ⟨fun p hp => absurd hp (Nat.not_lt_zero _), .inl rfl⟩
  | m + 1, hm => by
    obtain ⟨h1, h2⟩ := refK_is n ts m (by omega)
    by_cases h : Ahead n ts m
    · have e : refK n ts (m + 1) = m + 1 := by simp only [refK, if_pos h]
      rw [e]
      exact ⟨fun p hp _ => by omega, .inr ⟨m, by omega, h, rfl⟩⟩
    · have e : refK n ts (m + 1) = refK n ts m := by simp only [refK, if_neg h]
      rw [e]
      refine ⟨fun p hp hh => ?_, ?_⟩
      · by_cases q : p = m
        · subst q; exact absurd hh h
        · exact h1 p (by omega) hh
      · rcases h2 with h2 | ⟨p, p1, p2, p3⟩
        · exact .inl h2
        · exact .inr ⟨p, by omega, p2, p3⟩

theorem tailK_is (n : Nat) (ts : List Int) (h64 : ∀ i, ts.getD i 0 ≤ 64) : ∀ k, k ≤ n →
    (∀ i A : Nat, i < k → (A : Int) < ts.getD i 0 → (A : Int) * n + i < tailK n ts k) ∧ (tailK n ts k = 0 ∨ ∃ i A : Nat, i < k ∧ (A : Int) < ts.getD i 0 ∧ tailK n ts k = (A : Int) * n + i + 1) ∧ 0 ≤ tailK n ts k
  | 0, _ => ⟨fun i A hi => absurd hi (Nat.not_lt_zero _), .inl rfl, Int.le_refl _⟩
  | k + 1, hk => by
    obtain ⟨h1, h2, h3⟩ := tailK_is n ts h64 k (by omega)
    by_cases h : 0 < ts.getD k 0
    · have e : tailK n ts (k + 1) = max (tailK n ts k) ((ts.getD k 0 - 1) * n + k + 1) := by simp only [tailK, if_pos h]
      rw [e]
      refine ⟨fun i A hi hA => ?_, ?_, by omega⟩
      · by_cases q : i = k
        · subst q
          have : (A : Int) * n ≤ (ts.getD i 0 - 1) * n := Int.mul_le_mul_of_nonneg_right (by omega) (by omega)
          omega
        · have := h1 i A (by omega) hA
          omega
      · by_cases q : tailK n ts k ≤ (ts.getD k 0 - 1) * n + k + 1
        · right
          refine ⟨k, (ts.getD k 0 - 1).toNat, by omega, by omega, ?_⟩
          rw [show (((ts.getD k 0 - 1).toNat : Nat) : Int) = ts.getD k 0 - 1 by omega]
          omega
        · rw [show max (tailK n ts k) ((ts.getD k 0 - 1) * n + k + 1) = tailK n ts k by omega]
          rcases h2 with h2 | ⟨i, A, p1, p2, p3⟩
          · exact .inl h2
          · exact .inr ⟨i, A, by omega, p2, p3⟩
    · have e : tailK n ts (k + 1) = tailK n ts k := by simp only [tailK, if_neg h]
      rw [e]
      refine ⟨fun i A hi hA => ?_, ?_, h3⟩
      · by_cases q : i = k
        · subst q; omega
        · exact h1 i A (by omega) hA
      · rcases h2 with h2 | ⟨i, A, p1, p2, p3⟩
        · exact .inl h2
        · exact .inr ⟨i, A, by omega, p2, p3⟩

theorem tail_is {n : Nat} {ts : List Int} (hn : 1 ≤ n) (h64 : ∀ i, ts.getD i 0 ≤ 64) : IsTail n ts (tailK n ts n) := by
  obtain ⟨h1, h2, h3⟩ := tailK_is n ts h64 n (Nat.le_refl _)
  refine ⟨fun p hp hh => ?_, ?_⟩
  · have := h1 (p % n) (p / n) (Nat.mod_lt _ hn) hh
    have e : ((p / n : Nat) : Int) * n + ((p % n : Nat) : Int) = p := by
      have := Nat.div_add_mod p n
      rw [Nat.mul_comm] at this
      exact_mod_cast this
    omega
  · rcases h2 with h2 | ⟨i, A, p1, p2, p3⟩
    · exact .inl h2
    · right
      have hA : A < 64 := by have := h64 i; omega
      have e1 : (A * n + i) / n = A := by rw [Nat.add_comm, Nat.add_mul_div_right _ _ (by omega), Nat.div_eq_of_lt p1, Nat.zero_add]
      have e2 : (A * n + i) % n = i := by rw [Nat.add_comm, Nat.add_mul_mod_self_right, Nat.mod_eq_of_lt p1]
      refine ⟨A * n + i, ?_, ?_, ?_⟩
      · have : (A + 1) * n ≤ 64 * n := Nat.mul_le_mul_right _ (by omega)
        rw [Nat.add_mul, Nat.one_mul] at this
        omega
      · unfold Ahead
        rw [e1, e2]
        exact p2
      · rw [p3]
        push_cast
        rfl

theorem ref_is (n : Nat) (ts : List Int) : IsTail n ts (refK n ts (64 * n)) := refK_is n ts (64 * n) (Nat.le_refl _)

/-- the tail of tails: the number, and that of the error -/
def tlc (r : Bool) (n : Nat) (ts : List Int) : Int × Int :=
  if r = false then (0, 4) else if ts.length ≠ n then (0, 1) else if ∀ t ∈ ts, 0 ≤ t ∧ t ≤ 64 then (tailK n ts n, 0) else (0, 2)

theorem getD_range {ts : List Int} (h : ∀ t ∈ ts, 0 ≤ t ∧ t ≤ 64) (i : Nat) : 0 ≤ ts.getD i 0 ∧ ts.getD i 0 ≤ 64 := by
  by_cases hi : i < ts.length
  · rw [List.getD_eq_getElem?_getD, List.getElem?_eq_getElem hi]
    exact h _ (List.getElem_mem _)
  · rw [List.getD_eq_getElem?_getD, List.getElem?_eq_none (by omega)]
    exact ⟨by decide, by decide⟩

end Go.Proofs.Ytcffikfjbpeggab
