/- How many bytes a token takes: at least one, no more than there are. No model here. -/
import Derived.Test.YtjeniabnokcbnaaGreatDoorLexMore
namespace Go.Proofs.YtjeniabnokcbnaaGreatDoor

theorem quoted_len (m : Nat) : ∀ (l : List UInt8), l.length ≤ m → ∀ t n, quoted l = some (t, n) → 1 ≤ n ∧ n ≤ l.length := by
  induction m with
  | zero =>
    intro l hl t n h
    have : l = [] := List.length_eq_zero_iff.1 (by omega)
    subst this
    cases h
  | succ m ih =>
    intro l hl t n h
    cases l with
    | nil => cases h
    | cons c r =>
      by_cases hc : c.toNat = 39
      · cases r with
        | nil =>
          rw [quoted_last _ hc] at h
          cases h
          simp
        | cons d r =>
          by_cases hd : d.toNat = 39
          · rw [quoted_two _ _ _ hc hd] at h
            cases hq : quoted r with
            | none => rw [hq] at h; cases h
            | some p =>
              rw [hq] at h
              cases h
              simp only [List.length_cons] at hl ⊢
              have := ih r (by omega) p.1 p.2 hq
              omega
          · rw [quoted_end _ _ _ hc hd] at h
            cases h
            simp
      · rw [quoted_other _ _ hc] at h
        cases hq : quoted r with
        | none => rw [hq] at h; cases h
        | some p =>
          rw [hq] at h
          cases h
          simp only [List.length_cons] at hl ⊢
          have := ih r (by omega) p.1 p.2 hq
          omega

theorem markLen_le (l : List UInt8) : markLen l ≤ l.length := by
  match l with
  | [] => exact Nat.le_refl _
  | [a] => simp only [markLen]; split <;> simp
  | a :: b :: r => simp only [markLen]; split <;> simp; split <;> simp

theorem one_len {l : List UInt8} {t : Tok} {n : Nat} (h : one l = .tok t n) : 1 ≤ n ∧ n ≤ l.length := by
  cases l with
  | nil => cases h
  | cons c r =>
    have tw : ∀ p : UInt8 → Bool, ((c :: r).takeWhile p).length ≤ (c :: r).length := fun p => (List.takeWhile_sublist (p := p) (l := c :: r)).length_le
    simp only [one] at h
    split at h
    · rename_i h1
      split at h
      · cases h
      · have hw : wordy c = true := by simp [wordy, h1]
        cases h
        refine ⟨?_, tw _⟩
        rw [List.takeWhile_cons, hw]
        simp
    · split at h
      · rename_i h1
        split at h
        · cases h
        · cases h
          refine ⟨?_, tw _⟩
          rw [List.takeWhile_cons, h1]
          simp
      · split at h
        · split at h
          · cases h
          · rename_i p hq
            split at h
            · cases h
            · split at h
              · cases h
                have := quoted_len _ r (Nat.le_refl _) _ _ hq
                simp only [List.length_cons]
                omega
              · cases h
        · split at h
          · cases h
          · cases h
            have := markLen_le (c :: r)
            omega

theorem one_bad {l : List UInt8} {e : Int} (hl : l ≠ []) (h : one l = .bad e) : e ≠ 0 := by
  cases l with
  | nil => exact absurd rfl hl
  | cons c r =>
    simp only [one] at h
    repeat' split at h
    all_goals first | (cases h; done) | (cases h; decide)

end Go.Proofs.YtjeniabnokcbnaaGreatDoor
