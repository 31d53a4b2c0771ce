/- Texts of signs of UTF-8, one behind the other. No model here. -/
import Derived.Test.YtogkghifpocgmaaDoorLexJoinPlain
namespace Go.Proofs.YtogkghifpocgmaaDoor

theorem utf_fuel : ∀ (n m : Nat) (l : List UInt8), l.length ≤ n → l.length ≤ m → signsN n l = signsN m l
  | 0, m, l, hn, _ => by
    have : l = [] := List.eq_nil_of_length_eq_zero (by omega)
    subst this
    cases m <;> simp [signsN]
  | n + 1, 0, l, _, hm => by
    have : l = [] := List.eq_nil_of_length_eq_zero (by omega)
    subst this
    simp [signsN]
  | n + 1, m + 1, l, hn, hm => by
    simp only [signsN]
    by_cases hl : l = []
    · rw [if_pos hl, if_pos hl]
    · rw [if_neg hl, if_neg hl]
      by_cases hs : sz l = 0
      · rw [if_pos hs, if_pos hs]
      · rw [if_neg hs, if_neg hs]
        have := List.length_pos_iff.2 hl
        exact utf_fuel n m _ (by rw [List.length_drop]; omega) (by rw [List.length_drop]; omega)

theorem utf_step (l : List UInt8) (hl : l ≠ []) : signs l = if sz l = 0 then false else signs (l.drop (sz l)) := by
  have h := List.length_pos_iff.2 hl
  unfold signs
  rw [utf_fuel l.length (l.length - 1 + 1) l (Nat.le_refl _) (by omega)]
  simp only [signsN]
  rw [if_neg hl]
  by_cases hs : sz l = 0
  · rw [if_pos hs, if_pos hs]
  · rw [if_neg hs, if_neg hs]
    exact utf_fuel _ _ _ (by rw [List.length_drop]; omega) (by rw [List.length_drop]; omega)

theorem sz_len (l : List UInt8) : sz l ≤ l.length := by
  unfold sz
  repeat' split
  all_goals first | omega | (have := List.length_pos_iff.2 ‹¬l = []›; omega)

theorem sz_append (a b : List UInt8) (h : sz a ≠ 0) : sz (a ++ b) = sz a := by
  have g : ∀ k, k < a.length → (a ++ b).getD k 0 = a.getD k 0 := fun k hk => by
    rw [List.getD_eq_getElem?_getD, List.getD_eq_getElem?_getD, List.getElem?_append_left hk]
  have hne : a ≠ [] := fun e => h (by rw [e]; rfl)
  have hpos := List.length_pos_iff.2 hne
  have hne2 : a ++ b ≠ [] := by simp [hne]
  have hl : (a ++ b).length = a.length + b.length := List.length_append
  have g0 := g 0 hpos
  unfold sz goes code3 code4 at h ⊢
  rw [if_neg hne] at h
  rw [if_neg hne, if_neg hne2, g0]
  by_cases h1 : (a.getD 0 0).toNat < 128
  · rw [if_pos h1, if_pos h1]
  rw [if_neg h1] at h
  rw [if_neg h1, if_neg h1]
  by_cases h2 : 194 ≤ (a.getD 0 0).toNat ∧ (a.getD 0 0).toNat < 224
  · rw [if_pos h2] at h
    rw [if_pos h2, if_pos h2]
    split at h
    · rename_i c
      rw [g 1 (by omega), if_pos c, if_pos ⟨by omega, c.2⟩]
    · exact absurd rfl h
  rw [if_neg h2] at h
  rw [if_neg h2, if_neg h2]
  by_cases h3 : 224 ≤ (a.getD 0 0).toNat ∧ (a.getD 0 0).toNat < 240
  · rw [if_pos h3] at h
    rw [if_pos h3, if_pos h3]
    split at h
    · rename_i c
      rw [g 1 (by omega), g 2 (by omega), if_pos c, if_pos ⟨by omega, c.2⟩]
    · exact absurd rfl h
  rw [if_neg h3] at h
  rw [if_neg h3, if_neg h3]
  by_cases h4 : 240 ≤ (a.getD 0 0).toNat ∧ (a.getD 0 0).toNat < 245
  · rw [if_pos h4] at h
    rw [if_pos h4, if_pos h4]
    split at h
    · rename_i c
      rw [g 1 (by omega), g 2 (by omega), g 3 (by omega), if_pos c, if_pos ⟨by omega, c.2⟩]
    · exact absurd rfl h
  · rw [if_neg h4] at h
    exact absurd rfl h

theorem signs_append (n : Nat) : ∀ (a b : List UInt8), a.length ≤ n → signs a = true → signs (a ++ b) = signs b := by
  induction n with
  | zero =>
    intro a b hn _
    have : a = [] := List.eq_nil_of_length_eq_zero (by omega)
    subst this
    rfl
  | succ n ih =>
    intro a b hn h
    by_cases ha : a = []
    · subst ha
      rfl
    · have hpos := List.length_pos_iff.2 ha
      rw [utf_step a ha] at h
      by_cases hs : sz a = 0
      · rw [if_pos hs] at h
        cases h
      · rw [if_neg hs] at h
        have hle := sz_len a
        rw [utf_step (a ++ b) (by simp [ha]), sz_append a b hs, if_neg hs, List.drop_append_of_le_length hle]
        exact ih _ b (by rw [List.length_drop]; omega) h

theorem signs_push {a b : List UInt8} (ha : signs a = true) (hb : signs b = true) : signs (a ++ b) = true := by
  rw [signs_append a.length a b (Nat.le_refl _) ha]
  exact hb

theorem signs_one (c : UInt8) (h : c.toNat < 128) : signs [c] = true := by
  have hs : sz [c] = 1 := by
    unfold sz
    rw [if_neg (by simp)]
    exact if_pos h
  rw [utf_step [c] (by simp), hs]
  rfl

theorem signs_two : signs [195, 169] = true := by decide

end Go.Proofs.YtogkghifpocgmaaDoor
