/- What comes of LexPlain's words: gaps by steps, numbers digit by digit, quotes chunk by chunk. No model here. -/
import Derived.Test.YtedinkoapieakaaDoorLexPlain
namespace Go.Proofs.YtedinkoapieakaaDoor

theorem drop_cons {l : List UInt8} {i : Nat} (hi : i < l.length) : l.drop i = l[i] :: l.drop (i + 1) := List.drop_eq_getElem_cons hi

theorem on_lt (p : UInt8 → Bool) (l : List UInt8) (i k : Nat) (h1 : i ≤ k) (h2 : k < on p l i) (hk : k < l.length) : p l[k] = true := by
  obtain ⟨n, hn⟩ : ∃ n, n = l.length - i := ⟨_, rfl⟩
  induction n generalizing i with
  | zero => omega
  | succ n ih =>
    have hi : i < l.length := by omega
    by_cases hb : p l[i] = true
    · rw [on_step _ _ _ hi hb] at h2
      by_cases he : i = k
      · subst he
        exact hb
      · exact ih (i + 1) (by omega) h2 (by omega)
    · rw [on_stop _ _ _ (fun hi => by simpa using hb)] at h2
      omega

theorem on_end (p : UInt8 → Bool) (l : List UInt8) (i j : Nat) (hj : on p l i = j) (hk : j < l.length) : p l[j] = false := by
  obtain ⟨n, hn⟩ : ∃ n, n = l.length - i := ⟨_, rfl⟩
  induction n generalizing i with
  | zero =>
    have := on_ge p l i
    omega
  | succ n ih =>
    have hi : i < l.length := by omega
    by_cases hb : p l[i] = true
    · rw [on_step _ _ _ hi hb] at hj
      exact ih (i + 1) hj (by omega)
    · rw [on_stop _ _ _ (fun hi => by simpa using hb)] at hj
      subst hj
      simpa using hb

theorem gap_skip (l : List UInt8) (i : Nat) (h : i ≤ l.length) : i + gap false (l.drop i) = on blank l i + gap false (l.drop (on blank l i)) := by
  obtain ⟨n, hn⟩ : ∃ n, n = l.length - i := ⟨_, rfl⟩
  induction n generalizing i with
  | zero =>
    rw [on_stop _ _ _ (fun hi => by omega)]
  | succ n ih =>
    have hi : i < l.length := by omega
    by_cases hb : blank l[i] = true
    · rw [on_step _ _ _ hi hb, ← ih (i + 1) (by omega) (by omega), drop_cons hi]
      simp only [gap, hb, if_true]
      omega
    · rw [on_stop _ _ _ (fun hi => by simpa using hb)]

theorem gap_line (l : List UInt8) (i : Nat) (h : i ≤ l.length) : i + gap true (l.drop i) = on noLine l i + gap false (l.drop (on noLine l i)) := by
  obtain ⟨n, hn⟩ : ∃ n, n = l.length - i := ⟨_, rfl⟩
  induction n generalizing i with
  | zero =>
    rw [on_stop _ _ _ (fun hi => by omega), List.drop_eq_nil_of_le (by omega)]
    rfl
  | succ n ih =>
    have hi : i < l.length := by omega
    by_cases hb : noLine l[i] = true
    · rw [on_step _ _ _ hi hb, ← ih (i + 1) (by omega) (by omega), drop_cons hi]
      simp only [gap, hb]
      omega
    · have hb' : noLine l[i] = false := by simpa using hb
      have hbl : blank l[i] = true := by
        simp only [noLine, Bool.not_eq_false', decide_eq_true_eq] at hb'
        simp [blank, hb']
      rw [on_stop _ _ _ (fun hi => hb'), drop_cons hi]
      simp only [gap, hb', hbl, if_true]

/-- two - at a place -/
def dashes (l : List UInt8) (i : Nat) : Bool := begins (l.drop i) [45, 45]

theorem dashes_iff (l : List UInt8) (i : Nat) : dashes l i = true ↔ ∃ h : i + 1 < l.length, l[i].toNat = 45 ∧ l[i + 1].toNat = 45 := by
  unfold dashes begins
  by_cases h : i + 1 < l.length
  · rw [drop_cons (by omega : i < l.length), drop_cons h]
    simp only [List.isPrefixOf, Bool.and_true, Bool.and_eq_true, beq_iff_eq]
    constructor
    · rintro ⟨h1, h2⟩
      exact ⟨h, by rw [← h1]; rfl, by rw [← h2]; rfl⟩
    · rintro ⟨_, h1, h2⟩
      exact ⟨UInt8.toNat.inj (by rw [h1]; rfl), UInt8.toNat.inj (by rw [h2]; rfl)⟩
  · constructor
    · intro h1
      have := (List.isPrefixOf_iff_prefix.1 h1).length_le
      rw [List.length_drop] at this
      simp only [List.length_cons, List.length_nil] at this
      omega
    · rintro ⟨h1, _⟩
      omega

theorem gap_dashes (l : List UInt8) (i : Nat) (h : dashes l i = true) : i + gap false (l.drop i) = i + gap true (l.drop i) := by
  obtain ⟨h, h1, h2⟩ := (dashes_iff l i).1 h
  rw [drop_cons (by omega : i < l.length)]
  have hb : blank l[i] = false := by simp [blank, h1]
  have hn : noLine l[i] = true := by simp [noLine, h1]
  have h3 : (l.drop (i + 1)).head?.map (·.toNat) = some 45 := by
    rw [drop_cons h]
    show some (l[i + 1].toNat) = some 45
    rw [h2]
  simp only [gap, hb, hn, h1, h3, and_self, if_true, Bool.false_eq_true, if_false]

theorem gap_none (l : List UInt8) (i : Nat) (hb : ∀ hi : i < l.length, blank l[i] = false) (hd : dashes l i = false) : gap false (l.drop i) = 0 := by
  by_cases hi : i < l.length
  · rw [drop_cons hi]
    have h3 : ¬ (l[i].toNat = 45 ∧ (l.drop (i + 1)).head?.map (·.toNat) = some 45) := by
      rintro ⟨h1, h2⟩
      by_cases hj : i + 1 < l.length
      · rw [drop_cons hj] at h2
        have h3 : l[i + 1].toNat = 45 := Option.some.inj h2
        have : dashes l i = true := (dashes_iff l i).2 ⟨hj, h1, h3⟩
        rw [hd] at this
        cases this
      · rw [List.drop_eq_nil_of_le (by omega)] at h2
        cases h2
    simp only [gap, hb hi, h3, Bool.false_eq_true, if_false]
  · rw [List.drop_eq_nil_of_le (by omega)]
    rfl

/- numbers -/
def numFrom (a : Nat) (l : List UInt8) : Nat := l.foldl (fun n c => n * 10 + (c.toNat - 48)) a

theorem numFrom_ge (a : Nat) (l : List UInt8) : a ≤ numFrom a l := by
  induction l generalizing a with
  | nil => exact Nat.le_refl _
  | cons c r ih =>
    have := ih (a * 10 + (c.toNat - 48))
    simp only [numFrom, List.foldl_cons] at this ⊢
    omega

theorem num_append (a b : List UInt8) : num (a ++ b) = numFrom (num a) b := by
  unfold num numFrom
  rw [List.foldl_append]

theorem num_push (a : List UInt8) (c : UInt8) : num (a ++ [c]) = num a * 10 + (c.toNat - 48) := by
  rw [num_append]
  rfl

theorem parseUintM_digits (M : Nat) (hM : M < 18446744073709551616) (l : List UInt8) (hd : ∀ c ∈ l, digit c = true) (a : Nat) (ha : a ≤ M) :
    Lib.parseUintM M a l = if M < numFrom a l then .range else .ok (numFrom a l) := by
  induction l generalizing a with
  | nil =>
    have h3 : ¬ M < a := by omega
    show Lib.NumEnd.ok a = if M < a then Lib.NumEnd.range else Lib.NumEnd.ok a
    rw [if_neg h3]
  | cons c r ih =>
    have hc := hd c (List.mem_cons_self ..)
    simp only [digit, Bool.and_eq_true, decide_eq_true_eq] at hc
    have hr : ∀ c ∈ r, digit c = true := fun c h => hd c (List.mem_cons_of_mem _ h)
    have hg := numFrom_ge (a * 10 + (c.toNat - 48)) r
    have he : numFrom a (c :: r) = numFrom (a * 10 + (c.toNat - 48)) r := rfl
    rw [Lib.parseUintM, if_pos hc, he]
    by_cases h1 : 1844674407370955162 ≤ a
    · have h3 : M < numFrom (a * 10 + (c.toNat - 48)) r := by omega
      rw [if_pos h1, if_pos h3]
    · rw [if_neg h1]
      by_cases h2 : M < a * 10 + (c.toNat - 48)
      · have h3 : M < numFrom (a * 10 + (c.toNat - 48)) r := by omega
        rw [if_pos h2, if_pos h3]
      · rw [if_neg h2, ih hr _ (by omega)]

theorem parseIntB_digits (l : List UInt8) (hne : l ≠ []) (hd : ∀ c ∈ l, digit c = true) :
    Lib.parseIntB 64 l = if 9223372036854775807 < num l then .range else .ok (num l : Int) := by
  obtain ⟨c, r, rfl⟩ := List.exists_cons_of_ne_nil hne
  have hc := hd c (List.mem_cons_self ..)
  simp only [digit, Bool.and_eq_true, decide_eq_true_eq] at hc
  have h43 : ¬ (c.toNat = 43 ∨ c.toNat = 45) := by omega
  have h45 : ¬ c.toNat = 45 := by omega
  have hu : Lib.parseUintB 64 (c :: r) = if 18446744073709551615 < num (c :: r) then .range else .ok (num (c :: r)) := by
    rw [Lib.parseUintB, if_neg hne]
    exact parseUintM_digits 18446744073709551615 (by decide) _ hd 0 (Nat.zero_le _)
  have h63 : (2 : Nat) ^ (64 - 1) = 9223372036854775808 := by decide
  unfold Lib.parseIntB
  simp only [if_neg h43, hu, h63]
  by_cases h1 : 18446744073709551615 < num (c :: r)
  · have h2 : 9223372036854775807 < num (c :: r) := by omega
    rw [if_pos h1, if_pos h2]
  · rw [if_neg h1]
    by_cases h2 : 9223372036854775807 < num (c :: r)
    · have h3 : ¬ c.toNat = 45 ∧ 9223372036854775808 ≤ num (c :: r) := ⟨h45, by omega⟩
      rw [if_pos h2]
      simp only [if_pos h3]
    · have h3 : ¬ (¬ c.toNat = 45 ∧ 9223372036854775808 ≤ num (c :: r)) := fun h => by omega
      have h4 : ¬ (c.toNat = 45 ∧ 9223372036854775808 < num (c :: r)) := fun h => by omega
      rw [if_neg h2]
      simp only [if_neg h3, if_neg h4, if_neg h45]

/- quotes -/
theorem quoted_other (c : UInt8) (r : List UInt8) (h : ¬ c.toNat = 39) : quoted (c :: r) = (quoted r).map fun p => (c :: p.1, p.2 + 1) := by
  rw [quoted.eq_def]
  simp only [if_neg h]
theorem quoted_last (c : UInt8) (h : c.toNat = 39) : quoted [c] = some ([], 1) := by
  rw [quoted.eq_def]
  simp only [if_pos h]
theorem quoted_end (c d : UInt8) (r : List UInt8) (h : c.toNat = 39) (hd : ¬ d.toNat = 39) : quoted (c :: d :: r) = some ([], 1) := by
  rw [quoted.eq_def]
  simp only [if_pos h, if_neg hd]
theorem quoted_two (c d : UInt8) (r : List UInt8) (h : c.toNat = 39) (hd : d.toNat = 39) : quoted (c :: d :: r) = (quoted r).map fun p => (d :: p.1, p.2 + 2) := by
  rw [quoted.eq_def]
  simp only [if_pos h, if_pos hd]

theorem quoted_on (l : List UInt8) (i : Nat) (h : i ≤ l.length) :
    quoted (l.drop i) = (quoted (l.drop (on noQuote l i))).map fun p => ((l.drop i).take (on noQuote l i - i) ++ p.1, p.2 + (on noQuote l i - i)) := by
  obtain ⟨n, hn⟩ : ∃ n, n = l.length - i := ⟨_, rfl⟩
  induction n generalizing i with
  | zero =>
    rw [on_stop _ _ _ (fun hi => by omega)]
    simp
  | succ n ih =>
    have hi : i < l.length := by omega
    by_cases hb : noQuote l[i] = true
    · have hq : ¬ l[i].toNat = 39 := by simpa [noQuote] using hb
      have hge := on_ge noQuote l (i + 1)
      rw [on_step _ _ _ hi hb, drop_cons hi, quoted_other _ _ hq, ih (i + 1) (by omega) (by omega), Option.map_map]
      have e1 : on noQuote l (i + 1) - i = (on noQuote l (i + 1) - (i + 1)) + 1 := by omega
      rw [e1, List.take_succ_cons]
      congr 1
    · rw [on_stop _ _ _ (fun hi => by simpa using hb)]
      simp

end Go.Proofs.YtedinkoapieakaaDoor
