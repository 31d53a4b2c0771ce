/- How many bytes joined tokens have; joined, token by token. No model here. -/
import Derived.Test.YtogkghifpocgmaaDoorLexJoinPlain
namespace Go.Proofs.YtogkghifpocgmaaDoor

theorem joined_push (a : List Tok) (t : Tok) : joined (a ++ [t]) = if a = [] then wr t else joined a ++ 32 :: wr t := by
  induction a with
  | nil => simp [joined]
  | cons u a ih =>
    rw [List.cons_append, joined_cons, joined_cons]
    have h : ¬ a ++ [t] = [] := by simp
    rw [if_neg h, if_neg (by simp), ih]
    by_cases ha : a = []
    · subst ha
      simp
    · rw [if_neg ha, if_neg ha]
      simp

theorem decDigits_len (m : Nat) : ∀ n, n < 10 ^ (m + 1) → (Lib.decDigits n).length ≤ m + 1 := by
  induction m with
  | zero =>
    intro n hn
    rw [Lib.decDigits, dif_pos (by simpa using hn)]
    simp
  | succ m ih =>
    intro n hn
    rw [Lib.decDigits]
    split
    · simp
    · rw [List.length_append]
      have := ih (n / 10) (by rw [Nat.pow_succ] at hn; omega)
      simp only [List.length_cons, List.length_nil]
      omega

theorem twice_le (l : List UInt8) : (twice l).length ≤ 2 * l.length := by
  induction l with
  | nil => simp [twice]
  | cons c l ih =>
    by_cases hc : c.toNat = 39
    · have e : twice (c :: l) = c :: c :: twice l := by simp [twice, hc]
      rw [e]
      simp only [List.length_cons]
      omega
    · have e : twice (c :: l) = c :: twice l := by simp [twice, hc]
      rw [e]
      simp only [List.length_cons]
      omega

theorem wr_len {t : Tok} (ht : may t = true) (hi : t.int ≤ 9223372036854775807) : (wr t).length ≤ 82 := by
  obtain ⟨k, n, x⟩ := t
  unfold may at ht
  simp only at ht hi
  unfold wr
  simp only
  by_cases h2 : k = 2
  · rw [if_pos h2]
    have := decDigits_len 18 n.toNat (by omega)
    omega
  rw [if_neg h2]
  by_cases h3 : k = 3
  · rw [if_neg (by omega), if_neg h2, if_pos h3] at ht
    simp only [Bool.and_eq_true, decide_eq_true_eq] at ht
    rw [if_pos h3]
    have := twice_le x
    simp
    omega
  rw [if_neg h3]
  by_cases h1 : k = 1
  · rw [if_pos h1] at ht
    simp only [Bool.and_eq_true, decide_eq_true_eq, isWord] at ht
    omega
  · rw [if_neg h1, if_neg h2, if_neg h3] at ht
    split at ht
    · simp only [Bool.and_eq_true, decide_eq_true_eq] at ht
      rcases isMark_cases ht.2 with ⟨a, rfl, _⟩ | ⟨a, b, rfl, _⟩ <;> simp
    · cases ht

theorem joined_len {ts : List Tok} (hm : ∀ t ∈ ts, may t = true ∧ t.int ≤ 9223372036854775807) : (joined ts).length ≤ 83 * ts.length := by
  induction ts with
  | nil => simp [joined]
  | cons t ts ih =>
    have h1 := hm t (by simp)
    have h2 := wr_len h1.1 h1.2
    have h3 := ih (fun u hu => hm u (by simp [hu]))
    rw [joined_cons, List.length_append, List.length_cons]
    split
    · simp
      omega
    · simp
      omega

/-- what Join answers: the bytes, and an error -/
def joinAns (ts : List Tok) : List UInt8 × Int :=
  if 300 < ts.length then ([], 8) else if ts.all may then (if 2000 < (joined ts).length then ([], 1) else (joined ts, 0)) else ([], 4)

end Go.Proofs.YtogkghifpocgmaaDoor
