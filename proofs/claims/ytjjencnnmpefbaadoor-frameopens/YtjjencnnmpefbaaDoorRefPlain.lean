/- The division of the document, bit by bit, against words: plain arithmetic. -/
import Derived.Test.YtjjencnnmpefbaaDoorCrcPlain
namespace Go.Proofs.YtjjencnnmpefbaaDoor

/-- the divisor, x^32 first -/
def divisor (i : Nat) : Bool := (0x1db710641#33).getLsbD i

theorem divisor_ok : ∀ k, k < 32 → divisor (k + 1) = (0xedb88320#32).getLsbD k := by decide

/-- the divisor taken away at a place, as far as it has come -/
def taken (f : Nat → Bool) (i m : Nat) : Nat → Bool := fun j => if i ≤ j ∧ j < i + m then (f j ^^ divisor (j - i)) else f j

/-- so many places divided -/
def divn (f : Nat → Bool) : Nat → Nat → Bool
  | 0 => f
  | i + 1 => if divn f i i then taken (divn f i) i 33 else divn f i

/-- words, a bit of the row at a time -/
def words (inp : Nat → Bool) (r : BitVec 32) : Nat → BitVec 32
  | 0 => r
  | i + 1 => one (words inp r i ^^^ (if inp i then 1#32 else 0#32))

theorem one_bit (r : BitVec 32) (k : Nat) (hk : k < 32) : (one r).getLsbD k = (r.getLsbD (k + 1) ^^ (r.getLsbD 0 && divisor (k + 1))) := by
  unfold one
  rw [BitVec.getLsbD_xor, BitVec.getLsbD_ushiftRight, show 1 + k = k + 1 by omega, divisor_ok k hk]
  cases r.getLsbD 0 <;> simp

theorem bit_word (b : Bool) (k : Nat) : (if b then 1#32 else 0#32).getLsbD k = (b && decide (k = 0)) := by
  cases b
  · simp
  · cases k with
    | zero => simp
    | succ k =>
      simp only [if_true, Bool.true_and, Nat.succ_ne_zero, decide_false]
      rw [show (1#32) = 1#32 <<< 0 by decide, BitVec.getLsbD_shiftLeft]
      simp

/-- the row, as it is divided, holds the words -/
theorem divn_words (inp f : Nat → Bool) (r : BitVec 32) (hf : ∀ j, f j = (r.getLsbD j ^^ inp j)) :
    ∀ i, (∀ k, k < 32 → divn f i (i + k) = ((words inp r i).getLsbD k ^^ inp (i + k))) ∧ ∀ j, i + 32 ≤ j → divn f i j = inp j := by
  intro i
  induction i with
  | zero =>
    refine ⟨fun k _ => by simpa [divn, words] using hf k, fun j hj => ?_⟩
    show f j = inp j
    rw [hf j, BitVec.getLsbD_of_ge _ _ (by omega)]
    simp
  | succ i ih =>
    have h0 := ih.1 0 (by omega)
    have hg : ∀ k, k < 32 → divn f i (i + 1 + k) = ((words inp r i).getLsbD (k + 1) ^^ inp (i + 1 + k)) := by
      intro k hk
      by_cases h : k + 1 < 32
      · have := ih.1 (k + 1) h
        rw [show i + 1 + k = i + (k + 1) by omega]
        exact this
      · rw [ih.2 (i + 1 + k) (by omega), BitVec.getLsbD_of_ge _ _ (by omega)]
        simp
    have hw : ∀ k, k < 32 → (words inp r (i + 1)).getLsbD k = ((words inp r i).getLsbD (k + 1) ^^ (divn f i i && divisor (k + 1))) := by
      intro k hk
      show (one _).getLsbD k = _
      rw [one_bit _ k hk]
      rw [BitVec.getLsbD_xor, BitVec.getLsbD_xor, bit_word, bit_word]
      rw [show divn f i i = ((words inp r i).getLsbD 0 ^^ inp i) from h0]
      simp
    constructor
    · intro k hk
      rw [hw k hk]
      show (if divn f i i then taken (divn f i) i 33 else divn f i) (i + 1 + k) = _
      cases hb : divn f i i
      · simp only [Bool.false_eq_true, if_false, Bool.false_and, Bool.xor_false]
        exact hg k hk
      · simp only [if_true, Bool.true_and]
        unfold taken
        rw [if_pos (by omega), hg k hk, show i + 1 + k - i = k + 1 by omega]
        cases (words inp r i).getLsbD (k + 1) <;> cases inp (i + 1 + k) <;> cases divisor (k + 1) <;> rfl
    · intro j hj
      show (if divn f i i then taken (divn f i) i 33 else divn f i) j = _
      cases hb : divn f i i
      · simp only [Bool.false_eq_true, if_false]
        exact ih.2 j (by omega)
      · simp only [if_true]
        unfold taken
        rw [if_neg (by omega)]
        exact ih.2 j (by omega)

theorem ones_succ' (n : Nat) (r : BitVec 32) : ones (n + 1) r = one (ones n r) := by
  rw [ones_add]; rfl

theorem low_bit (x t : Nat) (ht : t < 32) : BitVec.ofNat 32 (x % 2 ^ (t + 1)) = BitVec.ofNat 32 (x % 2 ^ t) ^^^ (if x.testBit t then 1#32 <<< t else 0#32) := by
  apply BitVec.eq_of_getLsbD_eq
  intro j hj
  rw [BitVec.getLsbD_xor, BitVec.getLsbD_ofNat, BitVec.getLsbD_ofNat, Nat.testBit_mod_two_pow, Nat.testBit_mod_two_pow]
  have hs : (1#32 <<< t).getLsbD j = decide (j = t) := by
    rw [BitVec.getLsbD_shiftLeft]
    by_cases h1 : j = t
    · subst h1; simp [ht]
    · by_cases h2 : j < t
      · simp [h2, h1]
      · simp [h2, h1]
        omega
  by_cases h : j = t
  · subst h
    cases hb : x.testBit j <;> simp [hj]
  · cases hb : x.testBit t
    · by_cases h2 : j < t
      · simp [hj, h2, show j < t + 1 by omega]
      · simp [h2, show ¬ j < t + 1 by omega]
    · by_cases h2 : j < t
      · simp [hj, h2, show j < t + 1 by omega]
      · simp [h2, show ¬ j < t + 1 by omega, hs, h]

/-- the bits of bytes in one row, each byte's lowest first -/
def bitsOf (xs : List Int) (j : Nat) : Bool := (xs.getD (j / 8) 0).toNat.testBit (j % 8)

theorem words_byte (xs : List Int) (r : BitVec 32) (m : Nat) : ∀ t, t ≤ 8 → words (bitsOf xs) r (8 * m + t) = ones t (words (bitsOf xs) r (8 * m) ^^^ BitVec.ofNat 32 ((xs.getD m 0).toNat % 2 ^ t)) := by
  intro t
  induction t with
  | zero => intro _; simp [ones, Nat.mod_one]
  | succ t ih =>
    intro ht
    show one (words (bitsOf xs) r (8 * m + t) ^^^ (if bitsOf xs (8 * m + t) then 1#32 else 0#32)) = _
    rw [ih (by omega), ones_succ', low_bit _ _ (by omega)]
    have hb : bitsOf xs (8 * m + t) = (xs.getD m 0).toNat.testBit t := by
      unfold bitsOf
      rw [show (8 * m + t) / 8 = m by omega, show (8 * m + t) % 8 = t by omega]
    rw [hb]
    congr 1
    generalize words (bitsOf xs) r (8 * m) = q
    generalize BitVec.ofNat 32 ((xs.getD m 0).toNat % 2 ^ t) = a
    rw [← BitVec.xor_assoc, ones_xor t (q ^^^ a)]
    congr 1
    cases (xs.getD m 0).toNat.testBit t
    · simp only [Bool.false_eq_true, if_false, ones_of_zero]
    · simp only [if_true, ones_bit t (by omega)]

theorem words_run (xs : List Int) (r : BitVec 32) (hb : ∀ y ∈ xs, 0 ≤ y ∧ y ≤ 255) : ∀ m, m ≤ xs.length → words (bitsOf xs) r (8 * m) = run r (xs.take m) := by
  intro m
  induction m with
  | zero => intro _; rfl
  | succ m ih =>
    intro hm
    have hlt : m < xs.length := by omega
    have e := words_byte xs r m 8 (by omega)
    rw [show 8 * (m + 1) = 8 * m + 8 by omega, e, ih (by omega), List.take_succ_eq_append_getElem hlt, run_append]
    have hx : xs.getD m 0 = xs[m] := by simp [List.getD, hlt]
    have := hb xs[m] (List.getElem_mem hlt)
    rw [hx, Nat.mod_eq_of_lt (by omega)]
    rfl

/-- what the division leaves, of all the bytes -/
theorem left_run (xs : List Int) (hb : ∀ y ∈ xs, 0 ≤ y ∧ y ≤ 255) (f : Nat → Bool) (r : BitVec 32) (hf : ∀ j, f j = (r.getLsbD j ^^ bitsOf xs j)) (k : Nat) (hk : k < 32) :
    divn f (8 * xs.length) (8 * xs.length + k) = (run r xs).getLsbD k := by
  rw [(divn_words (bitsOf xs) f r hf (8 * xs.length)).1 k hk, words_run xs r hb _ (Nat.le_refl _), List.take_length]
  have : bitsOf xs (8 * xs.length + k) = false := by
    unfold bitsOf
    have : xs.getD ((8 * xs.length + k) / 8) 0 = 0 := by
      simp only [List.getD]
      rw [List.getElem?_eq_none (by omega)]
      rfl
    rw [this]
    simp
  rw [this]
  simp

/-- the sum, out of its bits turned over -/
theorem bits_sum (q : BitVec 32) (k : Nat) : (q.toNat % 2 ^ (k + 1) : Nat) = q.toNat % 2 ^ k + (if q.getLsbD k then 2 ^ k else 0) := by
  rw [Nat.mod_pow_succ]
  show _ = _ + if q.toNat.testBit k then 2 ^ k else 0
  rw [Nat.testBit_eq_decide_div_mod_eq]
  have := Nat.mod_lt (q.toNat / 2 ^ k) (show 0 < 2 by omega)
  by_cases h : q.toNat / 2 ^ k % 2 = 1
  · simp [h]
  · rw [show q.toNat / 2 ^ k % 2 = 0 by omega]
    simp

end Go.Proofs.YtjjencnnmpefbaaDoor
