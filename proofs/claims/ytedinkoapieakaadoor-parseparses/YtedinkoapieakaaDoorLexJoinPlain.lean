/- Tokens that may be, as a source has them; what was joined is cut as it was, whatever stands in the gaps. No model here. -/
import Derived.Test.YtedinkoapieakaaDoorLexMore
import Derived.Lib.ItoaNum
namespace Go.Proofs.YtedinkoapieakaaDoor

def isMark (l : List UInt8) : Bool := decide (l ≠ []) && decide (markLen l = l.length)
def isWord (l : List UInt8) : Bool := decide (1 ≤ l.length) && decide (l.length ≤ 12) && l.all wordly && !digit (l.getD 0 0)

/-- may a token be? -/
def may (t : Tok) : Bool :=
  if t.kind = 1 then decide (t.int = 0) && isWord t.text
  else if t.kind = 2 then decide (0 ≤ t.int) && decide (t.text = [])
  else if t.kind = 3 then decide (t.int = 0) && decide (t.text.length ≤ 40) && signs t.text
  else if t.kind = 4 then decide (t.int = 0) && isMark t.text
  else false

/-- each ' twice -/
def twice (l : List UInt8) : List UInt8 := l.flatMap fun c => if c.toNat = 39 then [c, c] else [c]

/-- a token as a source has it -/
def wr (t : Tok) : List UInt8 :=
  if t.kind = 2 then Lib.decDigits t.int.toNat else if t.kind = 3 then 39 :: (twice t.text ++ [39]) else t.text

def joined : List Tok → List UInt8
  | [] => []
  | [t] => wr t
  | t :: u :: r => wr t ++ 32 :: joined (u :: r)

theorem joined_cons (t : Tok) (r : List Tok) : joined (t :: r) = wr t ++ (if r = [] then [] else 32 :: joined r) := by
  cases r with
  | nil => simp [joined]
  | cons u r => simp [joined]

/-- what may stand behind a token: nothing, or a blank -/
def Sep (r : List UInt8) : Prop := ∀ c, r.head? = some c → blank c = true

theorem sep_nil : Sep [] := fun _ h => by cases h
theorem sep_cons {c : UInt8} {r : List UInt8} (h : blank c = true) : Sep (c :: r) := fun d hd => by
  cases hd
  exact h

theorem takeWhile_sep {p : UInt8 → Bool} {l r : List UInt8} (hl : ∀ c ∈ l, p c = true) (hp : ∀ c, blank c = true → p c = false) (hr : Sep r) : (l ++ r).takeWhile p = l := by
  rw [List.takeWhile_append_of_pos hl]
  cases r with
  | nil => simp
  | cons c r =>
    have := hp c (hr c rfl)
    simp [this]

theorem blank_cases {c : UInt8} (h : blank c = true) : c = 9 ∨ c = 10 ∨ c = 13 ∨ c = 32 := by
  simp only [blank, Bool.or_eq_true, decide_eq_true_eq] at h
  rcases h with ((h | h) | h) | h
  · exact .inl (UInt8.toNat.inj h)
  · exact .inr (.inl (UInt8.toNat.inj h))
  · exact .inr (.inr (.inl (UInt8.toNat.inj h)))
  · exact .inr (.inr (.inr (UInt8.toNat.inj h)))

theorem wordy_blank (c : UInt8) (h : blank c = true) : wordy c = false := by
  rcases blank_cases h with rfl | rfl | rfl | rfl <;> decide
theorem digit_blank (c : UInt8) (h : blank c = true) : digit c = false := by
  rcases blank_cases h with rfl | rfl | rfl | rfl <;> decide
theorem blank_quote (c : UInt8) (h : blank c = true) : ¬ c.toNat = 39 := by
  rcases blank_cases h with rfl | rfl | rfl | rfl <;> decide

theorem low_wordly {c : UInt8} (h : wordly c = true) : low c = c := by
  unfold low
  rw [if_neg]
  intro h2
  simp only [wordly, letter, digit, Bool.or_eq_true, Bool.and_eq_true, decide_eq_true_eq] at h
  omega

theorem wordly_wordy {c : UInt8} (h : wordly c = true) : wordy c = true := by
  unfold wordy
  rw [low_wordly h]
  exact h

/- a word -/
theorem one_word {u r : List UInt8} (hu : isWord (u.map low) = true) (hw : ∀ c ∈ u, wordy c = true) (hr : Sep r) : one (u ++ r) = .tok ⟨1, 0, u.map low⟩ u.length := by
  unfold isWord at hu
  simp only [Bool.and_eq_true, decide_eq_true_eq, List.length_map] at hu
  obtain ⟨⟨⟨h1, h2⟩, h3⟩, h4⟩ := hu
  cases u with
  | nil => simp at h1
  | cons c u =>
    have ht := takeWhile_sep (p := wordy) hw wordy_blank hr
    have hl : letter (low c) = true := by
      have h5 : wordly (low c) = true := by
        rw [List.all_eq_true] at h3
        exact h3 _ (by simp)
      simp only [List.map_cons, List.getD_cons_zero, Bool.not_eq_true'] at h4
      simp only [wordly, h4, Bool.or_false] at h5
      exact h5
    simp only [List.cons_append] at ht ⊢
    simp only [one, hl, if_true, ht]
    rw [if_neg (by omega), ← List.cons_append, List.take_left]

/- a number -/
theorem decDigits_digit (n : Nat) : ∀ c ∈ Lib.decDigits n, digit c = true := by
  induction n using Nat.strongRecOn with
  | ind n ih =>
    intro c hc
    rw [Lib.decDigits] at hc
    split at hc
    · simp only [List.mem_singleton] at hc
      subst hc
      rename_i h
      simp only [digit, UInt8.toNat_ofNat', Bool.and_eq_true, decide_eq_true_eq]
      omega
    · rename_i h
      rcases List.mem_append.1 hc with h1 | h1
      · exact ih _ (by omega) _ h1
      · simp only [List.mem_singleton] at h1
        subst h1
        simp only [digit, UInt8.toNat_ofNat', Bool.and_eq_true, decide_eq_true_eq]
        omega

theorem num_decDigits (n : Nat) : num (Lib.decDigits n) = n := by
  induction n using Nat.strongRecOn with
  | ind n ih =>
    rw [Lib.decDigits]
    split
    · rename_i h
      simp only [num, List.foldl_cons, List.foldl_nil, UInt8.toNat_ofNat']
      omega
    · rename_i h
      rw [num_push, ih _ (by omega), UInt8.toNat_ofNat']
      omega

theorem decDigits_ne (n : Nat) : Lib.decDigits n ≠ [] := by
  rw [Lib.decDigits]
  split <;> simp

theorem letter_low_digit {c : UInt8} (h : digit c = true) : letter (low c) = false := by
  simp only [digit, Bool.and_eq_true, decide_eq_true_eq] at h
  unfold low
  rw [if_neg (by omega)]
  simp only [letter, Bool.or_eq_false_iff, Bool.and_eq_false_imp, decide_eq_true_eq, decide_eq_false_iff_not]
  omega

theorem one_digits {u r : List UInt8} (hne : u ≠ []) (hd : ∀ c ∈ u, digit c = true) (hr : Sep r) :
    one (u ++ r) = if 9223372036854775807 < num u then .bad 10 else .tok ⟨2, num u, []⟩ u.length := by
  obtain ⟨c, u, rfl⟩ := List.exists_cons_of_ne_nil hne
  have ht := takeWhile_sep (p := digit) hd digit_blank hr
  have hc := hd c (by simp)
  simp only [List.cons_append] at ht ⊢
  simp only [one, letter_low_digit hc, hc, if_true, Bool.false_eq_true, if_false, ht]
  rw [← List.cons_append, List.take_left]

/- a quote -/
theorem quoted_twice (t r : List UInt8) (hr : Sep r) : quoted (twice t ++ 39 :: r) = some (t, (twice t).length + 1) := by
  induction t with
  | nil =>
    show quoted (39 :: r) = _
    cases r with
    | nil => exact quoted_last _ rfl
    | cons d r => exact quoted_end _ _ _ rfl (blank_quote d (hr d rfl))
  | cons c t ih =>
    by_cases hc : c.toNat = 39
    · have e : twice (c :: t) = c :: c :: twice t := by simp [twice, hc]
      rw [e, List.cons_append, List.cons_append, quoted_two _ _ _ hc hc, ih]
      simp
    · have e : twice (c :: t) = c :: twice t := by simp [twice, hc]
      rw [e, List.cons_append, quoted_other _ _ hc, ih]
      simp

theorem one_quote {t r : List UInt8} (hl : t.length ≤ 40) (hs : signs t = true) (hr : Sep r) : one (39 :: (twice t ++ [39]) ++ r) = .tok ⟨3, 0, t⟩ ((twice t).length + 2) := by
  have e : 39 :: (twice t ++ [39]) ++ r = 39 :: (twice t ++ 39 :: r) := by simp
  rw [e]
  have h1 : letter (low 39) = false := by decide
  have h2 : digit 39 = false := by decide
  have h3 : (39 : UInt8).toNat = 39 := rfl
  have h4 : ¬ 40 < t.length := by omega
  simp only [one, h1, h2, Bool.false_eq_true, if_false, h3, if_true, quoted_twice t r hr, if_neg h4, hs]

/- a mark -/
theorem mark1_cases {a : UInt8} (h : mark1 a = true) : letter (low a) = false ∧ digit a = false ∧ ¬ a.toNat = 39 ∧ blank a = false := by
  simp only [mark1, List.contains_eq_mem, List.mem_cons, List.not_mem_nil, or_false, decide_eq_true_eq] at h
  have hl : low a = a := by
    unfold low
    rw [if_neg (by omega)]
  rw [hl]
  simp only [letter, digit, blank, Bool.or_eq_false_iff, Bool.and_eq_false_imp, decide_eq_true_eq, decide_eq_false_iff_not]
  omega
theorem mark2_first {a b : UInt8} (h : mark2 a b = true) : mark1 a = true := by
  simp only [mark2, List.contains_eq_mem, List.mem_cons, Prod.mk.injEq, List.not_mem_nil, or_false, decide_eq_true_eq] at h
  simp only [mark1, List.contains_eq_mem, List.mem_cons, decide_eq_true_eq]
  omega
theorem mark2_blank {a b : UInt8} (h : blank b = true) : mark2 a b = false := by
  rcases blank_cases h with rfl | rfl | rfl | rfl <;> simp [mark2]

theorem isMark_cases {l : List UInt8} (h : isMark l = true) : (∃ a, l = [a] ∧ mark1 a = true) ∨ ∃ a b, l = [a, b] ∧ mark2 a b = true := by
  simp only [isMark, Bool.and_eq_true, decide_eq_true_eq] at h
  obtain ⟨h1, h2⟩ := h
  match l, h1, h2 with
  | [a], _, h2 =>
    left
    refine ⟨a, rfl, ?_⟩
    simp only [markLen] at h2
    split at h2
    · assumption
    · simp at h2
  | [a, b], _, h2 =>
    right
    refine ⟨a, b, rfl, ?_⟩
    simp only [markLen] at h2
    split at h2
    · assumption
    · split at h2 <;> simp at h2
  | a :: b :: c :: r, _, h2 =>
    exfalso
    simp only [markLen, List.length_cons] at h2
    split at h2
    · omega
    · split at h2 <;> omega

theorem one_mark {m r : List UInt8} (hm : isMark m = true) (hr : Sep r) : one (m ++ r) = .tok ⟨4, 0, m⟩ m.length := by
  rcases isMark_cases hm with ⟨a, rfl, ha⟩ | ⟨a, b, rfl, hab⟩
  · obtain ⟨h1, h2, h3, h4⟩ := mark1_cases ha
    have hl : markLen (a :: r) = 1 := by
      cases r with
      | nil => simp [markLen, ha]
      | cons b r => simp [markLen, ha, mark2_blank (hr b rfl)]
    simp only [List.cons_append, List.nil_append, one, h1, h2, h3, hl, Bool.false_eq_true, if_false, Nat.one_ne_zero]
    simp
  · obtain ⟨h1, h2, h3, h4⟩ := mark1_cases (mark2_first hab)
    have hl : markLen (a :: b :: r) = 2 := by simp [markLen, hab]
    simp only [List.cons_append, List.nil_append, one, h1, h2, h3, hl, Bool.false_eq_true, if_false]
    simp

theorem map_low {x : List UInt8} (h : ∀ c ∈ x, wordly c = true) : x.map low = x := by
  induction x with
  | nil => rfl
  | cons c x ih =>
    rw [List.map_cons, low_wordly (h c (by simp)), ih (fun d hd => h d (by simp [hd]))]

/-- A TOKEN THAT MAY BE, WRITTEN, IS READ. -/
theorem one_wr {t : Tok} (ht : may t = true) (hi : t.int ≤ 9223372036854775807) {r : List UInt8} (hr : Sep r) : one (wr t ++ r) = .tok t (wr t).length := by
  obtain ⟨k, n, x⟩ := t
  unfold may at ht
  simp only at ht hi
  unfold wr
  simp only
  by_cases h1 : k = 1
  · subst h1
    simp only [if_true, Bool.and_eq_true, decide_eq_true_eq] at ht
    obtain ⟨rfl, hw⟩ := ht
    have hall : ∀ c ∈ x, wordly c = true := by
      simp only [isWord, Bool.and_eq_true, List.all_eq_true] at hw
      exact hw.1.2
    have hm := map_low hall
    rw [if_neg (by decide), if_neg (by decide)]
    have := one_word (u := x) (r := r) (by rw [hm]; exact hw) (fun c hc => wordly_wordy (hall c hc)) hr
    rw [hm] at this
    exact this
  rw [if_neg h1] at ht
  by_cases h2 : k = 2
  · subst h2
    simp only [if_true, Bool.and_eq_true, decide_eq_true_eq] at ht
    obtain ⟨h0, rfl⟩ := ht
    rw [if_pos rfl, one_digits (decDigits_ne _) (decDigits_digit _) hr, num_decDigits, if_neg (by omega)]
    have : ((n.toNat : Nat) : Int) = n := by omega
    rw [this]
  rw [if_neg h2] at ht
  rw [if_neg h2]
  by_cases h3 : k = 3
  · subst h3
    simp only [if_true, Bool.and_eq_true, decide_eq_true_eq] at ht
    obtain ⟨⟨rfl, h4⟩, h5⟩ := ht
    rw [if_pos rfl, one_quote h4 h5 hr]
    simp
  rw [if_neg h3] at ht
  rw [if_neg h3]
  by_cases h4 : k = 4
  · subst h4
    simp only [if_true, Bool.and_eq_true, decide_eq_true_eq] at ht
    obtain ⟨rfl, h5⟩ := ht
    exact one_mark h5 hr
  · rw [if_neg h4] at ht
    cases ht

theorem one_gap {l : List UInt8} {t : Tok} {n : Nat} (h : one l = .tok t n) (hd : ¬ ∃ r, l = 45 :: 45 :: r) : gap false l = 0 := by
  cases l with
  | nil => rfl
  | cons c r =>
    have hb : blank c = false := by
      cases hb : blank c with
      | false => rfl
      | true =>
        exfalso
        have h1 : letter (low c) = false ∧ digit c = false ∧ ¬ c.toNat = 39 ∧ mark1 c = false ∧ ∀ d, mark2 c d = false := by
          rcases blank_cases hb with rfl | rfl | rfl | rfl <;> refine ⟨by decide, by decide, by decide, by decide, fun d => by simp [mark2]⟩
        obtain ⟨h2, h3, h4, h5, h6⟩ := h1
        have hl : markLen (c :: r) = 0 := by
          cases r with
          | nil => simp [markLen, h5]
          | cons d r => simp [markLen, h5, h6]
        simp only [one, h2, h3, h4, hl, Bool.false_eq_true, if_false, if_true] at h
        cases h
    have h2 : ¬ (c.toNat = 45 ∧ r.head?.map (·.toNat) = some 45) := by
      rintro ⟨h2, h3⟩
      cases r with
      | nil => cases h3
      | cons d r => exact hd ⟨r, by rw [UInt8.toNat.inj (a := c) (b := 45) h2, UInt8.toNat.inj (a := d) (b := 45) (Option.some.inj h3)]⟩
    simp only [gap, hb, h2, Bool.false_eq_true, if_false]

/-- no token that may be, with nothing or a blank behind it, begins with two - -/
theorem wr_dashes {t : Tok} (ht : may t = true) {r : List UInt8} (hr : Sep r) : ¬ ∃ r', wr t ++ r = 45 :: 45 :: r' := by
  rintro ⟨r', h⟩
  obtain ⟨k, n, x⟩ := t
  unfold may at ht
  simp only at ht
  unfold wr at h
  simp only at h
  by_cases h1 : k = 1
  · subst h1
    simp only [if_true, Bool.and_eq_true, decide_eq_true_eq] at ht
    obtain ⟨rfl, hw⟩ := ht
    rw [if_neg (by decide), if_neg (by decide)] at h
    simp only [isWord, Bool.and_eq_true, List.all_eq_true, decide_eq_true_eq] at hw
    cases x with
    | nil => simp at hw
    | cons c x =>
      have := hw.1.2 c (by simp)
      rw [List.cons_append] at h
      injection h with h _
      subst h
      revert this
      decide
  rw [if_neg h1] at ht
  by_cases h2 : k = 2
  · subst h2
    rw [if_pos rfl] at h
    have hd := decDigits_digit n.toNat
    cases hx : Lib.decDigits n.toNat with
    | nil => exact decDigits_ne _ hx
    | cons c x =>
      rw [hx] at h hd
      have := hd c (by simp)
      rw [List.cons_append] at h
      injection h with h _
      subst h
      revert this
      decide
  rw [if_neg h2] at ht h
  by_cases h3 : k = 3
  · subst h3
    rw [if_pos rfl] at h
    simp at h
  rw [if_neg h3] at ht h
  by_cases h4 : k = 4
  · subst h4
    simp only [if_true, Bool.and_eq_true, decide_eq_true_eq] at ht
    obtain ⟨rfl, h5⟩ := ht
    rcases isMark_cases h5 with ⟨a, rfl, ha⟩ | ⟨a, b, rfl, hab⟩
    · rw [List.cons_append, List.nil_append] at h
      injection h with h h6
      subst h6
      have := hr 45 rfl
      revert this
      decide
    · simp only [List.cons_append, List.nil_append] at h
      injection h with h h6
      injection h6 with h6 _
      subst h h6
      revert hab
      decide
  · rw [if_neg h4] at ht
    cases ht

theorem gap_wr {t : Tok} (ht : may t = true) (hi : t.int ≤ 9223372036854775807) {r : List UInt8} (hr : Sep r) : gap false (wr t ++ r) = 0 :=
  one_gap (one_wr ht hi hr) (wr_dashes ht hr)

theorem wr_ne {t : Tok} (ht : may t = true) (hi : t.int ≤ 9223372036854775807) : 0 < (wr t).length := by
  cases hw : wr t with
  | nil =>
    exfalso
    have := one_wr ht hi sep_nil
    rw [hw] at this
    cases this
  | cons c r => simp

theorem gap_blank (c : UInt8) (r : List UInt8) (h : blank c = true) : gap false (c :: r) = 1 + gap false r := by
  simp only [gap, h, if_true]

/-- WHAT WAS JOINED IS CUT AS IT WAS: from a place on at which joined tokens stand, with nothing or a blank behind them. -/
theorem cuts_joined {l : List UInt8} (ts : List Tok) (r : List UInt8) (i : Nat) (acc rs : List Tok) (p : Nat) (e : Int) (hl : l.drop i = joined ts ++ r) (hm : ∀ t ∈ ts, may t = true ∧ t.int ≤ 9223372036854775807) (hr : Sep r)
    (hn : acc.length + ts.length ≤ 300) (h : Cuts l (i + (joined ts).length + gap false (l.drop (i + (joined ts).length))) (acc ++ ts) rs p e) : Cuts l (i + gap false (l.drop i)) acc rs p e := by
  induction ts generalizing i acc with
  | nil => simpa [joined] using h
  | cons t ts ih =>
    obtain ⟨h1, h2⟩ := hm t (by simp)
    have hw := wr_ne h1 h2
    rw [joined_cons] at hl h
    have hr2 : Sep ((if ts = [] then [] else 32 :: joined ts) ++ r) := by
      split
      · simpa using hr
      · exact sep_cons (by decide)
    rw [List.append_assoc] at hl
    have hone : one (l.drop i) = .tok t (wr t).length := by rw [hl]; exact one_wr h1 h2 hr2
    have hgap : gap false (l.drop i) = 0 := by rw [hl]; exact gap_wr h1 h2 hr2
    have hil : i < l.length := by
      apply Decidable.byContradiction
      intro hc
      rw [List.drop_eq_nil_of_le (by omega)] at hl
      have := congrArg List.length hl
      simp at this
      omega
    have hd : l.drop (i + (wr t).length) = (if ts = [] then [] else 32 :: joined ts) ++ r := by
      rw [← List.drop_drop, hl, List.drop_left]
    rw [hgap, Nat.add_zero]
    simp only [List.length_cons] at hn
    refine Cuts.step i acc t _ rs p e hil (by omega) hone ?_
    by_cases hts : ts = []
    · subst hts
      simpa using h
    · rw [if_neg hts] at hd h
      rw [hd, List.cons_append, gap_blank 32 _ (by decide)]
      have hd2 : l.drop (i + (wr t).length + 1) = joined ts ++ r := by
        rw [← List.drop_drop, hd]
        rfl
      have := ih (i + (wr t).length + 1) (acc ++ [t]) hd2 (fun u hu => hm u (by simp [hu])) (by simp; omega) (by
        have e1 : i + (wr t ++ 32 :: joined ts).length = i + (wr t).length + 1 + (joined ts).length := by simp; omega
        rw [e1] at h
        rw [List.append_assoc]
        exact h)
      rw [hd2] at this
      rw [← Nat.add_assoc]
      exact this

end Go.Proofs.YtedinkoapieakaaDoor
