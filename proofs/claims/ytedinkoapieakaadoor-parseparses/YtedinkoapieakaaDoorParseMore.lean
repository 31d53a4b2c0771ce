/- The plain reader never goes back, and its loops come to an end. No model here. -/
import Derived.Test.YtedinkoapieakaaDoorParsePlain
namespace Go.Proofs.YtedinkoapieakaaDoor

theorem next_live {s : St} (h : s.next.kind ≠ 0) : s.ref = false ∧ ∃ t r, s.rest = t :: r ∧ s.next = t := by
  unfold St.next at h ⊢
  cases hr : s.ref with
  | true => rw [hr] at h; exact absurd rfl h
  | false =>
    rw [hr] at h
    cases hl : s.rest with
    | nil => rw [hl] at h; exact absurd rfl h
    | cons t r => exact ⟨rfl, t, r, rfl, rfl⟩

theorem adv_len {s : St} (h : s.next.kind ≠ 0) : s.adv.len + 1 = s.len := by
  obtain ⟨h1, t, r, h2, _⟩ := next_live h
  simp [St.len, St.adv, h1, h2]

theorem stop_len (s : St) : s.stop.len ≤ s.len := by simp [St.stop, St.len]

theorem isOne_kind {ws : List (List UInt8)} {t : Tok} (h : isOne ws t = true) : t.kind ≠ 0 := by
  simp [isOne] at h
  rcases h.1 with h | h <;> rw [h] <;> decide

theorem anyOf_no {ws : List (List UInt8)} {s : St} (h : isOne ws s.next = false) : anyOf ws s = ([], s) := by simp [anyOf, h]
theorem anyOf_yes {ws : List (List UInt8)} {s : St} (h : isOne ws s.next = true) : anyOf ws s = (s.next.text, s.adv) := by simp [anyOf, h]

theorem anyOf_len (ws : List (List UInt8)) (s : St) : (anyOf ws s).2.len ≤ s.len := by
  unfold anyOf
  split
  · next h => have := adv_len (isOne_kind h); simp only; omega
  · exact Nat.le_refl _

theorem anyOf_less {ws : List (List UInt8)} {s : St} (h : (anyOf ws s).1 ≠ []) : (anyOf ws s).2.len + 1 = s.len := by
  unfold anyOf at h ⊢
  split
  · next h => exact adv_len (isOne_kind h)
  · next h' => rw [if_neg h'] at h; exact absurd rfl h

theorem oneOf_len (ws : List (List UInt8)) (s : St) : (oneOf ws s).2.len ≤ s.len := by
  unfold oneOf
  split
  · exact Nat.le_trans (stop_len _) (anyOf_len ws s)
  · exact anyOf_len ws s

theorem needs_len (ws : List (List UInt8)) (s : St) : (needs ws s).len ≤ s.len := by
  induction ws generalizing s with
  | nil => exact Nat.le_refl _
  | cons w ws ih => exact Nat.le_trans (ih _) (oneOf_len _ _)

theorem mayBe_len (f : List UInt8) (b : List (List UInt8)) (s : St) : (mayBe f b s).2.len ≤ s.len := by
  unfold mayBe
  split
  · exact anyOf_len _ _
  · exact Nat.le_trans (needs_len _ _) (anyOf_len _ _)

theorem mayBe_less {f : List UInt8} {b : List (List UInt8)} {s : St} (h : (mayBe f b s).1 = true) : (mayBe f b s).2.len < s.len := by
  unfold mayBe at h ⊢
  split
  · next h' => rw [if_pos h'] at h; cases h
  · next h' => have := anyOf_less h'; have := needs_len b (anyOf [f] s).2; simp only; omega

theorem mayBe_one {f : List UInt8} {s : St} (h : (mayBe f [] s).1 = true) : (mayBe f [] s).2.len + 1 = s.len := by
  unfold mayBe at h ⊢
  split
  · next h' => rw [if_pos h'] at h; cases h
  · next h' => exact anyOf_less h'

theorem nameP_len (s : St) : (nameP s).2.len ≤ s.len := by
  unfold nameP
  split
  · next h => have := adv_len (s := s) (by simp [isName] at h; rw [h.1]; decide); simp only; omega
  · exact stop_len _

theorem numberP_len (s : St) : (numberP s).2.len ≤ s.len := by
  unfold numberP
  split
  · next h => have := adv_len (s := s) (by rw [h]; decide); simp only; omega
  · exact stop_len _

def Shrinks {α : Type} (f : St → α × St) : Prop := ∀ s, (f s).2.len ≤ s.len

theorem opOf_nil : opOf [] = 0 := by decide
theorem opOf_ne {w : List UInt8} (h : opOf w ≠ 0) : w ≠ [] := fun e => h (by rw [e]; exact opOf_nil)

theorem leftLoop_shrinks {part : St → Ex × St} (hp : Shrinks part) (signs : List (List UInt8)) (n : Nat) (e : Ex) (s : St) : (leftLoop part signs n e s).2.len ≤ s.len := by
  induction n generalizing e s with
  | zero => exact Nat.le_refl _
  | succ n ih =>
    simp only [leftLoop]
    split
    · exact anyOf_len _ _
    · exact Nat.le_trans (ih _ _) (Nat.le_trans (hp _) (anyOf_len _ _))

theorem leftward_shrinks {part : St → Ex × St} (hp : Shrinks part) (signs : List (List UInt8)) : Shrinks (leftward part signs) := fun s =>
  Nat.le_trans (leftLoop_shrinks hp _ _ _ _) (hp s)

theorem leftLoop_fuel {part : St → Ex × St} (hp : Shrinks part) (signs : List (List UInt8)) (n m : Nat) (e : Ex) (s : St) (hn : s.len < n) (hm : s.len < m) : leftLoop part signs n e s = leftLoop part signs m e s := by
  induction n generalizing m e s with
  | zero => omega
  | succ n ih =>
    cases m with
    | zero => omega
    | succ m =>
      simp only [leftLoop]
      split
      · rfl
      · next h =>
        have h1 := anyOf_less (opOf_ne h)
        have h2 := hp (anyOf signs s).2
        exact ih m _ _ (by omega) (by omega)

/-- one round of the loop, at the fuel that is just enough -/
theorem leftLoop_end {part : St → Ex × St} {signs : List (List UInt8)} {e : Ex} {s : St} (h : opOf (anyOf signs s).1 = 0) : leftLoop part signs (s.len + 1) e s = (e, (anyOf signs s).2) := by
  simp only [leftLoop, if_pos h]
theorem leftLoop_on {part : St → Ex × St} (hp : Shrinks part) {signs : List (List UInt8)} {e : Ex} {s : St} (h : opOf (anyOf signs s).1 ≠ 0) :
    leftLoop part signs (s.len + 1) e s = leftLoop part signs ((part (anyOf signs s).2).2.len + 1) (.bi (opOf (anyOf signs s).1) e (part (anyOf signs s).2).1) (part (anyOf signs s).2).2 := by
  have h1 := anyOf_less (opOf_ne h)
  have h2 := hp (anyOf signs s).2
  conv => lhs; simp only [leftLoop, if_neg h]
  exact leftLoop_fuel hp _ _ _ _ _ (by omega) (by omega)

theorem columnOfP_shrinks : Shrinks columnOfP := by
  intro s
  have h1 := nameP_len s
  have h2 := mayBe_len [46] [] (nameP s).2
  have h3 := nameP_len (mayBe [46] [] (nameP s).2).2
  unfold columnOfP
  split <;> simp only <;> omega

theorem closedP_shrinks {ex : St → Ex × St} (h : Shrinks ex) : Shrinks (closedP ex) := fun s => Nat.le_trans (needs_len _ _) (h s)
theorem ofP_shrinks {ex : St → Ex × St} (h : Shrinks ex) (op : Int) : Shrinks (ofP ex op) := fun _ => Nat.le_trans (closedP_shrinks h _) (needs_len _ _)
theorem countP_shrinks {ex : St → Ex × St} (h : Shrinks ex) : Shrinks (countP ex) := by
  intro s
  have h1 := needs_len [[40]] s
  have h2 := mayBe_len [42] [[41]] (needs [[40]] s)
  have h3 := closedP_shrinks h (mayBe [42] [[41]] (needs [[40]] s)).2
  unfold countP
  split <;> simp only <;> omega

theorem wordP_shrinks {ex : St → Ex × St} (h : Shrinks ex) (w : List UInt8) : Shrinks (wordP ex w) := by
  intro s
  unfold wordP
  repeat' split
  · exact Nat.le_refl _
  · exact Nat.le_refl _
  · exact Nat.le_refl _
  · exact closedP_shrinks h s
  · exact countP_shrinks h s
  · exact ofP_shrinks h _ s
  · exact ofP_shrinks h _ s
  · exact ofP_shrinks h _ s
  · exact columnOfP_shrinks s

theorem oneP_shrinks {ex : St → Ex × St} (h : Shrinks ex) : Shrinks (oneP ex) := by
  intro s
  unfold oneP
  split
  · next h => have := adv_len (s := s) (by rw [h]; decide); simp only; omega
  · split
    · next h => have := adv_len (s := s) (by rw [h]; decide); simp only; omega
    · exact Nat.le_trans (wordP_shrinks h _ _) (anyOf_len _ _)

theorem minusN_shrinks {ex : St → Ex × St} (h : Shrinks ex) (n : Nat) : Shrinks (minusN ex n) := by
  induction n with
  | zero => exact oneP_shrinks h
  | succ n ih =>
    intro s
    have h1 := mayBe_len [45] [] s
    simp only [minusN]
    split
    · exact Nat.le_trans (ih _) h1
    · exact Nat.le_trans (oneP_shrinks h _) h1
theorem minusP_shrinks {ex : St → Ex × St} (h : Shrinks ex) : Shrinks (minusP ex) := fun s => minusN_shrinks h _ s
theorem timesP_shrinks {ex : St → Ex × St} (h : Shrinks ex) : Shrinks (timesP ex) := leftward_shrinks (minusP_shrinks h) _
theorem sumP_shrinks {ex : St → Ex × St} (h : Shrinks ex) : Shrinks (sumP ex) := leftward_shrinks (timesP_shrinks h) _

theorem isP_len (e : Ex) (s : St) : (isP e s).2.len ≤ s.len := by
  have h1 := mayBe_len [105, 115] [] s
  have h2 := mayBe_len [110, 111, 116] [[110, 117, 108, 108]] (mayBe [105, 115] [] s).2
  have h3 := needs_len [[110, 117, 108, 108]] (mayBe [110, 111, 116] [[110, 117, 108, 108]] (mayBe [105, 115] [] s).2).2
  unfold isP
  split
  · split <;> simp only <;> omega
  · exact h1

theorem testOn_len {sm : St → Ex × St} (h : Shrinks sm) (e : Ex) (s : St) : (testOn sm e s).2.len ≤ s.len := by
  have h1 := anyOf_len cmpSigns s
  unfold testOn
  split
  · exact Nat.le_trans (isP_len _ _) h1
  · exact Nat.le_trans (h _) h1

theorem testP_shrinks {ex : St → Ex × St} (h : Shrinks ex) : Shrinks (testP ex) := fun s => Nat.le_trans (testOn_len (sumP_shrinks h) _ _) (sumP_shrinks h s)
theorem noN_shrinks {ex : St → Ex × St} (h : Shrinks ex) (n : Nat) : Shrinks (noN ex n) := by
  induction n with
  | zero => exact testP_shrinks h
  | succ n ih =>
    intro s
    have h1 := mayBe_len [110, 111, 116] [] s
    simp only [noN]
    split
    · exact Nat.le_trans (ih _) h1
    · exact Nat.le_trans (testP_shrinks h _) h1
theorem noP_shrinks {ex : St → Ex × St} (h : Shrinks ex) : Shrinks (noP ex) := fun s => noN_shrinks h _ s
theorem bothP_shrinks {ex : St → Ex × St} (h : Shrinks ex) : Shrinks (bothP ex) := leftward_shrinks (noP_shrinks h) _
theorem orP_shrinks {ex : St → Ex × St} (h : Shrinks ex) : Shrinks (orP ex) := leftward_shrinks (bothP_shrinks h) _
theorem exprN_shrinks (n : Nat) : Shrinks (exprN n) := by
  induction n with
  | zero => exact fun s => Nat.le_refl _
  | succ n ih => exact orP_shrinks ih
theorem exprP_shrinks : Shrinks exprP := fun s => exprN_shrinks _ s

theorem minusP_on {ex : St → Ex × St} {s : St} (h : (mayBe [45] [] s).1 = true) : minusP ex s = (.un 4 (minusP ex (mayBe [45] [] s).2).1, (minusP ex (mayBe [45] [] s).2).2) := by
  unfold minusP
  rw [← mayBe_one h]
  simp only [minusN, h, if_true]
theorem minusP_end {ex : St → Ex × St} {s : St} (h : (mayBe [45] [] s).1 = false) : minusP ex s = oneP ex (mayBe [45] [] s).2 := by
  simp [minusP, minusN, h]
theorem noP_on {ex : St → Ex × St} {s : St} (h : (mayBe [110, 111, 116] [] s).1 = true) : noP ex s = (.un 5 (noP ex (mayBe [110, 111, 116] [] s).2).1, (noP ex (mayBe [110, 111, 116] [] s).2).2) := by
  unfold noP
  rw [← mayBe_one h]
  simp only [noN, h, if_true]
theorem noP_end {ex : St → Ex × St} {s : St} (h : (mayBe [110, 111, 116] [] s).1 = false) : noP ex s = testP ex (mayBe [110, 111, 116] [] s).2 := by
  simp [noP, noN, h]

/-- 'more' says yes only where a token was read -/
def Takes (more : St → Bool × St) : Prop := ∀ s, (more s).1 = true → (more s).2.len < s.len

theorem listLoop_fuel {α : Type} {one : St → α × St} {more : St → Bool × St} (ho : Shrinks one) (hm : Takes more) (n m : Nat) (l : List α) (s : St) (hn : s.len < n) (hk : s.len < m) : listLoop one more n l s = listLoop one more m l s := by
  induction n generalizing m l s with
  | zero => omega
  | succ n ih =>
    cases m with
    | zero => omega
    | succ m =>
      simp only [listLoop]
      split
      · next h =>
        have h1 := hm s h
        have h2 := ho (more s).2
        exact ih m _ _ (by omega) (by omega)
      · rfl

theorem listLoop_end {α : Type} {one : St → α × St} {more : St → Bool × St} {l : List α} {s : St} (h : (more s).1 = false) : listLoop one more (s.len + 1) l s = (l, (more s).2) := by
  simp [listLoop, h]
theorem listLoop_on {α : Type} {one : St → α × St} {more : St → Bool × St} (ho : Shrinks one) (hm : Takes more) {l : List α} {s : St} (h : (more s).1 = true) :
    listLoop one more (s.len + 1) l s = listLoop one more ((one (more s).2).2.len + 1) (l ++ [(one (more s).2).1]) (one (more s).2).2 := by
  have h1 := hm s h
  have h2 := ho (more s).2
  conv => lhs; simp only [listLoop, h, if_true]
  exact listLoop_fuel ho hm _ _ _ _ (by omega) (by omega)

theorem comma_takes : Takes comma := fun _ h => mayBe_less h

theorem oneOf_less {ws : List (List UInt8)} {s : St} (h : (oneOf ws s).1 ≠ []) : (oneOf ws s).2.len + 1 = s.len := by
  unfold oneOf at h ⊢
  split
  · next h' => rw [if_pos h'] at h; exact absurd rfl h
  · next h' => exact anyOf_less h'

theorem moreColumns_takes : Takes moreColumns := by
  intro s h
  have h1 : (needs [[44]] s).next.kind ≠ 0 := by
    simp only [moreColumns, isName, Bool.and_eq_true, decide_eq_true_eq] at h
    rw [h.1]
    decide
  have h2 := (next_live h1).1
  simp only [moreColumns, needs] at h2 ⊢
  refine Nat.lt_of_succ_le (Nat.le_of_eq (oneOf_less fun h0 => ?_))
  unfold oneOf at h0 h2
  split at h2
  · exact absurd h2 (by simp [St.stop])
  · next h' => rw [if_neg h'] at h0; exact h' h0

theorem typeP_len (s : St) : (typeP s).2.len ≤ s.len := oneOf_len _ _
theorem columnP_shrinks : Shrinks columnP := fun s => Nat.le_trans (mayBe_len _ _ _) (Nat.le_trans (typeP_len _) (nameP_len s))
theorem nameP_shrinks : Shrinks nameP := nameP_len
theorem setP_shrinks : Shrinks setP := fun s => Nat.le_trans (exprP_shrinks _) (Nat.le_trans (needs_len _ _) (nameP_len s))
theorem orderP_shrinks : Shrinks orderP := fun s => Nat.le_trans (mayBe_len _ _ _) (numberP_len s)

end Go.Proofs.YtedinkoapieakaaDoor
