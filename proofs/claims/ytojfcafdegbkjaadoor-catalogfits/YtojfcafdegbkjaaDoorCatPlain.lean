/- Catalogs over plain lists: which fit, and what tells it step by step. No model here. -/
import Derived.Test.YtojfcafdegbkjaaDoorNameIs
namespace Go.Proofs.YtojfcafdegbkjaaDoor

structure TCol where
  nm : List UInt8
  ty : Int
  nn : Bool
structure Idx where
  nm : List UInt8
  pl : List Int
structure Tab where
  nm : List UInt8
  cols : List TCol
  key : List Int
  idxs : List Idx

/-- so many elements, each of which fits, no two with one key -/
def allOk {T K : Type} [DecidableEq K] (least most : Nat) (key : T → K) (fits : T → Bool) (l : List T) : Bool := decide (least ≤ l.length) && decide (l.length ≤ most) && l.all fits && decide (l.map key).Nodup

def colOk (c : TCol) : Bool := nameIs c.nm && decide (1 ≤ c.ty ∧ c.ty ≤ 3)
def isCol (cols : List TCol) (x : Int) : Bool := decide (0 ≤ x ∧ x < cols.length)
def isFilled (cols : List TCol) (x : Int) : Bool := isCol cols x && (cols[x.toNat]?.map TCol.nn).getD false
def placesOk (fits : Int → Bool) (l : List Int) : Bool := allOk 1 3 (fun x : Int => x) fits l
def idxOk (cols : List TCol) (x : Idx) : Bool := nameIs x.nm && placesOk (isCol cols) x.pl
def tabOk (t : Tab) : Bool := nameIs t.nm && (allOk 1 6 TCol.nm colOk t.cols && (placesOk (isFilled t.cols) t.key && allOk 0 2 Idx.nm (idxOk t.cols) t.idxs))
def catOk (l : List Tab) : Bool := allOk 0 4 Tab.nm tabOk l

section
variable {T K : Type} [DecidableEq K] {least most : Nat} {key : T → K} {fits : T → Bool} {l : List T}

theorem allOk_few (h : l.length < least) : allOk least most key fits l = false := by
  have : decide (least ≤ l.length) = false := by simpa using h
  simp [allOk, this]
theorem allOk_many (h : most < l.length) : allOk least most key fits l = false := by
  have : decide (l.length ≤ most) = false := by simpa using h
  simp [allOk, this]
theorem allOk_bad {k : Nat} (hk : k < l.length) (h : fits l[k] = false) : allOk least most key fits l = false := by
  have : l.all fits = false := by
    rw [← Bool.not_eq_true, List.all_eq_true]
    intro hh
    rw [hh _ (List.getElem_mem hk)] at h
    cases h
  simp [allOk, this]
theorem allOk_nodup (h1 : least ≤ l.length) (h2 : l.length ≤ most) (h3 : ∀ i (hi : i < l.length), fits l[i] = true) : allOk least most key fits l = decide (l.map key).Nodup := by
  have : l.all fits = true := by
    rw [List.all_eq_true]
    intro x hx
    obtain ⟨i, hi, rfl⟩ := List.getElem_of_mem hx
    exact h3 i hi
  simp [allOk, this, h1, h2]
theorem allOk_two {i j : Nat} (hij : i < j) (hj : j < l.length) (h : key (l[i]'(by omega)) = key l[j]) : allOk least most key fits l = false := by
  have : decide (l.map key).Nodup = false := by
    rw [decide_eq_false_iff_not]
    intro hn
    have := List.pairwise_iff_getElem.1 hn i j (by simp; omega) (by simpa using hj) hij
    simp at this
    exact this h
  unfold allOk
  rw [this, Bool.and_false]
theorem allOk_yes (h1 : least ≤ l.length) (h2 : l.length ≤ most) (h3 : ∀ i (hi : i < l.length), fits l[i] = true) (h4 : ∀ i j (hj : j < l.length) (hij : i < j), key (l[i]'(by omega)) ≠ key l[j]) : allOk least most key fits l = true := by
  rw [allOk_nodup h1 h2 h3, decide_eq_true_eq]
  refine List.pairwise_iff_getElem.2 fun i j hi hj hij => ?_
  have := h4 i j (by simpa using hj) hij
  simpa using this
end

/-- the first i elements fit, no two of them have one key -/
def Good {T K : Type} (key : T → K) (fits : T → Bool) (l : List T) (i : Nat) : Prop :=
  (∀ j (hj : j < l.length), j < i → fits l[j] = true) ∧ ∀ a b (hb : b < l.length) (hab : a < b), b < i → key (l[a]'(by omega)) ≠ key l[b]
theorem Good.zero {T K : Type} {key : T → K} {fits : T → Bool} {l : List T} : Good key fits l 0 := ⟨fun _ _ h => absurd h (Nat.not_lt_zero _), fun _ _ _ _ h => absurd h (Nat.not_lt_zero _)⟩
theorem Good.step {T K : Type} {key : T → K} {fits : T → Bool} {l : List T} {i : Nat} (h : Good key fits l i) (hi : i < l.length) (hf : fits l[i] = true) (hk : ∀ a (ha : a < i), key (l[a]'(by omega)) ≠ key l[i]) : Good key fits l (i + 1) := by
  refine ⟨fun j hj hji => ?_, fun a b hb hab hbi => ?_⟩
  · by_cases e : j = i
    · subst e
      exact hf
    · exact h.1 j hj (by omega)
  · by_cases e : b = i
    · subst e
      exact hk a hab
    · exact h.2 a b hb hab (by omega)
theorem Good.all {T K : Type} [DecidableEq K] {key : T → K} {fits : T → Bool} {l : List T} {least most : Nat} (h : Good key fits l l.length) (h1 : least ≤ l.length) (h2 : l.length ≤ most) : allOk least most key fits l = true :=
  allOk_yes h1 h2 (fun i hi => h.1 i hi hi) (fun i j hj hij => h.2 i j hj hij hj)

/-- a list's beginning without twins, and one more -/
theorem nodup_more {α : Type} {l : List α} {k : Nat} (hk : k < l.length) (h : (l.take k).Nodup) (hn : l[k] ∉ l.take k) : (l.take (k + 1)).Nodup := by
  rw [List.take_add_one, List.getElem?_eq_getElem hk]
  exact List.pairwise_append.2 ⟨h, by simp, fun a ha b hb => by
    simp at hb
    subst hb
    intro e
    subst e
    exact hn ha⟩
theorem nodup_twin {α : Type} {l : List α} {k : Nat} (hk : k < l.length) (hn : l[k] ∈ l.take k) : ¬ l.Nodup := by
  intro h
  obtain ⟨i, hi, e⟩ := List.getElem_of_mem hn
  rw [List.length_take] at hi
  rw [List.getElem_take] at e
  exact List.pairwise_iff_getElem.1 h i k (by omega) hk (by omega) e

/-- a key's places: columns, each filled -/
theorem places_filled (cols : List TCol) (l : List Int) : placesOk (isFilled cols) l = (placesOk (isCol cols) l && l.all fun x => (cols[x.toNat]?.map TCol.nn).getD false) := by
  have e : l.all (isFilled cols) = (l.all (isCol cols) && l.all fun x => (cols[x.toNat]?.map TCol.nn).getD false) := by
    induction l with
    | nil => rfl
    | cons x l ih =>
      rw [List.all_cons, List.all_cons, List.all_cons, ih]
      unfold isFilled
      cases isCol cols x <;> cases l.all (isCol cols) <;> simp
  unfold placesOk allOk
  rw [e]
  cases decide (1 ≤ l.length) <;> cases decide (l.length ≤ 3) <;> cases l.all (isCol cols) <;> cases (l.all fun x => (cols[x.toNat]?.map TCol.nn).getD false) <;> simp

end Go.Proofs.YtojfcafdegbkjaaDoor
