/- Plain facts: entries in order, one put, one dropped; deeds on versions, as lists of entries. -/
import Derived.Test.YtndnbkgejdindaaAheadPlain
namespace Go.Proofs.Ytndnbkgejdindaa
open Go.ChangeShapes Go.WideShapes Go.ChangeAt Go.RowKit

/-- a key and what it has -/
abbrev Ent := List Int × List Int

theorem ahead_irrefl : ∀ xs : List Int, ahead xs xs = false
  | [] => rfl
  | x :: xs => by simp [ahead, ahead_irrefl xs]

theorem ahead_trans : ∀ {xs ys zs : List Int}, ahead xs ys = true → ahead ys zs = true → ahead xs zs = true
  | _, [], _, h, _ => by simp [ahead] at h
  | [], _ :: _, [], _, h => by simp [ahead] at h
  | [], _ :: _, _ :: _, _, _ => rfl
  | _ :: _, _ :: _, [], _, h => by simp [ahead] at h
  | x :: xs, y :: ys, z :: zs, h1, h2 => by
    simp only [ahead] at h1 h2 ⊢
    by_cases e1 : x = y
    · subst e1
      rw [if_pos rfl] at h1
      by_cases e2 : x = z
      · subst e2
        rw [if_pos rfl] at h2 ⊢
        exact ahead_trans h1 h2
      · rw [if_neg e2] at h2 ⊢
        exact h2
    · rw [if_neg e1] at h1
      have h1 := of_decide_eq_true h1
      by_cases e2 : y = z
      · subst e2
        rw [if_neg e1]
        exact decide_eq_true h1
      · rw [if_neg e2] at h2
        have h2 := of_decide_eq_true h2
        rw [if_neg (by omega)]
        exact decide_eq_true (by omega)

theorem ahead_total : ∀ {xs ys : List Int}, ahead xs ys = false → ahead ys xs = false → xs = ys
  | [], [], _, _ => rfl
  | [], _ :: _, h, _ => by simp [ahead] at h
  | _ :: _, [], _, h => by simp [ahead] at h
  | x :: xs, y :: ys, h1, h2 => by
    simp only [ahead] at h1 h2
    by_cases e : x = y
    · subst e
      rw [if_pos rfl] at h1 h2
      rw [ahead_total h1 h2]
    · rw [if_neg e] at h1
      rw [if_neg (fun h => e h.symm)] at h2
      have h1 := of_decide_eq_false h1
      have h2 := of_decide_eq_false h2
      omega

theorem ahead_asymm {xs ys : List Int} (h : ahead xs ys = true) : ahead ys xs = false := by
  cases e : ahead ys xs with
  | false => rfl
  | true =>
    have := ahead_trans h e
    rw [ahead_irrefl] at this
    cases this

theorem ahead_ne {xs ys : List Int} (h : ahead xs ys = true) : ¬ xs = ys := by
  intro e
  subst e
  rw [ahead_irrefl] at h
  cases h

/-- entries, but those of a key -/
def dropK (l : List Ent) (k : List Int) : List Ent := l.filter (fun e => !decide (e.1 = k))

/-- has one of them that key -/
def hasK (l : List Ent) (k : List Int) : Bool := l.any (fun e => decide (e.1 = k))

/-- one more, ahead of the first one that is behind it -/
def insK (x : Ent) : List Ent → List Ent
  | [] => [x]
  | e :: l => if ahead x.1 e.1 then x :: e :: l else e :: insK x l

def putK (l : List Ent) (x : Ent) : List Ent := insK x (dropK l x.1)

/-- what the last one of that key has -/
def lookK : List Ent → List Int → Option (List Int)
  | [], _ => none
  | e :: l, k => match lookK l k with
    | some v => some v
    | none => if e.1 = k then some e.2 else none

/-- is a key from one on, and ahead of the other one (if that has any bytes) -/
def within (lo hi k : List Int) : Bool := !ahead k lo && (decide (hi = []) || ahead k hi)

def scanK (l : List Ent) (lo hi : List Int) (n : Nat) : List Ent := (l.filter (fun e => within lo hi e.1)).take n

/-- is one of them behind a key -/
def overK (k : List Int) (l : List Ent) : Bool := l.any (fun e => ahead k e.1)

theorem insK_last (x : Ent) : ∀ l : List Ent, overK x.1 l = false → insK x l = l ++ [x]
  | [], _ => rfl
  | e :: l, h => by
    simp only [overK, List.any_cons, Bool.or_eq_false_iff] at h
    simp only [insK, h.1, Bool.false_eq_true, if_false, List.cons_append, insK_last x l h.2]

theorem insK_snoc (x e : Ent) : ∀ l : List Ent, overK x.1 l = true → insK x (l ++ [e]) = insK x l ++ [e]
  | [], h => by simp [overK] at h
  | y :: l, h => by
    by_cases hy : ahead x.1 y.1 = true
    · simp only [insK, List.cons_append, hy, if_true]
    · have hy : ahead x.1 y.1 = false := by simpa using hy
      simp only [overK, List.any_cons, hy, Bool.false_or] at h
      simp only [insK, List.cons_append, hy, Bool.false_eq_true, if_false, insK_snoc x e l h]

theorem insK_hit (x e : Ent) (l : List Ent) (h : overK x.1 l = false) (he : ahead x.1 e.1 = true) : insK x (l ++ [e]) = l ++ [x, e] := by
  induction l with
  | nil => simp [insK, he]
  | cons y l ih =>
    simp only [overK, List.any_cons, Bool.or_eq_false_iff] at h
    simp only [insK, List.cons_append, h.1, Bool.false_eq_true, if_false, ih h.2]

theorem overK_snoc (k : List Int) (l : List Ent) (e : Ent) : overK k (l ++ [e]) = (overK k l || ahead k e.1) := by simp [overK]

theorem hasK_snoc (k : List Int) (l : List Ent) (e : Ent) : hasK (l ++ [e]) k = (hasK l k || decide (e.1 = k)) := by simp [hasK]

theorem dropK_snoc_hit (k : List Int) (l : List Ent) (e : Ent) (h : e.1 = k) : dropK (l ++ [e]) k = dropK l k := by simp [dropK, h]

theorem dropK_snoc_miss (k : List Int) (l : List Ent) (e : Ent) (h : ¬ e.1 = k) : dropK (l ++ [e]) k = dropK l k ++ [e] := by simp [dropK, h]

theorem lookK_snoc (k : List Int) (e : Ent) : ∀ l : List Ent, lookK (l ++ [e]) k = if e.1 = k then some e.2 else lookK l k
  | [] => by simp [lookK]
  | y :: l => by
    simp only [List.cons_append, lookK, lookK_snoc k e l]
    by_cases h : e.1 = k
    · simp [h]
    · simp [h]

/-- all in order: each key ahead of all that stand behind it -/
def Asc (l : List Ent) : Prop := l.Pairwise (fun a b => ahead a.1 b.1 = true)

theorem Asc.drop {l : List Ent} (h : Asc l) (k : List Int) : Asc (dropK l k) := h.filter _

theorem mem_insK {x y : Ent} : ∀ {l : List Ent}, y ∈ insK x l ↔ y = x ∨ y ∈ l
  | [] => by simp [insK]
  | e :: l => by
    simp only [insK]
    split
    · simp
    · simp only [List.mem_cons, mem_insK (l := l)]
      constructor
      · rintro (h | h | h)
        · exact .inr (.inl h)
        · exact .inl h
        · exact .inr (.inr h)
      · rintro (h | h | h)
        · exact .inr (.inl h)
        · exact .inl h
        · exact .inr (.inr h)

theorem Asc.ins {x : Ent} : ∀ {l : List Ent}, Asc l → (∀ y ∈ l, ¬ y.1 = x.1) → Asc (insK x l)
  | [], _, _ => List.pairwise_singleton _ _
  | e :: l, h, hn => by
    obtain ⟨h1, h2⟩ := List.pairwise_cons.1 h
    simp only [insK]
    split
    · rename_i hx
      refine List.pairwise_cons.2 ⟨fun y hy => ?_, h⟩
      rcases List.mem_cons.1 hy with rfl | hy
      · exact hx
      · exact ahead_trans hx (h1 y hy)
    · rename_i hx
      refine List.pairwise_cons.2 ⟨fun y hy => ?_, Asc.ins h2 (fun y hy => hn y (List.mem_cons_of_mem _ hy))⟩
      rcases mem_insK.1 hy with rfl | hy
      · cases e1 : ahead e.1 y.1 with
        | true => rfl
        | false => exact absurd (ahead_total e1 (by simpa using hx)) (hn e List.mem_cons_self)
      · exact h1 y hy

theorem Asc.put {l : List Ent} (h : Asc l) (x : Ent) : Asc (putK l x) :=
  (h.drop x.1).ins (fun y hy => by simpa [dropK] using (List.mem_filter.1 hy).2)

theorem ahead_le {x s y : List Int} (h1 : ahead x s = true) (h2 : ahead y s = false) : ahead x y = true := by
  cases e : ahead s y with
  | true => exact ahead_trans h1 e
  | false => rw [← ahead_total e h2]; exact h1

theorem ahead_ge {y s x : List Int} (h1 : ahead y s = true) (h2 : ahead x s = false) : ahead y x = true := by
  cases e : ahead s x with
  | true => exact ahead_trans h1 e
  | false => rw [← ahead_total e h2]; exact h1

theorem dropK_append (l m : List Ent) (k : List Int) : dropK (l ++ m) k = dropK l k ++ dropK m k := by simp [dropK]

theorem hasK_append (l m : List Ent) (k : List Int) : hasK (l ++ m) k = (hasK l k || hasK m k) := by simp [hasK]

theorem hasK_none {l : List Ent} {k : List Int} (h : ∀ y ∈ l, ¬ y.1 = k) : hasK l k = false := by simpa [hasK] using h

theorem dropK_none {l : List Ent} {k : List Int} (h : ∀ y ∈ l, ¬ y.1 = k) : dropK l k = l := by
  simp only [dropK, List.filter_eq_self]
  intro y hy
  simpa using h y hy

theorem lookK_none {k : List Int} : ∀ {l : List Ent}, (∀ y ∈ l, ¬ y.1 = k) → lookK l k = none
  | [], _ => rfl
  | e :: l, h => by
    simp only [lookK, lookK_none (l := l) (fun y hy => h y (List.mem_cons_of_mem _ hy)), if_neg (h e List.mem_cons_self)]

theorem lookK_append (k : List Int) (m : List Ent) : ∀ l : List Ent, lookK (l ++ m) k = match lookK m k with | some v => some v | none => lookK l k
  | [] => by
    simp only [List.nil_append, lookK]
    cases lookK m k <;> rfl
  | e :: l => by
    simp only [List.cons_append, lookK, lookK_append k m l]
    cases lookK m k <;> rfl

theorem hasK_look (k : List Int) : ∀ l : List Ent, hasK l k = (lookK l k).isSome
  | [] => rfl
  | e :: l => by
    have ih := hasK_look k l
    simp only [hasK, List.any_cons, lookK] at ih ⊢
    cases h : lookK l k with
    | some v => simp [ih, h]
    | none =>
      rw [h] at ih
      by_cases e1 : e.1 = k
      · simp [e1]
      · simp only [ih, if_neg e1]
        simp [e1]

theorem insK_append_left {x : Ent} {m : List Ent} (hm : ∀ y ∈ m, ahead x.1 y.1 = true) : ∀ l : List Ent, insK x (l ++ m) = insK x l ++ m
  | [] => by
    cases m with
    | nil => rfl
    | cons y m => simp [insK, hm y List.mem_cons_self]
  | e :: l => by
    simp only [List.cons_append, insK]
    split
    · rfl
    · rw [insK_append_left hm l]; rfl

theorem insK_append_right {x : Ent} {m : List Ent} : ∀ {l : List Ent}, (∀ y ∈ l, ahead y.1 x.1 = true) → insK x (l ++ m) = l ++ insK x m
  | [], _ => rfl
  | e :: l, h => by
    simp only [List.cons_append, insK, ahead_asymm (h e List.mem_cons_self), Bool.false_eq_true, if_false]
    rw [insK_append_right (fun y hy => h y (List.mem_cons_of_mem _ hy))]

theorem putK_left {x : Ent} {l m : List Ent} (hm : ∀ y ∈ m, ahead x.1 y.1 = true) : putK (l ++ m) x = putK l x ++ m := by
  rw [putK, dropK_append, dropK_none (l := m) (fun y hy e => ahead_ne (hm y hy) e.symm), insK_append_left hm]
  rfl

theorem putK_right {x : Ent} {l m : List Ent} (hl : ∀ y ∈ l, ahead y.1 x.1 = true) : putK (l ++ m) x = l ++ putK m x := by
  rw [putK, dropK_append, dropK_none (l := l) (fun y hy => ahead_ne (hl y hy)), insK_append_right hl]
  rfl

theorem dropK_left {k : List Int} {l m : List Ent} (hm : ∀ y ∈ m, ahead k y.1 = true) : dropK (l ++ m) k = dropK l k ++ m := by
  rw [dropK_append, dropK_none (l := m) (fun y hy e => ahead_ne (hm y hy) e.symm)]

theorem dropK_right {k : List Int} {l m : List Ent} (hl : ∀ y ∈ l, ahead y.1 k = true) : dropK (l ++ m) k = l ++ dropK m k := by
  rw [dropK_append, dropK_none (l := l) (fun y hy => ahead_ne (hl y hy))]

theorem lookK_left {k : List Int} {l m : List Ent} (hm : ∀ y ∈ m, ahead k y.1 = true) : lookK (l ++ m) k = lookK l k := by
  rw [lookK_append, lookK_none (l := m) (fun y hy e => ahead_ne (hm y hy) e.symm)]

theorem lookK_right {k : List Int} {l m : List Ent} (hl : ∀ y ∈ l, ahead y.1 k = true) : lookK (l ++ m) k = lookK m k := by
  rw [lookK_append, lookK_none (l := l) (fun y hy => ahead_ne (hl y hy))]
  cases lookK m k <;> rfl

/-- in order, an entry of a key put where one of that key stands -/
theorem putK_at {x e : Ent} {l m : List Ent} (hl : ∀ y ∈ l, ahead y.1 x.1 = true) (he : e.1 = x.1) (hm : ∀ y ∈ m, ahead x.1 y.1 = true) : putK (l ++ e :: m) x = l ++ x :: m := by
  rw [putK_right hl, putK]
  have : dropK (e :: m) x.1 = m := by
    have h := dropK_none (l := m) (k := x.1) (fun y hy q => ahead_ne (hm y hy) q.symm)
    rw [dropK] at h ⊢
    simp only [List.filter_cons, he, decide_true, Bool.not_true, Bool.false_eq_true, if_false, h]
  rw [this]
  have := insK_append_left hm []
  simpa [insK] using this

/-- and where none stands -/
theorem putK_new {x : Ent} {l m : List Ent} (hl : ∀ y ∈ l, ahead y.1 x.1 = true) (hm : ∀ y ∈ m, ahead x.1 y.1 = true) : putK (l ++ m) x = l ++ x :: m := by
  rw [putK_right hl, putK, dropK_none (fun y hy q => ahead_ne (hm y hy) q.symm)]
  have := insK_append_left hm []
  simpa [insK] using this

theorem dropK_at {k : List Int} {e : Ent} {l m : List Ent} (hl : ∀ y ∈ l, ahead y.1 k = true) (he : e.1 = k) (hm : ∀ y ∈ m, ahead k y.1 = true) : dropK (l ++ e :: m) k = l ++ m := by
  rw [dropK_right hl]
  have h := dropK_none (l := m) (k := k) (fun y hy q => ahead_ne (hm y hy) q.symm)
  rw [dropK] at h ⊢
  simp only [List.filter_cons, he, decide_true, Bool.not_true, Bool.false_eq_true, if_false, h]

/-- a deed -/
structure Dd where
  kind : Int
  ver : Int
  key : List Int
  val : List Int
  lim : Int

/-- what a deed came to -/
structure Fd where
  code : Int
  ver : Int
  val : List Int
  ents : List Ent

/-- a deed of a kind, on a version that is there -/
def deedK (vs : List (List Ent)) (d : Dd) : Fd × List (List Ent) :=
  let now := vs.getD d.ver.toNat []
  if d.kind = 1 then
    if d.key.length < 1 ∨ 1200 < d.key.length ∨ 4000 < d.val.length then (⟨1, 0, [], []⟩, vs)
    else (⟨0, vs.length, [], []⟩, vs ++ [putK now (d.key, d.val)])
  else if d.kind = 2 then
    if hasK now d.key then (⟨0, vs.length, [], []⟩, vs ++ [dropK now d.key]) else (⟨6, 0, [], []⟩, vs)
  else if d.kind = 3 then
    match lookK now d.key with
    | some v => (⟨0, 0, v, []⟩, vs)
    | none => (⟨6, 0, [], []⟩, vs)
  else if d.lim < 0 then (⟨2, 0, [], []⟩, vs)
  else (⟨0, 0, [], scanK now d.key d.val d.lim.toNat⟩, vs)

def stepK (vs : List (List Ent)) (d : Dd) : Fd × List (List Ent) :=
  if d.kind ≠ 1 ∧ d.kind ≠ 2 ∧ d.kind ≠ 3 ∧ d.kind ≠ 4 then (⟨3, 0, [], []⟩, vs)
  else if d.ver < 0 ∨ (vs.length : Int) ≤ d.ver then (⟨2, 0, [], []⟩, vs)
  else deedK vs d

/-- deeds, one by one: what each came to, and the versions behind them -/
def playK (vs : List (List Ent)) : List Dd → List Fd × List (List Ent)
  | [] => ([], vs)
  | d :: ds => ((stepK vs d).1 :: (playK (stepK vs d).2 ds).1, (playK (stepK vs d).2 ds).2)

theorem playK_snoc (d : Dd) : ∀ (ds : List Dd) (vs : List (List Ent)), playK vs (ds ++ [d]) = ((playK vs ds).1 ++ [(stepK (playK vs ds).2 d).1], (stepK (playK vs ds).2 d).2)
  | [], vs => by simp [playK]
  | e :: ds, vs => by simp [playK, playK_snoc d ds]

theorem playK_length : ∀ (ds : List Dd) (vs : List (List Ent)), (playK vs ds).1.length = ds.length
  | [], _ => rfl
  | _ :: ds, vs => by simp [playK, playK_length ds]

/-- all versions are in order -/
theorem deedK_asc {vs : List (List Ent)} (h : ∀ l ∈ vs, Asc l) (d : Dd) : ∀ l ∈ (deedK vs d).2, Asc l := by
  have hn : Asc (vs.getD d.ver.toNat []) := by
    by_cases e : d.ver.toNat < vs.length
    · simp only [List.getD, List.getElem?_eq_getElem e, Option.getD_some]
      exact h _ (List.getElem_mem e)
    · simp only [List.getD, List.getElem?_eq_none (Nat.le_of_not_lt e), Option.getD_none]
      exact List.Pairwise.nil
  simp only [deedK]
  split
  · split
    · exact h
    · intro l hl
      rcases List.mem_append.1 hl with hl | hl
      · exact h l hl
      · rw [List.mem_singleton.1 hl]
        exact hn.put _
  · split
    · split
      · intro l hl
        rcases List.mem_append.1 hl with hl | hl
        · exact h l hl
        · rw [List.mem_singleton.1 hl]
          exact hn.drop _
      · exact h
    · split
      · split <;> exact h
      · split <;> exact h

theorem stepK_asc {vs : List (List Ent)} (h : ∀ l ∈ vs, Asc l) (d : Dd) : ∀ l ∈ (stepK vs d).2, Asc l := by
  simp only [stepK]
  split
  · exact h
  · split
    · exact h
    · exact deedK_asc h d

theorem playK_asc : ∀ (ds : List Dd) {vs : List (List Ent)}, (∀ l ∈ vs, Asc l) → ∀ l ∈ (playK vs ds).2, Asc l
  | [], _, h => h
  | d :: ds, _, h => playK_asc ds (stepK_asc h d)

end Go.Proofs.Ytndnbkgejdindaa
