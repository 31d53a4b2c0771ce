/- Plain facts: bytes without the 255 at their end, and the least bytes behind whatever begins with them. -/
import Derived.Test.YtcegkgobkpakiaaOctAppendAt
namespace Go.Proofs.Ytcegkgobkpakiaa
open Go.ChangeShapes Go.WideShapes Go.ChangeAt Go.RowKit

/-- how many of the first k bytes stand ahead of the 255 at their end -/
def stemLen (xs : List Int) : Nat → Nat
  | 0 => 0
  | k + 1 => if xs.getD k 0 = 255 then stemLen xs k else k + 1

theorem stemLen_le (xs : List Int) (k : Nat) : stemLen xs k ≤ k := by
  induction k with
  | zero => simp [stemLen]
  | succ k ih => simp only [stemLen]; split <;> omega

theorem stemLen_high {xs : List Int} {k : Nat} (h : xs.getD k 0 = 255) : stemLen xs (k + 1) = stemLen xs k := by simp only [stemLen, if_pos h]

theorem stemLen_low {xs : List Int} {k : Nat} (h : ¬ xs.getD k 0 = 255) : stemLen xs (k + 1) = k + 1 := by simp only [stemLen, if_neg h]

/-- what stands at the stem's end is no 255 -/
theorem stemLen_last {xs : List Int} {k j : Nat} (h : stemLen xs k = j + 1) : ¬ xs.getD j 0 = 255 := by
  induction k with
  | zero => simp [stemLen] at h
  | succ k ih =>
    simp only [stemLen] at h
    split at h
    · exact ih h
    · obtain rfl : k = j := by omega
      assumption

/-- the least bytes that are greater than whatever begins with xs; nothing where there are none, or where there are too many -/
def nextVal (xs : List Int) : List Int :=
  if 1200 < xs.length then [] else match stemLen xs xs.length with
    | 0 => []
    | k + 1 => xs.take k ++ [xs.getD k 0 + 1]

/-- 1: too many; 6: there are none -/
def nextErr (xs : List Int) : Int := if 1200 < xs.length then 1 else if stemLen xs xs.length = 0 then 6 else 0

theorem nextVal_big {xs : List Int} (h : 1200 < xs.length) : nextVal xs = [] := by simp only [nextVal, if_pos h]
theorem nextErr_big {xs : List Int} (h : 1200 < xs.length) : nextErr xs = 1 := by simp only [nextErr, if_pos h]
theorem nextVal_none {xs : List Int} (h : ¬ 1200 < xs.length) (h0 : stemLen xs xs.length = 0) : nextVal xs = [] := by simp only [nextVal, if_neg h, h0]
theorem nextErr_none {xs : List Int} (h : ¬ 1200 < xs.length) (h0 : stemLen xs xs.length = 0) : nextErr xs = 6 := by simp only [nextErr, if_neg h, h0, if_true]
theorem nextVal_some {xs : List Int} {k : Nat} (h : ¬ 1200 < xs.length) (h0 : stemLen xs xs.length = k + 1) : nextVal xs = xs.take k ++ [xs.getD k 0 + 1] := by simp only [nextVal, if_neg h, h0]
theorem nextErr_some {xs : List Int} {k : Nat} (h : ¬ 1200 < xs.length) (h0 : stemLen xs xs.length = k + 1) : nextErr xs = 0 := by
  have : ¬ (k + 1 = 0) := by omega
  simp only [nextErr, if_neg h, h0, if_neg this]

theorem nextVal_bytes {xs : List Int} (hx : ∀ y ∈ xs, 0 ≤ y ∧ y ≤ 255) : ∀ y ∈ nextVal xs, 0 ≤ y ∧ y ≤ 255 := by
  intro y hy
  by_cases h : 1200 < xs.length
  · rw [nextVal_big h] at hy; cases hy
  · rcases h0 : stemLen xs xs.length with _ | k
    · rw [nextVal_none h h0] at hy; cases hy
    · rw [nextVal_some h h0] at hy
      have hl := stemLen_le xs xs.length
      have hn := stemLen_last h0
      rcases List.mem_append.1 hy with hy | hy
      · exact hx y (List.mem_of_mem_take hy)
      · have hk : k < xs.length := by omega
        have hm : xs.getD k 0 ∈ xs := by
          simp only [List.getD, List.getElem?_eq_getElem hk, Option.getD_some]
          exact List.getElem_mem hk
        have := hx _ hm
        simp only [List.mem_singleton] at hy
        omega

theorem take_snoc (xs : List Int) (k : Nat) (hk : k < xs.length) : xs.take (k + 1) = xs.take k ++ [xs.getD k 0] := by
  rw [List.take_succ_eq_append_getElem hk]
  simp [List.getD, List.getElem?_eq_getElem hk]

/-- the last of the first bytes, written over -/
theorem set_last (xs : List Int) (k : Nat) (hk : k < xs.length) (u : Value) : ((xs.take (k + 1)).map (Value.int .u8)).set k u = (xs.take k).map (Value.int .u8) ++ [u] := by
  rw [take_snoc xs k hk, List.map_append, List.set_append_right _ _ (by simp; omega)]
  have : k - (List.map (Value.int .u8) (List.take k xs)).length = 0 := by simp; omega
  rw [this]
  simp

end Go.Proofs.Ytcegkgobkpakiaa

/- Plain facts: bytes ahead of bytes, bytes that begin with bytes, and the next ones. -/
namespace Go.Proofs.Ytcegkgobkpakiaa
open Go.ChangeShapes Go.WideShapes Go.ChangeAt Go.RowKit

/-- is the first list ahead of the second, byte by byte -/
def ahead : List Int → List Int → Bool
  | _, [] => false
  | [], _ :: _ => true
  | x :: xs, y :: ys => if x = y then ahead xs ys else decide (x < y)

/-- does the first list begin with the second -/
def starts : List Int → List Int → Bool
  | _, [] => true
  | [], _ :: _ => false
  | x :: xs, y :: ys => decide (x = y) && starts xs ys

theorem starts_short : ∀ (ys xs : List Int), xs.length < ys.length → starts xs ys = false
  | [], xs, h => by simp at h
  | y :: ys, [], h => rfl
  | y :: ys, x :: xs, h => by
    simp only [List.length_cons] at h
    simp only [starts, starts_short ys xs (by omega), Bool.and_false]

theorem starts_take : ∀ (ys xs : List Int), ys.length ≤ xs.length → starts xs ys = decide (xs.take ys.length = ys)
  | [], xs, h => by simp [starts]
  | y :: ys, [], h => by simp at h
  | y :: ys, x :: xs, h => by
    simp only [List.length_cons] at h
    simp only [starts, starts_take ys xs (by omega), List.length_cons, List.take_succ_cons, List.cons.injEq, Bool.decide_and]

theorem ahead_drop : ∀ (k : Nat) (xs ys : List Int), k ≤ xs.length → k ≤ ys.length → xs.take k = ys.take k → ahead xs ys = ahead (xs.drop k) (ys.drop k)
  | 0, xs, ys, _, _, _ => by simp
  | k + 1, [], ys, h, _, _ => by simp at h
  | k + 1, x :: xs, [], _, h, _ => by simp at h
  | k + 1, x :: xs, y :: ys, h1, h2, h => by
    simp only [List.length_cons] at h1 h2
    simp only [List.take_succ_cons, List.cons.injEq] at h
    simp only [ahead, if_pos h.1, List.drop_succ_cons]
    exact ahead_drop k xs ys (by omega) (by omega) h.2

theorem drop_at (xs : List Int) (k : Nat) (hk : k < xs.length) : xs.drop k = xs.getD k 0 :: xs.drop (k + 1) := by
  rw [List.drop_eq_getElem_cons hk]
  simp [List.getD, List.getElem?_eq_getElem hk]

/-- the first two that differ tell -/
theorem ahead_differ {xs ys : List Int} {k : Nat} (hx : k < xs.length) (hy : k < ys.length) (h : xs.take k = ys.take k) (hne : ¬ xs.getD k 0 = ys.getD k 0) : ahead xs ys = decide (xs.getD k 0 < ys.getD k 0) := by
  rw [ahead_drop k xs ys (by omega) (by omega) h, drop_at xs k hx, drop_at ys k hy]
  simp only [ahead, if_neg hne]

/-- where none differ, the lengths tell -/
theorem ahead_ends {xs ys : List Int} {k : Nat} (hx : k ≤ xs.length) (hy : k ≤ ys.length) (h : xs.take k = ys.take k) (he : k = xs.length ∨ k = ys.length) : ahead xs ys = decide (xs.length < ys.length) := by
  rw [ahead_drop k xs ys hx hy h]
  by_cases h2 : k = ys.length
  · rw [show ys.drop k = [] from List.drop_eq_nil_iff.2 (by omega)]
    have : ¬ xs.length < ys.length := by omega
    simp [ahead, this]
  · have h1 : k = xs.length := by omega
    rw [show xs.drop k = [] from List.drop_eq_nil_iff.2 (by omega), drop_at ys k (by omega)]
    have : xs.length < ys.length := by omega
    simp [ahead, this]

/-- of bytes that are all 255 -/
theorem starts_high : ∀ (a b : List Int), (∀ y ∈ a, y = 255) → (∀ y ∈ b, 0 ≤ y ∧ y ≤ 255) → starts b a = !ahead b a
  | [], b, _, _ => by simp [starts, ahead]
  | x :: a, [], _, _ => by simp [starts, ahead]
  | x :: a, y :: b, ha, hb => by
    have hx : x = 255 := ha x List.mem_cons_self
    have hy := hb y List.mem_cons_self
    have ih := starts_high a b (fun z hz => ha z (List.mem_cons_of_mem _ hz)) (fun z hz => hb z (List.mem_cons_of_mem _ hz))
    simp only [starts, ahead]
    by_cases e : y = x
    · simp [e, ih]
    · have hlt : y < x := by omega
      simp [e, hlt]

/-- of bytes whose last one below 255 is c -/
theorem starts_next : ∀ (p : List Int) (c : Int) (a b : List Int), (∀ y ∈ a, y = 255) → (∀ y ∈ b, 0 ≤ y ∧ y ≤ 255) →
    starts b (p ++ c :: a) = (!ahead b (p ++ c :: a) && ahead b (p ++ [c + 1]))
  | [], c, a, [], _, _ => by simp [starts, ahead]
  | [], c, a, y :: b, ha, hb => by
    have ih := starts_high a b ha (fun z hz => hb z (List.mem_cons_of_mem _ hz))
    simp only [List.nil_append, starts, ahead]
    by_cases e : y = c
    · simp [e, ih]
      intro _
      omega
    · by_cases h : y < c
      · simp [e, h]
      · have h1 : ¬ y < c + 1 := by omega
        simp [e, h1]
  | q :: p, c, a, [], _, _ => by simp [starts, ahead]
  | q :: p, c, a, y :: b, ha, hb => by
    have ih := starts_next p c a b ha (fun z hz => hb z (List.mem_cons_of_mem _ hz))
    simp only [List.cons_append, starts, ahead]
    by_cases e : y = q
    · simp [e, ih]
    · simp [e]

theorem ahead_next : ∀ (p : List Int) (c : Int) (a : List Int), ahead (p ++ c :: a) (p ++ [c + 1]) = true
  | [], c, a => by
    have h1 : ¬ c = c + 1 := by omega
    have h2 : c < c + 1 := by omega
    simp [ahead, h1, h2]
  | q :: p, c, a => by
    simp only [List.cons_append, ahead, if_true]
    exact ahead_next p c a

/-- behind the stem all are 255 -/
theorem stemLen_above {xs : List Int} : ∀ (n i : Nat), stemLen xs n ≤ i → i < n → xs.getD i 0 = 255
  | 0, i, _, h => by omega
  | n + 1, i, h1, h2 => by
    simp only [stemLen] at h1
    split at h1
    · by_cases e : i = n
      · subst e; assumption
      · exact stemLen_above n i h1 (by omega)
    · omega

theorem high_of_none {xs : List Int} (h : stemLen xs xs.length = 0) : ∀ y ∈ xs, y = 255 := by
  intro y hy
  obtain ⟨i, hi, rfl⟩ := List.mem_iff_getElem.1 hy
  have := stemLen_above (xs := xs) xs.length i (by omega) hi
  simpa [List.getD, List.getElem?_eq_getElem hi] using this

theorem parted {xs : List Int} {k : Nat} (h : stemLen xs xs.length = k + 1) : ∃ a, xs = xs.take k ++ xs.getD k 0 :: a ∧ ∀ y ∈ a, y = 255 := by
  have hl := stemLen_le xs xs.length
  have hk : k < xs.length := by omega
  refine ⟨xs.drop (k + 1), ?_, ?_⟩
  · rw [← drop_at xs k hk, List.take_append_drop]
  · intro y hy
    obtain ⟨i, hi, rfl⟩ := List.mem_iff_getElem.1 hy
    simp only [List.length_drop] at hi
    have := stemLen_above (xs := xs) xs.length (k + 1 + i) (by omega) (by omega)
    rw [List.getElem_drop]
    simpa [List.getD, List.getElem?_eq_getElem (show k + 1 + i < xs.length by omega)] using this

end Go.Proofs.Ytcegkgobkpakiaa

/- Plain facts: entries in order, one put, one dropped; deeds on versions, as lists of entries. -/
namespace Go.Proofs.Ytcegkgobkpakiaa
open Go.ChangeShapes Go.WideShapes Go.ChangeAt Go.RowKit

/-- a key and what it has -/
abbrev Ent := List Int × List Int

theorem ahead_irrefl : ∀ xs : List Int, ahead xs xs = false
  | [] => rfl
  | x :: xs => by simp [ahead, ahead_irrefl xs]

theorem ahead_trans : ∀ {xs ys zs : List Int}, ahead xs ys = true → ahead ys zs = true → ahead xs zs = true
  | _, [], _, h, _ => by simp [ahead] at h
  | [], _ :: _, [], _, h => by simp [ahead] at h
  | [], _ :: _, _ :: _, _, _ => rfl
  | _ :: _, _ :: _, [], _, h => by simp [ahead] at h
  | x :: xs, y :: ys, z :: zs, h1, h2 => by
    simp only [ahead] at h1 h2 ⊢
    by_cases e1 : x = y
    · subst e1
      rw [if_pos rfl] at h1
      by_cases e2 : x = z
      · subst e2
        rw [if_pos rfl] at h2 ⊢
        exact ahead_trans h1 h2
      · rw [if_neg e2] at h2 ⊢
        exact h2
    · rw [if_neg e1] at h1
      have h1 := of_decide_eq_true h1
      by_cases e2 : y = z
      · subst e2
        rw [if_neg e1]
        exact decide_eq_true h1
      · rw [if_neg e2] at h2
        have h2 := of_decide_eq_true h2
        rw [if_neg (by omega)]
        exact decide_eq_true (by omega)

theorem ahead_total : ∀ {xs ys : List Int}, ahead xs ys = false → ahead ys xs = false → xs = ys
  | [], [], _, _ => rfl
  | [], _ :: _, h, _ => by simp [ahead] at h
  | _ :: _, [], _, h => by simp [ahead] at h
  | x :: xs, y :: ys, h1, h2 => by
    simp only [ahead] at h1 h2
    by_cases e : x = y
    · subst e
      rw [if_pos rfl] at h1 h2
      rw [ahead_total h1 h2]
    · rw [if_neg e] at h1
      rw [if_neg (fun h => e h.symm)] at h2
      have h1 := of_decide_eq_false h1
      have h2 := of_decide_eq_false h2
      omega

theorem ahead_asymm {xs ys : List Int} (h : ahead xs ys = true) : ahead ys xs = false := by
  cases e : ahead ys xs with
  | false => rfl
  | true =>
    have := ahead_trans h e
    rw [ahead_irrefl] at this
    cases this

theorem ahead_ne {xs ys : List Int} (h : ahead xs ys = true) : ¬ xs = ys := by
  intro e
  subst e
  rw [ahead_irrefl] at h
  cases h

/-- entries, but those of a key -/
def dropK (l : List Ent) (k : List Int) : List Ent := l.filter (fun e => !decide (e.1 = k))

/-- has one of them that key -/
def hasK (l : List Ent) (k : List Int) : Bool := l.any (fun e => decide (e.1 = k))

/-- one more, ahead of the first one that is behind it -/
def insK (x : Ent) : List Ent → List Ent
  | [] => [x]
  | e :: l => if ahead x.1 e.1 then x :: e :: l else e :: insK x l

def putK (l : List Ent) (x : Ent) : List Ent := insK x (dropK l x.1)

/-- what the last one of that key has -/
def lookK : List Ent → List Int → Option (List Int)
  | [], _ => none
  | e :: l, k => match lookK l k with
    | some v => some v
    | none => if e.1 = k then some e.2 else none

/-- is a key from one on, and ahead of the other one (if that has any bytes) -/
def within (lo hi k : List Int) : Bool := !ahead k lo && (decide (hi = []) || ahead k hi)

def scanK (l : List Ent) (lo hi : List Int) (n : Nat) : List Ent := (l.filter (fun e => within lo hi e.1)).take n

/-- is one of them behind a key -/
def overK (k : List Int) (l : List Ent) : Bool := l.any (fun e => ahead k e.1)

theorem insK_last (x : Ent) : ∀ l : List Ent, overK x.1 l = false → insK x l = l ++ [x]
  | [], _ => rfl
  | e :: l, h => by
    simp only [overK, List.any_cons, Bool.or_eq_false_iff] at h
    simp only [insK, h.1, Bool.false_eq_true, if_false, List.cons_append, insK_last x l h.2]

theorem insK_snoc (x e : Ent) : ∀ l : List Ent, overK x.1 l = true → insK x (l ++ [e]) = insK x l ++ [e]
  | [], h => by simp [overK] at h
  | y :: l, h => by
    by_cases hy : ahead x.1 y.1 = true
    · simp only [insK, List.cons_append, hy, if_true]
    · have hy : ahead x.1 y.1 = false := by simpa using hy
      simp only [overK, List.any_cons, hy, Bool.false_or] at h
      simp only [insK, List.cons_append, hy, Bool.false_eq_true, if_false, insK_snoc x e l h]

theorem insK_hit (x e : Ent) (l : List Ent) (h : overK x.1 l = false) (he : ahead x.1 e.1 = true) : insK x (l ++ [e]) = l ++ [x, e] := by
  induction l with
  | nil => simp [insK, he]
  | cons y l ih =>
    simp only [overK, List.any_cons, Bool.or_eq_false_iff] at h
    simp only [insK, List.cons_append, h.1, Bool.false_eq_true, if_false, ih h.2]

theorem overK_snoc (k : List Int) (l : List Ent) (e : Ent) : overK k (l ++ [e]) = (overK k l || ahead k e.1) := by simp [overK]

theorem hasK_snoc (k : List Int) (l : List Ent) (e : Ent) : hasK (l ++ [e]) k = (hasK l k || decide (e.1 = k)) := by simp [hasK]

theorem dropK_snoc_hit (k : List Int) (l : List Ent) (e : Ent) (h : e.1 = k) : dropK (l ++ [e]) k = dropK l k := by simp [dropK, h]

theorem dropK_snoc_miss (k : List Int) (l : List Ent) (e : Ent) (h : ¬ e.1 = k) : dropK (l ++ [e]) k = dropK l k ++ [e] := by simp [dropK, h]

theorem lookK_snoc (k : List Int) (e : Ent) : ∀ l : List Ent, lookK (l ++ [e]) k = if e.1 = k then some e.2 else lookK l k
  | [] => by simp [lookK]
  | y :: l => by
    simp only [List.cons_append, lookK, lookK_snoc k e l]
    by_cases h : e.1 = k
    · simp [h]
    · simp [h]

/-- all in order: each key ahead of all that stand behind it -/
def Asc (l : List Ent) : Prop := l.Pairwise (fun a b => ahead a.1 b.1 = true)

theorem Asc.drop {l : List Ent} (h : Asc l) (k : List Int) : Asc (dropK l k) := h.filter _

theorem mem_insK {x y : Ent} : ∀ {l : List Ent}, y ∈ insK x l ↔ y = x ∨ y ∈ l
  | [] => by simp [insK]
  | e :: l => by
    simp only [insK]
    split
    · simp
    · simp only [List.mem_cons, mem_insK (l := l)]
      constructor
      · rintro (h | h | h)
        · exact .inr (.inl h)
        · exact .inl h
        · exact .inr (.inr h)
      · rintro (h | h | h)
        · exact .inr (.inl h)
        · exact .inl h
        · exact .inr (.inr h)

theorem Asc.ins {x : Ent} : ∀ {l : List Ent}, Asc l → (∀ y ∈ l, ¬ y.1 = x.1) → Asc (insK x l)
  | [], _, _ => List.pairwise_singleton _ _
  | e :: l, h, hn => by
    obtain ⟨h1, h2⟩ := List.pairwise_cons.1 h
    simp only [insK]
    split
    · rename_i hx
      refine List.pairwise_cons.2 ⟨fun y hy => ?_, h⟩
      rcases List.mem_cons.1 hy with rfl | hy
      · exact hx
      · exact ahead_trans hx (h1 y hy)
    · rename_i hx
      refine List.pairwise_cons.2 ⟨fun y hy => ?_, Asc.ins h2 (fun y hy => hn y (List.mem_cons_of_mem _ hy))⟩
      rcases mem_insK.1 hy with rfl | hy
      · cases e1 : ahead e.1 y.1 with
        | true => rfl
        | false => exact absurd (ahead_total e1 (by simpa using hx)) (hn e List.mem_cons_self)
      · exact h1 y hy

theorem Asc.put {l : List Ent} (h : Asc l) (x : Ent) : Asc (putK l x) :=
  (h.drop x.1).ins (fun y hy => by simpa [dropK] using (List.mem_filter.1 hy).2)

theorem ahead_le {x s y : List Int} (h1 : ahead x s = true) (h2 : ahead y s = false) : ahead x y = true := by
  cases e : ahead s y with
  | true => exact ahead_trans h1 e
  | false => rw [← ahead_total e h2]; exact h1

theorem ahead_ge {y s x : List Int} (h1 : ahead y s = true) (h2 : ahead x s = false) : ahead y x = true := by
  cases e : ahead s x with
  | true => exact ahead_trans h1 e
  | false => rw [← ahead_total e h2]; exact h1

theorem dropK_append (l m : List Ent) (k : List Int) : dropK (l ++ m) k = dropK l k ++ dropK m k := by simp [dropK]

theorem hasK_append (l m : List Ent) (k : List Int) : hasK (l ++ m) k = (hasK l k || hasK m k) := by simp [hasK]

theorem hasK_none {l : List Ent} {k : List Int} (h : ∀ y ∈ l, ¬ y.1 = k) : hasK l k = false := by simpa [hasK] using h

theorem dropK_none {l : List Ent} {k : List Int} (h : ∀ y ∈ l, ¬ y.1 = k) : dropK l k = l := by
  simp only [dropK, List.filter_eq_self]
  intro y hy
  simpa using h y hy

theorem lookK_none {k : List Int} : ∀ {l : List Ent}, (∀ y ∈ l, ¬ y.1 = k) → lookK l k = none
  | [], _ => rfl
  | e :: l, h => by
    simp only [lookK, lookK_none (l := l) (fun y hy => h y (List.mem_cons_of_mem _ hy)), if_neg (h e List.mem_cons_self)]

theorem lookK_append (k : List Int) (m : List Ent) : ∀ l : List Ent, lookK (l ++ m) k = match lookK m k with | some v => some v | none => lookK l k
  | [] => by
    simp only [List.nil_append, lookK]
    cases lookK m k <;> rfl
  | e :: l => by
    simp only [List.cons_append, lookK, lookK_append k m l]
    cases lookK m k <;> rfl

theorem hasK_look (k : List Int) : ∀ l : List Ent, hasK l k = (lookK l k).isSome
  | [] => rfl
  | e :: l => by
    have ih := hasK_look k l
    simp only [hasK, List.any_cons, lookK] at ih ⊢
    cases h : lookK l k with
    | some v => simp [ih, h]
    | none =>
      rw [h] at ih
      by_cases e1 : e.1 = k
      · simp [e1]
      · simp only [ih, if_neg e1]
        simp [e1]

theorem insK_append_left {x : Ent} {m : List Ent} (hm : ∀ y ∈ m, ahead x.1 y.1 = true) : ∀ l : List Ent, insK x (l ++ m) = insK x l ++ m
  | [] => by
    cases m with
    | nil => rfl
    | cons y m => simp [insK, hm y List.mem_cons_self]
  | e :: l => by
    simp only [List.cons_append, insK]
    split
    · rfl
    · rw [insK_append_left hm l]; rfl

theorem insK_append_right {x : Ent} {m : List Ent} : ∀ {l : List Ent}, (∀ y ∈ l, ahead y.1 x.1 = true) → insK x (l ++ m) = l ++ insK x m
  | [], _ => rfl
  | e :: l, h => by
    simp only [List.cons_append, insK, ahead_asymm (h e List.mem_cons_self), Bool.false_eq_true, if_false]
    rw [insK_append_right (fun y hy => h y (List.mem_cons_of_mem _ hy))]

theorem putK_left {x : Ent} {l m : List Ent} (hm : ∀ y ∈ m, ahead x.1 y.1 = true) : putK (l ++ m) x = putK l x ++ m := by
  rw [putK, dropK_append, dropK_none (l := m) (fun y hy e => ahead_ne (hm y hy) e.symm), insK_append_left hm]
  rfl

theorem putK_right {x : Ent} {l m : List Ent} (hl : ∀ y ∈ l, ahead y.1 x.1 = true) : putK (l ++ m) x = l ++ putK m x := by
  rw [putK, dropK_append, dropK_none (l := l) (fun y hy => ahead_ne (hl y hy)), insK_append_right hl]
  rfl

theorem dropK_left {k : List Int} {l m : List Ent} (hm : ∀ y ∈ m, ahead k y.1 = true) : dropK (l ++ m) k = dropK l k ++ m := by
  rw [dropK_append, dropK_none (l := m) (fun y hy e => ahead_ne (hm y hy) e.symm)]

theorem dropK_right {k : List Int} {l m : List Ent} (hl : ∀ y ∈ l, ahead y.1 k = true) : dropK (l ++ m) k = l ++ dropK m k := by
  rw [dropK_append, dropK_none (l := l) (fun y hy => ahead_ne (hl y hy))]

theorem lookK_left {k : List Int} {l m : List Ent} (hm : ∀ y ∈ m, ahead k y.1 = true) : lookK (l ++ m) k = lookK l k := by
  rw [lookK_append, lookK_none (l := m) (fun y hy e => ahead_ne (hm y hy) e.symm)]

theorem lookK_right {k : List Int} {l m : List Ent} (hl : ∀ y ∈ l, ahead y.1 k = true) : lookK (l ++ m) k = lookK m k := by
  rw [lookK_append, lookK_none (l := l) (fun y hy => ahead_ne (hl y hy))]
  cases lookK m k <;> rfl

/-- in order, an entry of a key put where one of that key stands -/
theorem putK_at {x e : Ent} {l m : List Ent} (hl : ∀ y ∈ l, ahead y.1 x.1 = true) (he : e.1 = x.1) (hm : ∀ y ∈ m, ahead x.1 y.1 = true) : putK (l ++ e :: m) x = l ++ x :: m := by
  rw [putK_right hl, putK]
  have : dropK (e :: m) x.1 = m := by
    have h := dropK_none (l := m) (k := x.1) (fun y hy q => ahead_ne (hm y hy) q.symm)
    rw [dropK] at h ⊢
    simp only [List.filter_cons, he, decide_true, Bool.not_true, Bool.false_eq_true, if_false, h]
  rw [this]
  have := insK_append_left hm []
  simpa [insK] using this

/-- and where none stands -/
theorem putK_new {x : Ent} {l m : List Ent} (hl : ∀ y ∈ l, ahead y.1 x.1 = true) (hm : ∀ y ∈ m, ahead x.1 y.1 = true) : putK (l ++ m) x = l ++ x :: m := by
  rw [putK_right hl, putK, dropK_none (fun y hy q => ahead_ne (hm y hy) q.symm)]
  have := insK_append_left hm []
  simpa [insK] using this

theorem dropK_at {k : List Int} {e : Ent} {l m : List Ent} (hl : ∀ y ∈ l, ahead y.1 k = true) (he : e.1 = k) (hm : ∀ y ∈ m, ahead k y.1 = true) : dropK (l ++ e :: m) k = l ++ m := by
  rw [dropK_right hl]
  have h := dropK_none (l := m) (k := k) (fun y hy q => ahead_ne (hm y hy) q.symm)
  rw [dropK] at h ⊢
  simp only [List.filter_cons, he, decide_true, Bool.not_true, Bool.false_eq_true, if_false, h]

/-- a deed -/
structure Dd where
  kind : Int
  ver : Int
  key : List Int
  val : List Int
  lim : Int

/-- what a deed came to -/
structure Fd where
  code : Int
  ver : Int
  val : List Int
  ents : List Ent

/-- a deed of a kind, on a version that is there -/
def deedK (vs : List (List Ent)) (d : Dd) : Fd × List (List Ent) :=
  let now := vs.getD d.ver.toNat []
  if d.kind = 1 then
    if d.key.length < 1 ∨ 1200 < d.key.length ∨ 4000 < d.val.length then (⟨1, 0, [], []⟩, vs)
    else (⟨0, vs.length, [], []⟩, vs ++ [putK now (d.key, d.val)])
  else if d.kind = 2 then
    if hasK now d.key then (⟨0, vs.length, [], []⟩, vs ++ [dropK now d.key]) else (⟨6, 0, [], []⟩, vs)
  else if d.kind = 3 then
    match lookK now d.key with
    | some v => (⟨0, 0, v, []⟩, vs)
    | none => (⟨6, 0, [], []⟩, vs)
  else if d.lim < 0 then (⟨2, 0, [], []⟩, vs)
  else (⟨0, 0, [], scanK now d.key d.val d.lim.toNat⟩, vs)

def stepK (vs : List (List Ent)) (d : Dd) : Fd × List (List Ent) :=
  if d.kind ≠ 1 ∧ d.kind ≠ 2 ∧ d.kind ≠ 3 ∧ d.kind ≠ 4 then (⟨3, 0, [], []⟩, vs)
  else if d.ver < 0 ∨ (vs.length : Int) ≤ d.ver then (⟨2, 0, [], []⟩, vs)
  else deedK vs d

/-- deeds, one by one: what each came to, and the versions behind them -/
def playK (vs : List (List Ent)) : List Dd → List Fd × List (List Ent)
  | [] => ([], vs)
  | d :: ds => ((stepK vs d).1 :: (playK (stepK vs d).2 ds).1, (playK (stepK vs d).2 ds).2)

theorem playK_snoc (d : Dd) : ∀ (ds : List Dd) (vs : List (List Ent)), playK vs (ds ++ [d]) = ((playK vs ds).1 ++ [(stepK (playK vs ds).2 d).1], (stepK (playK vs ds).2 d).2)
  | [], vs => by simp [playK]
  | e :: ds, vs => by simp [playK, playK_snoc d ds]

theorem playK_length : ∀ (ds : List Dd) (vs : List (List Ent)), (playK vs ds).1.length = ds.length
  | [], _ => rfl
  | _ :: ds, vs => by simp [playK, playK_length ds]

/-- all versions are in order -/
theorem deedK_asc {vs : List (List Ent)} (h : ∀ l ∈ vs, Asc l) (d : Dd) : ∀ l ∈ (deedK vs d).2, Asc l := by
  have hn : Asc (vs.getD d.ver.toNat []) := by
    by_cases e : d.ver.toNat < vs.length
    · simp only [List.getD, List.getElem?_eq_getElem e, Option.getD_some]
      exact h _ (List.getElem_mem e)
    · simp only [List.getD, List.getElem?_eq_none (Nat.le_of_not_lt e), Option.getD_none]
      exact List.Pairwise.nil
  simp only [deedK]
  split
  · split
    · exact h
    · intro l hl
      rcases List.mem_append.1 hl with hl | hl
      · exact h l hl
      · rw [List.mem_singleton.1 hl]
        exact hn.put _
  · split
    · split
      · intro l hl
        rcases List.mem_append.1 hl with hl | hl
        · exact h l hl
        · rw [List.mem_singleton.1 hl]
          exact hn.drop _
      · exact h
    · split
      · split <;> exact h
      · split <;> exact h

theorem stepK_asc {vs : List (List Ent)} (h : ∀ l ∈ vs, Asc l) (d : Dd) : ∀ l ∈ (stepK vs d).2, Asc l := by
  simp only [stepK]
  split
  · exact h
  · split
    · exact h
    · exact deedK_asc h d

theorem playK_asc : ∀ (ds : List Dd) {vs : List (List Ent)}, (∀ l ∈ vs, Asc l) → ∀ l ∈ (playK vs ds).2, Asc l
  | [], _, h => h
  | d :: ds, _, h => playK_asc ds (stepK_asc h d)

end Go.Proofs.Ytcegkgobkpakiaa

/- Plain facts: what comes of deeds on versions: versions stay, keys are told apart, scans part, orders do not matter. -/
namespace Go.Proofs.Ytcegkgobkpakiaa
open Go.ChangeShapes Go.WideShapes Go.ChangeAt Go.RowKit

theorem deedK_grow (vs : List (List Ent)) (d : Dd) : ∃ m, (deedK vs d).2 = vs ++ m := by
  simp only [deedK]
  split
  · split
    · exact ⟨[], by simp⟩
    · exact ⟨_, rfl⟩
  · split
    · split
      · exact ⟨_, rfl⟩
      · exact ⟨[], by simp⟩
    · split
      · split <;> exact ⟨[], by simp⟩
      · split <;> exact ⟨[], by simp⟩

theorem stepK_grow (vs : List (List Ent)) (d : Dd) : ∃ m, (stepK vs d).2 = vs ++ m := by
  simp only [stepK]
  split
  · exact ⟨[], by simp⟩
  · split
    · exact ⟨[], by simp⟩
    · exact deedK_grow vs d

theorem playK_grow : ∀ (ds : List Dd) (vs : List (List Ent)), ∃ m, (playK vs ds).2 = vs ++ m
  | [], vs => ⟨[], by simp [playK]⟩
  | d :: ds, vs => by
    obtain ⟨m, h⟩ := stepK_grow vs d
    obtain ⟨n, g⟩ := playK_grow ds (stepK vs d).2
    refine ⟨m ++ n, ?_⟩
    rw [h] at g
    simp only [playK, h, g, List.append_assoc]

theorem playK_append : ∀ (ds es : List Dd) (vs : List (List Ent)), playK vs (ds ++ es) = ((playK vs ds).1 ++ (playK (playK vs ds).2 es).1, (playK (playK vs ds).2 es).2)
  | [], es, vs => by simp [playK]
  | d :: ds, es, vs => by simp [playK, playK_append ds es]

/-- no version ever changes -/
theorem playK_stays (ds es : List Dd) (vs : List (List Ent)) {v : Nat} (h : v < (playK vs ds).2.length) : (playK vs (ds ++ es)).2.getD v [] = (playK vs ds).2.getD v [] := by
  obtain ⟨m, g⟩ := playK_grow es (playK vs ds).2
  rw [playK_append]
  simp only [g, List.getD, List.getElem?_append_left h]

theorem insK_length (x : Ent) : ∀ l : List Ent, (insK x l).length = l.length + 1
  | [] => rfl
  | e :: l => by
    simp only [insK]
    split
    · simp
    · simp [insK_length x l]

theorem dropK_length (l : List Ent) (k : List Int) : (dropK l k).length ≤ l.length := List.length_filter_le _ _

theorem putK_length (l : List Ent) (x : Ent) : (putK l x).length ≤ l.length + 1 := by
  rw [putK, insK_length]
  have := dropK_length l x.1
  omega

/-- no version has more entries than there were deeds -/
theorem stepK_few {vs : List (List Ent)} {n : Nat} (h : ∀ l ∈ vs, l.length ≤ n) (d : Dd) : ∀ l ∈ (stepK vs d).2, l.length ≤ n + 1 := by
  have h' : ∀ l ∈ vs, l.length ≤ n + 1 := fun l hl => Nat.le_succ_of_le (h l hl)
  have hn : (vs.getD d.ver.toNat []).length ≤ n := by
    by_cases e : d.ver.toNat < vs.length
    · simp only [List.getD, List.getElem?_eq_getElem e, Option.getD_some]
      exact h _ (List.getElem_mem e)
    · simp [List.getD, List.getElem?_eq_none (Nat.le_of_not_lt e)]
  simp only [stepK]
  split
  · exact h'
  split
  · exact h'
  simp only [deedK]
  split
  · split
    · exact h'
    · intro l hl
      rcases List.mem_append.1 hl with hl | hl
      · exact h' l hl
      · rw [List.mem_singleton.1 hl]
        have := putK_length (vs.getD d.ver.toNat []) (d.key, d.val)
        omega
  · split
    · split
      · intro l hl
        rcases List.mem_append.1 hl with hl | hl
        · exact h' l hl
        · rw [List.mem_singleton.1 hl]
          have := dropK_length (vs.getD d.ver.toNat []) d.key
          omega
      · exact h'
    · split
      · split <;> exact h'
      · split <;> exact h'

theorem playK_few : ∀ (ds : List Dd) {vs : List (List Ent)} {n : Nat}, (∀ l ∈ vs, l.length ≤ n) → ∀ l ∈ (playK vs ds).2, l.length ≤ n + ds.length
  | [], _, _, h => h
  | d :: ds, vs, n, h => by
    intro l hl
    have := playK_few ds (stepK_few h d) l hl
    simp only [List.length_cons]
    omega

theorem scanK_all (l : List Ent) (n : Nat) : scanK l [] [] n = l.take n := by
  have : l.filter (fun e => within [] [] e.1) = l := by
    rw [List.filter_eq_self]
    intro e _
    cases h : e.1 <;> simp [within, ahead]
  rw [scanK, this]

theorem split_pairwise {R : Ent → Ent → Prop} (p : Ent → Bool) (hp : ∀ a b, R a b → p b = true → p a = true) : ∀ l : List Ent, l.Pairwise R → l.filter p ++ l.filter (fun e => !p e) = l
  | [], _ => rfl
  | e :: l, h => by
    obtain ⟨h1, h2⟩ := List.pairwise_cons.1 h
    cases he : p e with
    | true => simp [he, split_pairwise p hp l h2]
    | false =>
      have hn : ∀ y ∈ l, p y = false := fun y hy => by
        cases hy' : p y with
        | false => rfl
        | true => rw [hp e y (h1 y hy) hy'] at he; cases he
      have f1 : l.filter p = [] := by
        rw [List.filter_eq_nil_iff]
        intro y hy
        simp [hn y hy]
      have f2 : l.filter (fun e => !p e) = l := by
        rw [List.filter_eq_self]
        intro y hy
        simp [hn y hy]
      simp [he, f1, f2]

theorem ahead_nil (k : List Int) : ahead k [] = false := by cases k <;> rfl

/-- a scan in three parts is the scan -/
theorem scanK_parts {l : List Ent} (h : Asc l) {lo hi : List Int} (h1 : lo ≠ []) (h2 : hi ≠ []) (hle : ahead hi lo = false) {n : Nat} (hn : l.length ≤ n) :
    scanK l [] lo n ++ (scanK l lo hi n ++ scanK l hi [] n) = l := by
  have cut : ∀ f : Ent → Bool, (l.filter f).take n = l.filter f := fun f => by
    rw [List.take_of_length_le]
    exact Nat.le_trans (List.length_filter_le _ _) hn
  simp only [scanK, cut]
  have e1 : l.filter (fun e => within [] lo e.1) = l.filter (fun e => ahead e.1 lo) := by
    congr 1; funext e; simp [within, ahead_nil, h1]
  have e3 : l.filter (fun e => within hi [] e.1) = l.filter (fun e => !ahead e.1 hi) := by
    congr 1; funext e; simp [within]
  have e2 : l.filter (fun e => within lo hi e.1) = (l.filter (fun e => ahead e.1 hi)).filter (fun e => !ahead e.1 lo) := by
    rw [List.filter_filter]
    congr 1; funext e; simp [within, h2]
  have e1' : l.filter (fun e => ahead e.1 lo) = (l.filter (fun e => ahead e.1 hi)).filter (fun e => ahead e.1 lo) := by
    rw [List.filter_filter]
    congr 1; funext e
    cases hx : ahead e.1 lo with
    | false => simp
    | true => simp [ahead_ge hx hle]
  rw [e1, e2, e3, e1', ← List.append_assoc]
  have mono : ∀ s : List Int, ∀ a b : Ent, ahead a.1 b.1 = true → ahead b.1 s = true → ahead a.1 s = true := fun s a b => ahead_trans
  rw [split_pairwise (R := fun a b => ahead a.1 b.1 = true) (fun e => ahead e.1 lo) (mono lo) _ (h.filter _)]
  exact split_pairwise (R := fun a b => ahead a.1 b.1 = true) (fun e => ahead e.1 hi) (mono hi) _ h

theorem lookK_insK_other {x : Ent} {k : List Int} (hk : ¬ x.1 = k) : ∀ l : List Ent, lookK (insK x l) k = lookK l k
  | [] => by simp [insK, lookK, hk]
  | e :: l => by
    simp only [insK]
    split
    · rw [lookK]
      cases h : lookK (e :: l) k <;> simp [hk]
    · simp only [lookK, lookK_insK_other hk l]

theorem lookK_insK_own {x : Ent} : ∀ {l : List Ent}, (∀ y ∈ l, ¬ y.1 = x.1) → lookK (insK x l) x.1 = some x.2
  | [], _ => by simp [insK, lookK]
  | e :: l, h => by
    simp only [insK]
    split
    · rw [lookK, lookK_none h]
      simp
    · rw [lookK, lookK_insK_own (fun y hy => h y (List.mem_cons_of_mem _ hy))]

theorem dropK_no (l : List Ent) (k : List Int) : ∀ y ∈ dropK l k, ¬ y.1 = k := fun y hy => by
  simpa using (List.mem_filter.1 hy).2

theorem lookK_dropK_other {k o : List Int} (hk : ¬ k = o) : ∀ l : List Ent, lookK (dropK l k) o = lookK l o
  | [] => rfl
  | e :: l => by
    have ih := lookK_dropK_other hk l
    simp only [dropK] at ih ⊢
    by_cases he : e.1 = k
    · simp only [List.filter_cons, he, decide_true, Bool.not_true, Bool.false_eq_true, if_false, ih, lookK, if_neg hk]
      cases lookK l o <;> rfl
    · simp only [List.filter_cons, he, decide_false, Bool.not_false, if_true, lookK, ih]

theorem lookK_dropK_own (l : List Ent) (k : List Int) : lookK (dropK l k) k = none := lookK_none (dropK_no l k)

/-- a key has what was put last -/
theorem lookK_putK_own (l : List Ent) (x : Ent) : lookK (putK l x) x.1 = some x.2 := lookK_insK_own (dropK_no l x.1)

/-- and no other key is touched -/
theorem lookK_putK_other {x : Ent} {k : List Int} (hk : ¬ x.1 = k) (l : List Ent) : lookK (putK l x) k = lookK l k := by
  rw [putK, lookK_insK_other hk, lookK_dropK_other hk]

theorem hasK_putK (l : List Ent) (x : Ent) : hasK (putK l x) x.1 = true := by
  rw [hasK_look, lookK_putK_own]
  rfl

theorem mem_putK {x y : Ent} {l : List Ent} : y ∈ putK l x ↔ y = x ∨ (y ∈ l ∧ ¬ y.1 = x.1) := by
  rw [putK, mem_insK, dropK, List.mem_filter]
  simp

/-- in order, the same entries are the same list -/
theorem Asc.ext : ∀ {l m : List Ent}, Asc l → Asc m → (∀ y, y ∈ l ↔ y ∈ m) → l = m
  | [], [], _, _, _ => rfl
  | [], e :: m, _, _, h => absurd ((h e).2 List.mem_cons_self) (by simp)
  | e :: l, [], _, _, h => absurd ((h e).1 List.mem_cons_self) (by simp)
  | e :: l, f :: m, hl, hm, h => by
    obtain ⟨l1, l2⟩ := List.pairwise_cons.1 hl
    obtain ⟨m1, m2⟩ := List.pairwise_cons.1 hm
    have hef : e = f := by
      rcases List.mem_cons.1 ((h e).1 List.mem_cons_self) with h1 | h1
      · exact h1
      · rcases List.mem_cons.1 ((h f).2 List.mem_cons_self) with h2 | h2
        · exact h2.symm
        · have a := m1 e h1
          have b := l1 f h2
          rw [ahead_asymm a] at b
          cases b
    subst hef
    have : l = m := Asc.ext l2 m2 (fun y => by
      constructor
      · intro hy
        rcases List.mem_cons.1 ((h y).1 (List.mem_cons_of_mem _ hy)) with h1 | h1
        · exact absurd (congrArg Prod.fst h1).symm (ahead_ne (l1 y hy))
        · exact h1
      · intro hy
        rcases List.mem_cons.1 ((h y).2 (List.mem_cons_of_mem _ hy)) with h1 | h1
        · exact absurd (congrArg Prod.fst h1).symm (ahead_ne (m1 y hy))
        · exact h1)
    rw [this]

/-- in whichever order keys were put -/
theorem putK_swap {l : List Ent} (h : Asc l) {x y : Ent} (hne : ¬ x.1 = y.1) : putK (putK l x) y = putK (putK l y) x :=
  Asc.ext ((h.put x).put y) ((h.put y).put x) (fun z => by
    simp only [mem_putK]
    constructor
    · rintro (rfl | ⟨rfl | ⟨h1, h2⟩, h3⟩)
      · exact .inr ⟨.inl rfl, fun e => hne e.symm⟩
      · exact .inl rfl
      · exact .inr ⟨.inr ⟨h1, h3⟩, h2⟩
    · rintro (rfl | ⟨rfl | ⟨h1, h2⟩, h3⟩)
      · exact .inr ⟨.inl rfl, hne⟩
      · exact .inl rfl
      · exact .inr ⟨.inr ⟨h1, h3⟩, h2⟩)

theorem two_putK {l : List Ent} {x y : Ent} (hne : ¬ x.1 = y.1) : 2 ≤ (putK (putK l x) y).length := by
  have hy : y ∈ putK (putK l x) y := mem_putK.2 (.inl rfl)
  have hx : x ∈ putK (putK l x) y := mem_putK.2 (.inr ⟨mem_putK.2 (.inl rfl), hne⟩)
  match h : putK (putK l x) y with
  | [] => rw [h] at hy; cases hy
  | [e] =>
    rw [h] at hx hy
    rw [List.mem_singleton] at hx hy
    exact absurd (by rw [hx, hy]) hne
  | _ :: _ :: _ => simp

end Go.Proofs.Ytcegkgobkpakiaa
