/- Entries and nodes of trees, plain and in memory. -/
import Derived.Test.YtndnbkgejdindaaTrMem
import Derived.Test.YtndnbkgejdindaaTreeLaws
namespace Go.Proofs.Ytndnbkgejdindaa
open Go.ChangeShapes Go.WideShapes Go.ChangeAt Go.RowKit

/-- a key and a value, two slices of bytes -/
def kEnt : Kd Ent 2 where
  rel ok w e cs := ∃ u v, cs = [u, v] ∧ IsBody w ok u e.1 ∧ IsBody w ok v e.2
  move hk hok _ _ := by
    rintro ⟨u, v, rfl, h1, h2⟩
    exact ⟨u, v, rfl, h1.move hk hok, h2.move hk hok⟩
  len := by
    rintro _ _ _ _ ⟨u, v, rfl, _, _⟩
    rfl
  one := by
    rintro _ _ _ _ ⟨u, v, rfl, h1, h2⟩ x hx
    simp only [List.mem_cons, List.not_mem_nil, or_false] at hx
    rcases hx with rfl | rfl
    · exact h1.one
    · exact h2.one

/-- a slice of things of a kind -/
def kRow {α : Type} {size : Nat} (K : Kd α size) : Kd (List α) 1 where
  rel ok w l cs := ∃ a c, cs = [.slice a l.length c] ∧ Lies K ok w a c l ∧ Ples a c
  move hk hok _ _ := by
    rintro ⟨a, c, rfl, h1, h2⟩
    exact ⟨a, c, rfl, h1.move hk hok, h2⟩
  len := by
    rintro _ _ _ _ ⟨a, c, rfl, _, _⟩
    rfl
  one := by
    rintro _ _ _ _ ⟨a, c, rfl, _, _⟩ x hx
    simp only [List.mem_cons, List.not_mem_nil, or_false] at hx
    subst hx
    rfl

/-- a node: its entries, its kids -/
def Both {α : Type} (K : Kd α 2) (ok : Nat → Prop) (w : World) (es : List Ent) (ks : List α) (cs : List Value) : Prop :=
  ∃ a c b d, cs = [.slice a es.length c, .slice b ks.length d] ∧ Lies kEnt ok w a c es ∧ Ples a c ∧ Lies K ok w b d ks ∧ Ples b d

theorem Both.move {α : Type} {K : Kd α 2} {ok ok' : Nat → Prop} {w w' : World} {es : List Ent} {ks : List α} {cs : List Value} (hk : Kept ok w w') (hok : ∀ b, b < w.heap.size → ok b → ok' b) (h : Both K ok w es ks cs) : Both K ok' w' es ks cs := by
  obtain ⟨a, c, b, d, e, h1, h2, h3, h4⟩ := h
  exact ⟨a, c, b, d, e, h1.move hk hok, h2, h3.move hk hok, h4⟩

theorem Both.len {α : Type} {K : Kd α 2} {ok : Nat → Prop} {w : World} {es : List Ent} {ks : List α} {cs : List Value} (h : Both K ok w es ks cs) : cs.length = 2 := by
  obtain ⟨a, c, b, d, rfl, _⟩ := h
  rfl

theorem Both.one {α : Type} {K : Kd α 2} {ok : Nat → Prop} {w : World} {es : List Ent} {ks : List α} {cs : List Value} (h : Both K ok w es ks cs) : ∀ u ∈ cs, u.oneCell' = true := by
  obtain ⟨a, c, b, d, rfl, _⟩ := h
  intro x hx
  simp only [List.mem_cons, List.not_mem_nil, or_false] at hx
  rcases hx with rfl | rfl <;> rfl

/-- where there are no kids it is all one of which kind they would be -/
theorem Both.leaf {α β : Type} {K : Kd α 2} (K' : Kd β 2) {ok : Nat → Prop} {w : World} {es : List Ent} {cs : List Value} (h : Both K ok w es [] cs) : Both K' ok w es [] cs := by
  obtain ⟨a, c, b, d, e, h1, h2, h3, h4⟩ := h
  exact ⟨a, c, b, d, e, h1, h2, Lies.nil _ _ _ h3.2.1, h4⟩

def kLeaf : Kd (List Ent) 2 where
  rel ok w es cs := Both kEnt ok w es [] cs
  move hk hok _ _ h := h.move hk hok
  len h := h.len
  one h := h.one

def kInner {α : Type} (K : Kd α 2) : Kd (List α) 2 where
  rel ok w ks cs := Both K ok w [] ks cs
  move hk hok _ _ h := h.move hk hok
  len h := h.len
  one h := h.one

/-- trees of one height: leaves, or lists of trees that are one less high -/
def Tr : Nat → Type
  | 0 => List Ent
  | h + 1 => List (Tr h)

def kNd : (h : Nat) → Kd (Tr h) 2
  | 0 => kLeaf
  | h + 1 => kInner (kNd h)

/-- all entries, from leaf to leaf -/
def flat : (h : Nat) → Tr h → List Ent
  | 0, es => (show List Ent from es)
  | h + 1, ks => (show List (Tr h) from ks).flatMap (flat h)

/-- how many entries or kids -/
def deg : (h : Nat) → Tr h → Nat
  | 0, es => (show List Ent from es).length
  | h + 1, ks => (show List (Tr h) from ks).length

/-- each node below has two to four -/
def Wk : (h : Nat) → Tr h → Prop
  | 0, _ => True
  | h + 1, ks => ∀ k ∈ (show List (Tr h) from ks), 2 ≤ deg h k ∧ deg h k ≤ 4 ∧ Wk h k

/-- a node that is no root -/
def Wn (h : Nat) (t : Tr h) : Prop := 2 ≤ deg h t ∧ deg h t ≤ 4 ∧ Wk h t

/-- a root -/
def Wr (h : Nat) (t : Tr h) : Prop := deg h t ≤ 4 ∧ (0 < h → 2 ≤ deg h t) ∧ Wk h t

theorem flat_node {h : Nat} (ks : List (Tr h)) : flat (h + 1) ks = ks.flatMap (flat h) := rfl
theorem deg_node {h : Nat} (ks : List (Tr h)) : deg (h + 1) ks = ks.length := rfl
theorem Wk_node {h : Nat} (ks : List (Tr h)) : Wk (h + 1) ks ↔ ∀ k ∈ ks, Wn h k := Iff.rfl
theorem flat_leaf (es : List Ent) : flat 0 es = es := rfl
theorem deg_leaf (es : List Ent) : deg 0 es = es.length := rfl

/-- what has nodes with two at least below it has an entry -/
theorem flat_pos : ∀ (h : Nat) (t : Tr h), 1 ≤ deg h t → Wk h t → flat h t ≠ []
  | 0, es, h1, _ => by
    intro e
    have : (show List Ent from es) = [] := e
    rw [deg] at h1
    simp [this] at h1
  | h + 1, ks, h1, hw => by
    match (show List (Tr h) from ks), h1, hw with
    | [], h1, _ => simp [deg] at h1
    | k :: ks', _, hw =>
      have := hw k List.mem_cons_self
      have ih := flat_pos h k (by omega) this.2.2
      simp only [flat, List.flatMap_cons]
      intro e
      exact ih (List.append_eq_nil_iff.1 e).1

/-- the least key below -/
def leastK (h : Nat) (t : Tr h) : List Int := ((flat h t).head?.getD ([], [])).1

theorem least_head {h : Nat} {t : Tr h} {e : Ent} {l : List Ent} (hf : flat h t = e :: l) : leastK h t = e.1 := by simp [leastK, hf]

theorem least_mem {h : Nat} {t : Tr h} (hf : flat h t ≠ []) : ∃ e ∈ flat h t, e.1 = leastK h t := by
  match hh : flat h t, hf with
  | e :: l, _ => exact ⟨e, List.mem_cons_self, (least_head hh).symm⟩

/-- in order, the least key is not behind any other -/
theorem least_le {h : Nat} {t : Tr h} (ha : Asc (flat h t)) : ∀ y ∈ flat h t, ahead y.1 (leastK h t) = false := by
  intro y hy
  match hh : flat h t with
  | [] => rw [hh] at hy; cases hy
  | e :: l =>
    rw [hh] at ha hy
    rw [least_head hh]
    rcases List.mem_cons.1 hy with rfl | hy
    · exact ahead_irrefl _
    · exact ahead_asymm ((List.pairwise_cons.1 ha).1 y hy)

/-- the trees of which one is told by its height -/
abbrev Root := (h : Nat) × Tr h

end Go.Proofs.Ytndnbkgejdindaa
