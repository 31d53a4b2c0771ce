/- Plain facts: a tree with an entry more, as one node or two. -/
import Derived.Test.YtcegkgobkpakiaaTrEntry
import Derived.Test.YtcegkgobkpakiaaTrSplit
namespace Go.Proofs.Ytcegkgobkpakiaa
open Go.ChangeShapes Go.WideShapes Go.ChangeAt Go.RowKit

/-- what has become of a node that was put an entry into -/
structure Grown (h : Nat) (t : Tr h) (x : Ent) (rs : List (Tr h)) : Prop where
  flat : rs.flatMap (flat h) = putK (Go.Proofs.Ytcegkgobkpakiaa.flat h t) x
  form : (∃ r, rs = [r] ∧ deg h t ≤ deg h r ∧ 1 ≤ deg h r ∧ deg h r ≤ 4 ∧ Wk h r) ∨ (∃ r s, rs = [r, s] ∧ Wn h r ∧ Wn h s)

theorem Grown.len {h : Nat} {t : Tr h} {x : Ent} {rs : List (Tr h)} (g : Grown h t x rs) : 1 ≤ rs.length ∧ rs.length ≤ 2 := by
  rcases g.form with ⟨r, rfl, _⟩ | ⟨r, s, rfl, _⟩ <;> simp

theorem halvesL_flatMap {α β : Type} (f : α → List β) (l : List α) : (halvesL l).flatMap (fun m => m.flatMap f) = l.flatMap f := by
  unfold halvesL
  split
  · simp
  · rw [List.flatMap_cons, List.flatMap_cons, List.flatMap_nil, List.append_nil, ← List.flatMap_append, List.take_append_drop]

theorem halvesL_flat {α : Type} (l : List α) : (halvesL l).flatMap (fun m => m) = l := by
  unfold halvesL
  split
  · simp
  · rw [List.flatMap_cons, List.flatMap_cons, List.flatMap_nil, List.append_nil, List.take_append_drop]

/-- one behind a cut, or the one at it taken out -/
def behindK (r : List Ent) (k : List Int) : List Ent := if headIs r k then r.tail else r

/-- where a leaf goes on behind a key that is put into it -/
theorem put_leaf {es l r : List Ent} {x : Ent} (ha : Asc es) (e : es = l ++ r) (hl : ∀ y ∈ l, ahead y.1 x.1 = true) (hr : ∀ y ∈ r, ahead y.1 x.1 = false) :
    (headIs r x.1 = true ∧ l.length + 1 ≤ es.length ∧ l ++ x :: es.drop (l.length + 1) = putK es x) ∨ (headIs r x.1 = false ∧ l ++ x :: es.drop l.length = putK es x) := by
  subst e
  have ha2 := (List.pairwise_append.1 ha).2.1
  cases r with
  | nil =>
    right
    refine ⟨rfl, ?_⟩
    rw [putK_new (m := []) hl (by simp), List.drop_left]
  | cons y r =>
    have ha3 := (List.pairwise_cons.1 ha2).1
    by_cases hy : y.1 = x.1
    · left
      refine ⟨decide_eq_true hy, by simp, ?_⟩
      rw [putK_at hl hy (fun z hz => by rw [← hy]; exact ha3 z hz)]
      rw [← List.drop_drop, List.drop_left]
      rfl
    · right
      refine ⟨decide_eq_false hy, ?_⟩
      have hxy : ahead x.1 y.1 = true := by
        cases h : ahead x.1 y.1 with
        | true => rfl
        | false => exact absurd (ahead_total (hr y List.mem_cons_self) h) hy
      rw [putK_new hl (fun z hz => by
        rcases List.mem_cons.1 hz with rfl | hz
        · exact hxy
        · exact ahead_trans hxy (ha3 z hz)), List.drop_left]

theorem grown_leaf {es es' : List Ent} {x : Ent} (h : es' = putK es x) (h1 : es.length ≤ es'.length) (h2 : 1 ≤ es'.length) (h5 : es'.length ≤ 5) : Grown 0 es x (halvesL es') := by
  refine ⟨?_, ?_⟩
  · rw [show (flat 0 : List Ent → List Ent) = (fun m => m) from rfl]
    exact (halvesL_flat es').trans h
  · by_cases h4 : es'.length ≤ 4
    · left
      exact ⟨es', if_pos h4, h1, h2, h4, trivial⟩
    · right
      refine ⟨es'.take 2, es'.drop 2, if_neg h4, ⟨?_, ?_, trivial⟩, ⟨?_, ?_, trivial⟩⟩
      · rw [deg_leaf, List.length_take]; omega
      · rw [deg_leaf, List.length_take]; omega
      · rw [deg_leaf, List.length_drop]; omega
      · rw [deg_leaf, List.length_drop]; omega

theorem halves_nodes {h : Nat} {ks : List (Tr h)} (hw : ∀ k ∈ ks, Wn h k) (h1 : 1 ≤ ks.length) (h5 : ks.length ≤ 5) :
    (∃ r, halvesL ks = [r] ∧ deg (h + 1) r = ks.length ∧ deg (h + 1) r ≤ 4 ∧ Wk (h + 1) r) ∨ (∃ r s, halvesL ks = [r, s] ∧ Wn (h + 1) r ∧ Wn (h + 1) s) := by
  by_cases h4 : ks.length ≤ 4
  · left
    exact ⟨ks, if_pos h4, rfl, h4, (Wk_node ks).2 hw⟩
  · right
    refine ⟨ks.take 2, ks.drop 2, if_neg h4, ⟨?_, ?_, (Wk_node _).2 fun k hk => hw k (List.mem_of_mem_take hk)⟩, ⟨?_, ?_, (Wk_node _).2 fun k hk => hw k (List.mem_of_mem_drop hk)⟩⟩
    · rw [deg_node, List.length_take]; omega
    · rw [deg_node, List.length_take]; omega
    · rw [deg_node, List.length_drop]; omega
    · rw [deg_node, List.length_drop]; omega

theorem grown_inner {h : Nat} {ks : List (Tr h)} {x : Ent} {l : List (Tr h)} {k : Tr h} {r rs : List (Tr h)} (hq : Wq (h + 1) ks) (hc : KidCut h ks x.1 l k r) (hg : Grown h k x rs) :
    (l ++ rs ++ r).length ≤ 5 ∧ l ++ rs ++ r ≠ [] ∧ Grown (h + 1) ks x (halvesL (l ++ rs ++ r)) := by
  have hlen := hg.len
  have hks : ks.length = l.length + 1 + r.length := by rw [hc.eq]; simp; omega
  have h4 : ks.length ≤ 4 := hq.most
  have hw := (Wk_node ks).1 hq.kids
  have hk := hw k (by rw [hc.eq]; simp)
  have hrs : ∀ y ∈ rs, Wn h y := by
    rcases hg.form with ⟨y, rfl, q1, q2, q3, q4⟩ | ⟨y, z, rfl, q1, q2⟩
    · intro u hu
      rw [List.mem_singleton.1 hu]
      exact ⟨by have := hk.1; omega, q3, q4⟩
    · intro u hu
      rcases List.mem_cons.1 hu with rfl | hu
      · exact q1
      · rw [List.mem_singleton.1 hu]; exact q2
  have hall : ∀ y ∈ l ++ rs ++ r, Wn h y := by
    intro y hy
    rcases List.mem_append.1 hy with hy | hy
    · rcases List.mem_append.1 hy with hy | hy
      · exact hw y (by rw [hc.eq]; simp [hy])
      · exact hrs y hy
    · exact hw y (by rw [hc.eq]; simp [hy])
  have l5 : (l ++ rs ++ r).length ≤ 5 := by simp; omega
  have l1 : 1 ≤ (l ++ rs ++ r).length := by simp; omega
  refine ⟨l5, fun e => by rw [e] at l1; simp at l1, ?_, ?_⟩
  · refine Eq.trans (halvesL_flatMap (flat h) (l ++ rs ++ r)) ?_
    rw [hc.flat, List.flatMap_append, List.flatMap_append, hg.flat, putK_right hc.left, putK_left hc.right, List.append_assoc]
  · rcases halves_nodes hall l1 l5 with ⟨y, e, q1, q2, q3⟩ | ⟨y, z, e, q1, q2⟩
    · left
      refine ⟨y, e, ?_, by omega, q2, q3⟩
      rw [q1, deg_node]
      simp
      omega
    · exact .inr ⟨y, z, e, q1, q2⟩

end Go.Proofs.Ytcegkgobkpakiaa
