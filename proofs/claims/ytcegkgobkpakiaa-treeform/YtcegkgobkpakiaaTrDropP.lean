/- Plain facts: a tree without a key; nodes joined; the root. -/
import Derived.Test.YtcegkgobkpakiaaTrJoin
namespace Go.Proofs.Ytcegkgobkpakiaa
open Go.ChangeShapes Go.WideShapes Go.ChangeAt Go.RowKit

/-- two nodes of one height as one, or halved anew -/
def joinT : (h : Nat) → Tr h → Tr h → List (Tr h)
  | 0, x, y => halvesL ((show List Ent from x) ++ (show List Ent from y))
  | h + 1, x, y => halvesL ((show List (Tr h) from x) ++ (show List (Tr h) from y))

theorem joined_any (ok : Nat → Prop) : ∀ (h : Nat) (x y : Tr h) (_ : deg h x + deg h y ≤ 5) (_ : 1 ≤ deg h x) (u1 v1 u2 v2 : Value) (w : World) (_ : Fresh ok w) (_ : (kNd h).rel ok w x [u1, v1]) (_ : (kNd h).rel ok w y [u2, v2]),
    Calls Try.prog 40 #[.agg #[u1, v1], .agg #[u2, v2]] w fun e w' => ∃ a c, e = .returned (.slice a (joinT h x y).length c) ∧ Lies (kNd h) ok w' a c (joinT h x y) ∧ Ples a c ∧ Below w.heap.size w w'
  | 0, x, y, hl, _, u1, v1, u2, v2, w, hok, h1, h2 => joined_leaf ok x y hl u1 v1 u2 v2 w hok h1 h2
  | h + 1, x, y, hl, hp, u1, v1, u2, v2, w, hok, h1, h2 => joined_inner ok h x y (fun e => by rw [e] at hp; simp [deg] at hp) hl u1 v1 u2 v2 w hok h1 h2

theorem joinT_flat : ∀ (h : Nat) (x y : Tr h), (joinT h x y).flatMap (flat h) = flat h x ++ flat h y
  | 0, x, y => halvesL_flat _
  | h + 1, x, y => by
    refine Eq.trans (halvesL_flatMap (flat h) _) ?_
    exact List.flatMap_append

theorem halvesL_one {α : Type} (l : List α) : 1 ≤ (halvesL l).length ∧ (halvesL l).length ≤ 2 := by
  unfold halvesL
  split <;> simp

theorem halves_leaves {l : List Ent} (h2 : 2 ≤ l.length) (h5 : l.length ≤ 5) : ∀ z ∈ halvesL l, Wn 0 z := by
  unfold halvesL
  split
  · intro z hz
    rw [List.mem_singleton.1 hz]
    exact ⟨by rw [deg_leaf]; omega, by rw [deg_leaf]; omega, trivial⟩
  · intro z hz
    rcases List.mem_cons.1 hz with rfl | hz
    · exact ⟨by rw [deg_leaf, List.length_take]; omega, by rw [deg_leaf, List.length_take]; omega, trivial⟩
    · rw [List.mem_singleton.1 hz]
      exact ⟨by rw [deg_leaf, List.length_drop]; omega, by rw [deg_leaf, List.length_drop]; omega, trivial⟩

theorem halves_inner {h : Nat} {l : List (Tr h)} (hw : ∀ k ∈ l, Wn h k) (h2 : 2 ≤ l.length) (h5 : l.length ≤ 5) : ∀ z ∈ halvesL l, Wn (h + 1) z := by
  rcases halves_nodes hw (by omega) h5 with ⟨r, e1, q1, q2, q3⟩ | ⟨r, s, e1, q1, q2⟩
  · intro z hz
    rw [e1] at hz
    rw [List.mem_singleton.1 hz]
    exact ⟨by omega, q2, q3⟩
  · intro z hz
    rw [e1] at hz
    rcases List.mem_cons.1 hz with rfl | hz
    · exact q1
    · rw [List.mem_singleton.1 hz]
      exact q2

theorem joinT_nodes : ∀ (h : Nat) (x y : Tr h), Wk h x → Wk h y → 2 ≤ deg h x + deg h y → deg h x + deg h y ≤ 5 → (∀ z ∈ joinT h x y, Wn h z) ∧ 1 ≤ (joinT h x y).length ∧ (joinT h x y).length ≤ 2
  | 0, x, y, _, _, h3, h5 => by
    change List Ent at x y
    have e : (x ++ y).length = deg 0 x + deg 0 y := List.length_append
    exact ⟨halves_leaves (l := x ++ y) (by omega) (by omega), halvesL_one (x ++ y)⟩
  | h + 1, x, y, hx, hy, h3, h5 => by
    change List (Tr h) at x y
    have e : (x ++ y).length = deg (h + 1) x + deg (h + 1) y := List.length_append
    exact ⟨halves_inner (l := x ++ y) (fun k hk => by
      rcases List.mem_append.1 hk with hk | hk
      · exact hx k hk
      · exact hy k hk) (by omega) (by omega), halvesL_one (x ++ y)⟩

/-- what has become of a node that a key was dropped from -/
structure Shrunk (h : Nat) (t : Tr h) (key : List Int) (r : Tr h) : Prop where
  flat : flat h r = dropK (Go.Proofs.Ytcegkgobkpakiaa.flat h t) key
  least : deg h t ≤ deg h r + 1
  most : deg h r ≤ 4
  kids : Wk h r

/-- a tree from which a key can be dropped -/
structure Wd (h : Nat) (t : Tr h) : Prop where
  most : deg h t ≤ 4
  some : 0 < h → 2 ≤ deg h t
  kids : Wk h t
  asc : Asc (flat h t)

theorem Wd.q {h : Nat} {t : Tr h} (hd : Wd h t) : Wq h t := ⟨hd.most, fun h0 => by have := hd.some h0; omega, hd.kids, hd.asc⟩

theorem Wd.kid {h : Nat} {ks : List (Tr h)} (hd : Wd (h + 1) ks) {l : List (Tr h)} {x : Tr h} {r : List (Tr h)} (e : ks = l ++ x :: r) : Wd h x := by
  have hx := (Wk_node ks).1 hd.kids x (by rw [e]; simp)
  exact ⟨hx.2.1, fun _ => hx.1, hx.2.2, (hd.q.kid e).asc⟩

/-- a key that is in a tree is in the kid at which it is cut -/
theorem KidCut.has {h : Nat} {ks : List (Tr h)} {key : List Int} {l : List (Tr h)} {x : Tr h} {r : List (Tr h)} (hc : KidCut h ks key l x r) (hh : hasK (Go.Proofs.Ytcegkgobkpakiaa.flat (h + 1) ks) key = true) : hasK (Go.Proofs.Ytcegkgobkpakiaa.flat h x) key = true := by
  rw [hasK_look, hc.look] at hh
  rw [hasK_look]
  exact hh

theorem KidCut.drop {h : Nat} {ks : List (Tr h)} {key : List Int} {l : List (Tr h)} {x : Tr h} {r : List (Tr h)} (hc : KidCut h ks key l x r) : dropK (Go.Proofs.Ytcegkgobkpakiaa.flat (h + 1) ks) key = l.flatMap (Go.Proofs.Ytcegkgobkpakiaa.flat h) ++ (dropK (Go.Proofs.Ytcegkgobkpakiaa.flat h x) key ++ r.flatMap (Go.Proofs.Ytcegkgobkpakiaa.flat h)) := by
  rw [hc.flat, dropK_right hc.left, dropK_left hc.right]

/-- in a leaf -/
theorem drop_leaf {es l r : List Ent} {key : List Int} (hd : Wd 0 es) (hh : hasK es key = true) (e : es = l ++ r) (hl : ∀ y ∈ l, ahead y.1 key = true) (hr : ∀ y ∈ r, ahead y.1 key = false) :
    l.length + 1 ≤ es.length ∧ ∀ es' : List Ent, es' = es.take l.length ++ [] ++ es.drop (l.length + 1) → Shrunk 0 es key es' := by
  have ha : Asc es := hd.asc
  have h4 : es.length ≤ 4 := hd.most
  subst e
  have ha2 := (List.pairwise_append.1 ha).2.1
  cases r with
  | nil =>
    rw [List.append_nil, hasK_none (fun y hy => ahead_ne (hl y hy))] at hh
    cases hh
  | cons y r =>
    have ha3 := (List.pairwise_cons.1 ha2).1
    have hy : y.1 = key := by
      by_cases hy : y.1 = key
      · exact hy
      · have hxy : ahead key y.1 = true := by
          cases h : ahead key y.1 with
          | true => rfl
          | false => exact absurd (ahead_total (hr y List.mem_cons_self) h) hy
        rw [hasK_append, hasK_none (fun z hz => ahead_ne (hl z hz)), hasK_none (l := y :: r) (fun z hz => ?_)] at hh
        · cases hh
        · rcases List.mem_cons.1 hz with rfl | hz
          · exact hy
          · exact fun q => ahead_ne (ahead_trans hxy (ha3 z hz)) q.symm
    refine ⟨by simp, fun es' he' => ?_⟩
    rw [List.take_left, ← List.drop_drop, List.drop_left] at he'
    have he2 : es' = l ++ r := by rw [he']; simp
    clear he'
    subst he2
    refine ⟨?_, ?_, ?_, trivial⟩
    · rw [flat_leaf, flat_leaf, dropK_at hl hy (fun z hz => by rw [← hy]; exact ha3 z hz)]
    · rw [deg_leaf, deg_leaf]
      simp
      omega
    · rw [deg_leaf]
      simp at h4 ⊢
      omega

theorem shrunk_plain {h : Nat} {ks : List (Tr h)} {key : List Int} {l : List (Tr h)} {k k' : Tr h} {r : List (Tr h)} (hd : Wd (h + 1) ks) (hc : KidCut h ks key l k r) (hs : Shrunk h k key k') (h2 : 2 ≤ deg h k') : ∀ m : List (Tr h), m = l ++ [k'] ++ r → Shrunk (h + 1) ks key m := by
  rintro m rfl
  have hw := (Wk_node ks).1 hd.kids
  have hks : ks.length = l.length + 1 + r.length := by rw [hc.eq]; simp; omega
  have h4 : ks.length ≤ 4 := hd.most
  refine ⟨?_, ?_, ?_, (Wk_node _).2 fun y hy => ?_⟩
  · rw [hc.drop, flat_node, List.flatMap_append, List.flatMap_append, List.flatMap_cons, List.flatMap_nil, List.append_nil, hs.flat, List.append_assoc]
  · rw [deg_node, deg_node, hks]; simp; omega
  · rw [deg_node]; simp; omega
  · rcases List.mem_append.1 hy with hy | hy
    · rcases List.mem_append.1 hy with hy | hy
      · exact hw y (by rw [hc.eq]; simp [hy])
      · rw [List.mem_singleton.1 hy]
        exact ⟨h2, hs.most, hs.kids⟩
    · exact hw y (by rw [hc.eq]; simp [hy])

theorem shrunk_join {h : Nat} {ks : List (Tr h)} {key : List Int} {A B : List (Tr h)} {x y : Tr h} (hf : (A ++ x :: y :: B).flatMap (flat h) = dropK (flat (h + 1) ks) key) (hn : A.length + B.length + 2 = ks.length) (h4 : ks.length ≤ 4) (hA : ∀ z ∈ A, Wn h z) (hB : ∀ z ∈ B, Wn h z) (hx : Wk h x) (hy : Wk h y) (h3 : 2 ≤ deg h x + deg h y) (h5 : deg h x + deg h y ≤ 5) :
    ∀ m : List (Tr h), m = A ++ joinT h x y ++ B → Shrunk (h + 1) ks key m := by
  rintro m rfl
  obtain ⟨q1, q2, q3⟩ := joinT_nodes h x y hx hy h3 h5
  refine ⟨?_, ?_, ?_, (Wk_node _).2 fun z hz => ?_⟩
  · rw [← hf, flat_node, List.flatMap_append, List.flatMap_append, joinT_flat]
    simp [List.flatMap_append, List.flatMap_cons]
  · rw [deg_node, deg_node]; simp; omega
  · rw [deg_node]; simp; omega
  · rcases List.mem_append.1 hz with hz | hz
    · rcases List.mem_append.1 hz with hz | hz
      · exact hA z hz
      · exact q1 z hz
    · exact hB z hz

/-- a root that was put into -/
theorem root_put {h : Nat} {t : Tr h} {x : Ent} {rs : List (Tr h)} (hr : Wd h t) (hg : Grown h t x rs) : (∃ r, rs = [r] ∧ flat h r = putK (flat h t) x ∧ Wd h r) ∨ (∃ r s, rs = [r, s] ∧ flat (h + 1) [r, s] = putK (flat h t) x ∧ Wd (h + 1) [r, s]) := by
  have hf := hg.flat
  have ha := hr.asc.put x
  rcases hg.form with ⟨r, rfl, q1, q2, q3, q4⟩ | ⟨r, s, rfl, q1, q2⟩
  · left
    have e : flat h r = putK (flat h t) x := by simpa using hf
    exact ⟨r, rfl, e, q3, fun h0 => by have := hr.some h0; omega, q4, by rw [e]; exact ha⟩
  · right
    have e : flat (h + 1) [r, s] = putK (flat h t) x := hf
    refine ⟨r, s, rfl, e, ?_, fun _ => ?_, (Wk_node _).2 fun z hz => ?_, by rw [e]; exact ha⟩
    · rw [deg_node]; simp
    · rw [deg_node]; simp
    · rcases List.mem_cons.1 hz with rfl | hz
      · exact q1
      · rw [List.mem_singleton.1 hz]; exact q2

end Go.Proofs.Ytcegkgobkpakiaa
