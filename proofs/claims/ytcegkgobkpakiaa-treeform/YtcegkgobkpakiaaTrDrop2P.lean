/- Plain facts: a kid that has too few is joined with the one next to it. -/
import Derived.Test.YtcegkgobkpakiaaTrDrop
namespace Go.Proofs.Ytcegkgobkpakiaa
open Go.ChangeShapes Go.WideShapes Go.ChangeAt Go.RowKit

theorem join_cut {h : Nat} {ks : List (Tr h)} {key : List Int} {l : List (Tr h)} {k k' : Tr h} {r : List (Tr h)} (hd : Wd (h + 1) ks) (hc : KidCut h ks key l k r) (hs : Shrunk h k key k') (h1 : deg h k' < 2) :
    ∃ A x y B, l ++ [k'] ++ r = A ++ x :: y :: B ∧ A.length = l.length - 1 ∧ A.length + 2 ≤ ks.length ∧ deg h x + deg h y ≤ 5 ∧ 1 ≤ deg h x ∧ ∀ m : List (Tr h), m = A ++ joinT h x y ++ B → Shrunk (h + 1) ks key m := by
  have hw := (Wk_node ks).1 hd.kids
  have hks : ks.length = l.length + 1 + r.length := by rw [hc.eq]; simp; omega
  have h4 : ks.length ≤ 4 := hd.most
  have h2 : 2 ≤ ks.length := hd.some (Nat.succ_pos _)
  have hk := hw k (by rw [hc.eq]; simp)
  have hk1 : deg h k' = 1 := by have := hs.least; have := hk.1; omega
  have hf : (l ++ [k'] ++ r).flatMap (flat h) = dropK (flat (h + 1) ks) key := by
    rw [hc.drop, List.flatMap_append, List.flatMap_append, List.flatMap_cons, List.flatMap_nil, List.append_nil, hs.flat, List.append_assoc]
  rcases List.eq_nil_or_concat l with hl | ⟨A, x, hl⟩
  · subst hl
    match r, hc, hks, hf with
    | [], _, hks, _ => simp at hks; omega
    | y :: B, hc, hks, hf =>
      have hy := hw y (by rw [hc.eq]; simp)
      refine ⟨[], k', y, B, rfl, rfl, by simp; omega, by have := hy.2.1; omega, by omega, ?_⟩
      exact shrunk_join (A := []) hf (by simp at hks ⊢; omega) h4 (by simp) (fun z hz => hw z (by rw [hc.eq]; simp [hz])) hs.kids hy.2.2 (by have := hy.1; omega) (by have := hy.2.1; omega)
  · rw [List.concat_eq_append] at hl
    subst hl
    have hx := hw x (by rw [hc.eq]; simp)
    have e : A ++ [x] ++ [k'] ++ r = A ++ x :: k' :: r := by simp
    rw [e] at hf
    refine ⟨A, x, k', r, e, by simp, by simp at hks; omega, by have := hx.2.1; omega, by have := hx.1; omega, ?_⟩
    exact shrunk_join hf (by simp at hks; omega) h4 (fun z hz => hw z (by rw [hc.eq]; simp [hz])) (fun z hz => hw z (by rw [hc.eq]; simp [hz])) hx.2.2 hs.kids (by have := hx.1; omega) (by have := hx.2.1; omega)

/-- two neighbours of a list of nodes, in memory -/
theorem two_at {ok : Nat → Prop} {h : Nat} {w : World} {b : Option Addr} {d : Nat} {A : List (Tr h)} {x y : Tr h} {B : List (Tr h)} (hL : Lies (kNd h) ok w b d (A ++ x :: y :: B)) :
    ∃ bb off a1 n1 c1 b1 m1 d1 a2 n2 c2 b2 m2 d2, b = some ⟨bb, off, none⟩ ∧ bb < w.heap.size ∧ ok bb ∧ (kNd h).rel ok w x [.slice a1 n1 c1, .slice b1 m1 d1] ∧ (kNd h).rel ok w y [.slice a2 n2 c2, .slice b2 m2 d2] ∧
      ∀ W : World, Below w.heap.size w W → (W.cell? ⟨bb, off + A.length * 2, none⟩ = some (.slice a1 n1 c1) ∧ W.cell? ⟨bb, off + A.length * 2 + 1, none⟩ = some (.slice b1 m1 d1)) ∧ W.cell? ⟨bb, off + (A.length + 1) * 2, none⟩ = some (.slice a2 n2 c2) ∧ W.cell? ⟨bb, off + (A.length + 1) * 2 + 1, none⟩ = some (.slice b2 m2 d2) := by
  have h1 : A.length < (A ++ x :: y :: B).length := by simp
  have h2 : A.length + 1 < (A ++ x :: y :: B).length := by simp
  have e1 : (A ++ x :: y :: B)[A.length] = x := by simp
  have e2 : (A ++ x :: y :: B)[A.length + 1] = y := by
    rw [List.getElem_append_right (by omega)]
    simp
  obtain ⟨bb, off, a1, n1, c1, b1, m1, d1, e, hb, hob, hr, hcell⟩ := kid_cells hL h1
  obtain ⟨bb', off', a2, n2, c2, b2, m2, d2, e', _, _, hr2, hcell2⟩ := kid_cells hL h2
  rw [e] at e'
  cases e'
  rw [e1] at hr
  rw [e2] at hr2
  exact ⟨bb, off, a1, n1, c1, b1, m1, d1, a2, n2, c2, b2, m2, d2, e, hb, hob, hr, hr2, fun W hW => ⟨hcell W hW, hcell2 W hW⟩⟩

end Go.Proofs.Ytcegkgobkpakiaa
