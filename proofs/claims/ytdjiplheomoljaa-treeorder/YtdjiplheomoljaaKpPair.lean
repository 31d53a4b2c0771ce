/- Two puts behind deeds. -/
import Derived.Test.YtdjiplheomoljaaKpMore
namespace Go.Proofs.Ytdjiplheomoljaa
open Go.ChangeShapes Go.WideShapes Go.ChangeAt Go.RowKit

/-- two puts, the second one on what the first one made -/
theorem pair_play (vs : List (List Ent)) (v : Nat) (hv : vs.length = v + 1) (k o x y : List Int) (hk1 : 1 ≤ k.length) (hk2 : k.length ≤ 1200) (ho1 : 1 ≤ o.length) (ho2 : o.length ≤ 1200) (hx : x.length ≤ 4000) (hy : y.length ≤ 4000) :
    (playK vs [⟨1, v, k, x, 0⟩, ⟨1, (v : Int) + 1, o, y, 0⟩]).2 = vs ++ [putK (vs.getD v []) (k, x)] ++ [putK (putK (vs.getD v []) (k, x)) (o, y)] := by
  obtain ⟨now, hnow⟩ : ∃ now, now = vs.getD v [] := ⟨_, rfl⟩
  have s1 : stepK vs ⟨1, v, k, x, 0⟩ = (⟨0, (vs.length : Nat), [], []⟩, vs ++ [putK now (k, x)]) := by
    rw [step_put (by omega) (by omega) hk1 hk2 hx, Int.toNat_natCast, ← hnow]
  have hl1 : (vs ++ [putK now (k, x)]).length = v + 2 := by simp [hv]
  have g1 : (vs ++ [putK now (k, x)]).getD ((v : Int) + 1).toNat [] = putK now (k, x) := by
    rw [show ((v : Int) + 1).toNat = v + 1 by omega]
    exact getD_last _ _ _ hv
  have s2 : stepK (vs ++ [putK now (k, x)]) ⟨1, (v : Int) + 1, o, y, 0⟩ = (⟨0, ((vs ++ [putK now (k, x)]).length : Nat), [], []⟩, vs ++ [putK now (k, x)] ++ [putK (putK now (k, x)) (o, y)]) := by
    rw [step_put (by omega) (by omega) ho1 ho2 hy, g1]
  rw [← hnow]
  simp only [playK, s1, s2]

theorem pair_last (ds : List Dd) (v : Nat) (hv : v + 1 = (playK [[]] ds).2.length) (k o x y : List Int) (hk1 : 1 ≤ k.length) (hk2 : k.length ≤ 1200) (ho1 : 1 ≤ o.length) (ho2 : o.length ≤ 1200) (hx : x.length ≤ 4000) (hy : y.length ≤ 4000) :
    (playK [[]] (ds ++ [⟨1, v, k, x, 0⟩, ⟨1, (v : Int) + 1, o, y, 0⟩])).2.length = v + 3 ∧ (playK [[]] (ds ++ [⟨1, v, k, x, 0⟩, ⟨1, (v : Int) + 1, o, y, 0⟩])).2.getD (v + 2) [] = putK (putK ((playK [[]] ds).2.getD v []) (k, x)) (o, y) := by
  rw [playK_append]
  simp only
  rw [pair_play _ v hv.symm k o x y hk1 hk2 ho1 ho2 hx hy]
  have hl1 : ((playK [[]] ds).2 ++ [putK ((playK [[]] ds).2.getD v []) (k, x)]).length = v + 2 := by simp [← hv]
  exact ⟨by rw [List.length_append, hl1]; rfl, getD_last _ _ _ hl1⟩

/-- all of a version that is there, in order -/
theorem now_asc (ds : List Dd) (v : Nat) : Asc ((playK [[]] ds).2.getD v []) := by
  have h := playK_asc ds (vs := [[]]) (by simp [Asc])
  by_cases e : v < (playK [[]] ds).2.length
  · simp only [List.getD, List.getElem?_eq_getElem e, Option.getD_some]
    exact h _ (List.getElem_mem e)
  · simp only [List.getD, List.getElem?_eq_none (Nat.le_of_not_lt e), Option.getD_none]
    exact List.Pairwise.nil

end Go.Proofs.Ytdjiplheomoljaa
