/- Rows of whole numbers that came in, and rows that an append has laid: as 'Elems'. -/
import Derived.Test.YtnplkdngboogdacChecked
import Derived.Test.YtnplkdngboogdacFoldPlain
import Derived.OwnWalk
import Derived.OpenShut
import Derived.Laws.AppendOwnNone
namespace Go.Proofs.Ytnplkdngboogdac
open Go.ChangeShapes Go.WideShapes Go.ChangeAt Go.RowKit

theorem Try.info3 : (Try.prog.info? 3).map (fun i => (i.zero, i.size, i.bytes)) = some (some (.int .i64 0), 1, 8) := by kernel_rfl

/-- a slice that came in holds its first numbers -/
theorem row_elems {w : World} {a : Option Addr} {len cap : Nat} {zs : List Int} (r : cap * 8 ≤ 140737488351232)
    (h : (a = none ∧ len = 0 ∧ cap = 0 ∧ zs = []) ∨ ∃ x, a = some x ∧ len ≤ cap ∧ cap ≤ maxLen ∧ zs.length = cap ∧ (∀ i, i < zs.length → w.cell? (x.add i) = some (.int .i64 (zs.getD i 0))) ∧ ∀ n ∈ zs, (Lit.int .i64 n).wf = true) :
    ∃ xs : List Int, len = xs.length ∧ Elems w a xs ∧ xs.length * 8 ≤ 140737488351232 ∧ (∀ y ∈ xs, (Lit.int .i64 y).wf = true) ∧ (a = none → xs = [] ∧ cap = 0) ∧
      ∀ x, a = some x → ∀ j u, (xs.map (Value.int .i64))[j]? = some u → w.cell? (x.add j) = some u := by
  rcases h with ⟨rfl, rfl, rfl, rfl⟩ | ⟨x, rfl, hl, hm, hz, hc, hw⟩
  · exact ⟨[], rfl, ⟨by simp, .inl rfl⟩, by simp, by simp, fun _ => ⟨rfl, rfl⟩, fun x h => by cases h⟩
  · refine ⟨zs.take len, by simp; omega, ⟨by simp; omega, ?_⟩, by simp; omega, fun y hy => hw y (List.mem_of_mem_take hy), (fun h => by cases h), ?_⟩
    · by_cases h0 : len = 0
      · left; subst h0; simp
      · right
        obtain ⟨b, off, rfl, hc'⟩ := ints_at hc (by omega)
        refine ⟨b, off, rfl, ?_⟩
        intro i hi
        simp only [List.length_take] at hi
        rw [hc' i (by omega)]
        simp [List.getD, show i < len by omega]
    · intro x' hx' j u hj
      cases hx'
      simp only [List.getElem?_map, List.getElem?_take] at hj
      by_cases hjl : j < len
      · rw [if_pos hjl] at hj
        have hjz : j < zs.length := by omega
        rw [List.getElem?_eq_getElem hjz] at hj
        simp only [Option.map_some, Option.some.injEq] at hj
        subst hj
        rw [hc j hjz]
        simp [List.getD, List.getElem?_eq_getElem hjz]
      · rw [if_neg hjl] at hj
        simp at hj

theorem Elems.blocks {w : World} {ao : Option Addr} {xs : List Int} (h : Elems w ao xs) (hx : xs ≠ []) : ∀ a, ao = some a → a.block < w.heap.size := by
  intro a ha
  rcases h.2 with h | ⟨b, off, e, hc⟩
  · exact absurd h hx
  · rw [ha] at e
    cases e
    exact World.block_lt_of_cell? _ _ (hc 0 (by cases xs; exact absurd rfl hx; simp))

/-- what a slice holds stands behind whatever lays new blocks alone -/
theorem Elems.later {w w' : World} {ao : Option Addr} {xs : List Int} (h : Elems w ao xs) (hb : Below w.heap.size w w') : Elems w' ao xs := by
  by_cases hx : xs = []
  · exact ⟨h.1, .inl hx⟩
  · exact h.below hb (h.blocks hx)

/-- a row that the call itself has laid holds its numbers -/
theorem own_elems {w : World} {base n : Nat} {v : Value} {xs : List Int} {vs : List Value} (hn : n = xs.length) (hv : vs = xs.map (Value.int .i64)) (hb : xs.length ≤ 140737488355328) (h : w.ownsRow base 3 1 v n vs) :
    ∃ ao cap, v = .slice ao xs.length cap ∧ Elems w ao xs := by
  subst hn hv
  rcases h.2 with ⟨h1, h2⟩ | ⟨g, cap, cur, h1, h2, h3, h4, h5, h6, h7⟩
  · have : xs = [] := List.length_eq_zero_iff.1 h2
    subst this
    exact ⟨none, 0, h1, ⟨by simp, .inl rfl⟩⟩
  · subst h1
    refine ⟨_, _, rfl, hb, .inr ⟨g, 0, rfl, fun i hi => ?_⟩⟩
    have hc := h.cellAt i (by omega)
    rw [Nat.zero_add, hc]
    simp [List.getD, List.getElem?_eq_getElem hi]

theorem ints_oneCells (xs : List Int) : ∀ u ∈ xs.map (Value.int .i64), u.oneCell' = true := by
  intro u hu
  obtain ⟨x, _, rfl⟩ := List.mem_map.1 hu
  rfl

end Go.Proofs.Ytnplkdngboogdac
