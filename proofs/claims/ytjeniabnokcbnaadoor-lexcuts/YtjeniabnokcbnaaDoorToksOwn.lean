/- Rows of tokens that a call has laid: what they hold, a beginning of one, appended. -/
import Derived.Test.YtjeniabnokcbnaaDoorLexCut
import Derived.Test.YtjeniabnokcbnaaDoorLexToks
namespace Go.Proofs.YtjeniabnokcbnaaDoor
open Go.ChangeShapes Go.WideShapes Go.ChangeAt Go.RowKit

theorem tokCells_at (ts : List Tok) : ∀ (i : Nat) (hi : i < ts.length), (tokCells ts)[i * 3]? = some (.int .i64 ts[i].kind) ∧ (tokCells ts)[i * 3 + 1]? = some (.int .i64 ts[i].int) ∧ (tokCells ts)[i * 3 + 2]? = some (.string (str ts[i].text)) := by
  induction ts with
  | nil => exact fun i hi => absurd hi (Nat.not_lt_zero _)
  | cons t ts ih =>
    have e : tokCells (t :: ts) = .int .i64 t.kind :: .int .i64 t.int :: .string (str t.text) :: tokCells ts := by simp [tokCells]
    rw [e]
    intro i hi
    cases i with
    | zero => exact ⟨rfl, rfl, rfl⟩
    | succ i =>
      have h := ih i (by simpa using hi)
      rw [show (i + 1) * 3 = i * 3 + 3 by omega]
      exact h

theorem own_toks {w : World} {base cap n : Nat} {ao : Option Addr} {ts : List Tok} (hn : n = ts.length) (hi : ∀ t ∈ ts, t.int ≤ 9223372036854775807) (h : w.ownsRow base 44 3 (.slice ao n cap) n (tokCells ts)) : Toks w ao cap ts ∧ ∀ a, ao = some a → a.block < w.heap.size := by
  subst hn
  have h0 := h
  rcases h.2 with ⟨h1, h2⟩ | ⟨g, cap', cur, h1, h2, h3, h4, _⟩
  · have : ts = [] := List.length_eq_zero_iff.1 h2
    subst this
    simp only [Value.slice.injEq] at h1
    exact ⟨⟨Nat.zero_le _, hi, .inl rfl⟩, fun a ha => by rw [h1.1] at ha; cases ha⟩
  · simp only [Value.slice.injEq] at h1
    obtain ⟨rfl, -, rfl⟩ := h1
    have hc := h0.cells (g := g) rfl
    have hg := (Array.getElem?_eq_some_iff.1 h3).1
    refine ⟨⟨h4, hi, .inr ⟨g, 0, rfl, hg, fun i hl => ?_⟩⟩, fun a ha => by cases ha; exact hg⟩
    obtain ⟨c0, c1, c2⟩ := tokCells_at ts i hl
    have d0 := hc _ _ c0
    have d1 := hc _ _ c1
    have d2 := hc _ _ c2
    rw [add_off] at d0 d1 d2
    rw [Nat.zero_add]
    exact ⟨d0, d1, d2⟩

theorem tokCells_take (ts : List Tok) (n : Nat) : tokCells (ts.take n) = (tokCells ts).take (n * 3) := by
  induction ts generalizing n with
  | nil => simp [tokCells]
  | cons t ts ih =>
    cases n with
    | zero => simp [tokCells]
    | succ n =>
      have e : ∀ l : List Tok, tokCells (t :: l) = .int .i64 t.kind :: .int .i64 t.int :: .string (str t.text) :: tokCells l := fun l => by simp [tokCells]
      rw [List.take_succ_cons, e, e, ih, show (n + 1) * 3 = n * 3 + 3 by omega]
      rfl

theorem tok_cells_one (ts : List Tok) : ∀ u ∈ tokCells ts, u.oneCell' = true := by
  intro u hu
  simp only [tokCells, List.mem_flatMap] at hu
  obtain ⟨t, _, hu⟩ := hu
  simp only [List.mem_cons, List.not_mem_nil, or_false] at hu
  rcases hu with rfl | rfl | rfl <;> rfl

end Go.Proofs.YtjeniabnokcbnaaDoor
