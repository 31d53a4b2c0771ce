/- One token, or none, in a row that Cut has laid. -/
import Derived.Test.YtjeniabnokcbnaaDoorLexTabs2
import Derived.Test.YtjeniabnokcbnaaDoorLexOverPlain
namespace Go.Proofs.YtjeniabnokcbnaaDoor
open Go.ChangeShapes Go.WideShapes Go.ChangeAt Go.RowKit

theorem bts_append (a b : ByteArray) : bts (a ++ b) = bts a ++ bts b := by
  unfold bts
  rw [ByteArray.data_append]
  simp

/-- what Cut answers where the answer is known -/
theorem Cut_is (s : ByteArray) (w : World) (tabs : LexTabs w) {ts : List Tok} {p : Nat} {c : Int} (h : CutIs (bts s) ts p c) :
    Calls Tryd.prog 5 #[.string s] w fun e w' => ∃ ao cap, e = .returned (.tuple #[.slice ao ts.length cap, .int .i64 (p : Nat), .int .i64 c]) ∧ w'.ownsRow w.heap.size 44 3 (.slice ao ts.length cap) ts.length (tokCells ts) ∧ Below w.heap.size w w' := by
  refine (Cut_any s w tabs).mono fun e w' ⟨v, ts', p', c', h1, h2, h3, h4⟩ => ?_
  obtain ⟨rfl, rfl, rfl⟩ := h.one_answer h2
  obtain ⟨ao, cap, rfl⟩ := own_shape h3
  exact ⟨ao, cap, h1, h3, h4⟩

/-- a row of one token: where it lies, and what it holds -/
theorem row_one {w : World} {base cap : Nat} {ao : Option Addr} {t : Tok} (h : w.ownsRow base 44 3 (.slice ao [t].length cap) [t].length (tokCells [t])) :
    ∃ g, ao = some ⟨g, 0, none⟩ ∧ g < w.heap.size ∧ base ≤ g ∧ w.cell? ⟨g, 0, none⟩ = some (.int .i64 t.kind) ∧ w.cell? ⟨g, 1, none⟩ = some (.int .i64 t.int) ∧ w.cell? ⟨g, 2, none⟩ = some (.string (str t.text)) := by
  have h0 := h
  rcases h.2 with ⟨h1, h2⟩ | ⟨g, cap', cur, h1, h2, h3, _⟩
  · cases h2
  · simp only [Value.slice.injEq] at h1
    obtain ⟨rfl, -, rfl⟩ := h1
    have hc := h0.cells (g := g) rfl
    have e : tokCells [t] = [.int .i64 t.kind, .int .i64 t.int, .string (str t.text)] := by simp [tokCells]
    rw [e] at hc
    exact ⟨g, rfl, (Array.getElem?_eq_some_iff.1 h3).1, h2, by have := hc 0 _ rfl; rwa [add_off] at this, by have := hc 1 _ rfl; rwa [add_off] at this, by have := hc 2 _ rfl; rwa [add_off] at this⟩

end Go.Proofs.YtjeniabnokcbnaaDoor
