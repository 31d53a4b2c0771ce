/- A row of tokens in memory. -/
import Derived.Test.YtedinkoapieakaaDoorLexSkip
namespace Go.Proofs.YtedinkoapieakaaDoor
open Go.ChangeShapes Go.WideShapes Go.ChangeAt Go.RowKit

/-- the slice at 'ao' holds these tokens -/
def Toks (w : World) (ao : Option Addr) (cap : Nat) (ts : List Tok) : Prop :=
  ts.length ≤ cap ∧ (∀ t ∈ ts, t.int ≤ 9223372036854775807) ∧
    (ts = [] ∨ ∃ b off, ao = some ⟨b, off, none⟩ ∧ b < w.heap.size ∧ ∀ i (hi : i < ts.length), w.cell? ⟨b, off + i * 3, none⟩ = some (.int .i64 ts[i].kind) ∧ w.cell? ⟨b, off + i * 3 + 1, none⟩ = some (.int .i64 ts[i].int) ∧ w.cell? ⟨b, off + i * 3 + 2, none⟩ = some (.string (str ts[i].text)))

theorem Toks.later {w w' : World} {ao : Option Addr} {cap : Nat} {ts : List Tok} (h : Toks w ao cap ts) (hb : Below w.heap.size w w') : Toks w' ao cap ts := by
  refine ⟨h.1, h.2.1, ?_⟩
  rcases h.2.2 with h0 | ⟨b, off, h1, h2, h3⟩
  · exact .inl h0
  · exact .inr ⟨b, off, h1, Nat.lt_of_lt_of_le h2 hb.size, fun i hi => ⟨(hb.cell h2).trans (h3 i hi).1, (hb.cell h2).trans (h3 i hi).2.1, (hb.cell h2).trans (h3 i hi).2.2⟩⟩

end Go.Proofs.YtedinkoapieakaaDoor
