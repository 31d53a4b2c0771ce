/- A row of the call's own stands behind whatever lays new blocks alone. -/
import Derived.Test.YtndnbkgejdindaaOctAppendAt
namespace Go.Proofs.Ytndnbkgejdindaa
open Go.ChangeShapes Go.WideShapes Go.ChangeAt Go.RowKit

theorem own_stays {w w' : World} {base size n : Nat} {e : TypeId} {v : Value} {vs : List Value} (h : w.ownsRow base e size v n vs) (hb : Below w.heap.size w w') : w'.ownsRow base e size v n vs := by
  refine ⟨h.1, ?_⟩
  rcases h.2 with h' | ⟨g, cap, cur, h', h1, h2, h3⟩
  · exact .inl h'
  · have hlt : g < w.heap.size := (h.lt g (by rw [h']; rfl)).2
    exact .inr ⟨g, cap, cur, h', h1, (hb.block g hlt).trans h2, h3⟩

end Go.Proofs.Ytndnbkgejdindaa
