/- Bytes that are written out in the text, as a new row. -/
import Derived.Test.YtndnbkgejdindaaOctAppendAt
import Derived.Lib.SlBytesConst
namespace Go.Proofs.Ytndnbkgejdindaa
open Go.ChangeShapes Go.WideShapes Go.ChangeAt Go.RowKit

theorem octs_alloc (w : World) (xs : List Int) (cap : Nat) (t : TypeId) (fr : Nat × Nat) (C : Array Value) (hC : C = (xs.map (Value.int .u8)).toArray) (hc : xs.length ≤ cap) (hl : xs.length ≤ 140737488351232) (hb : ∀ y ∈ xs, 0 ≤ y ∧ y ≤ 255) :
    Octs (w.alloc (.cells C t fr)) (some ⟨w.heap.size, 0, none⟩) cap xs := by
  refine ⟨hc, hl, (fun h => by cases h), hb, .inr ⟨w.heap.size, 0, rfl, fun i hi => ?_⟩⟩
  subst hC
  have : (w.alloc (.cells (xs.map (Value.int .u8)).toArray t fr)).heap[w.heap.size]? = some (.cells (xs.map (Value.int .u8)).toArray t fr) := by
    show (w.heap.push _)[w.heap.size]? = _
    simp
  unfold World.cell?
  rw [this]
  simp [List.getD, hi]

theorem Try.convertLit (w : World) (C : Array Value) (n c : Nat) : (convert 34 34 (.slice (some ⟨w.heap.size, 0, none⟩) n c)).run Try.prog (w.alloc (.cells C 5)) = .ok (.slice (some ⟨w.heap.size, 0, none⟩) n c) (w.alloc (.cells C 5 (C.size, C.size + 1))) :=
  Lib.run_convert_bytes_const w 34 5 C n c Try.underlying34 Try.underlying5

end Go.Proofs.Ytndnbkgejdindaa
