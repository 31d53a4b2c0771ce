/- What ParseParses' walk is made of: a statement stored into a variable of its own. -/
import Derived.Test.YtedinkoapieakaaDoorStmSame
import Derived.Test.YtedinkoapieakaaDoorRefParse
import Derived.Test.YtedinkoapieakaaDoorTokRow
namespace Go.Proofs.YtedinkoapieakaaDoor
open Go.ChangeShapes Go.WideShapes Go.ChangeAt Go.RowKit

theorem stm_stored (w : World) (x : SD) : ∃ W', (w.alloc zeroStm).setCells w.heap.size 0 (stmCells x).toArray.toList = W' ∧ Hid (StmAt W' w.heap.size x) ∧ Hid (Below w.heap.size w W') := by
  have hv := VarB.new w #[.int .i64 0, .string ⟨#[]⟩, .string ⟨#[]⟩, .string ⟨#[]⟩, .slice none 0 0, .slice none 0 0, .slice none 0 0, .slice none 0 0, .int .i64 0, .int .i64 0, .int .i64 0, .string ⟨#[]⟩, .string ⟨#[]⟩, .string ⟨#[]⟩, .int .i64 0, .slice none 0 0, .int .i64 0, .int .i64 0, .int .i64 0, .string ⟨#[]⟩, .string ⟨#[]⟩, .string ⟨#[]⟩, .int .i64 0, .slice none 0 0, .slice none 0 0, .slice none 0 0, .bool false, .int .i64 0] 38
  have hk := setFrom_keeps w.heap.size (stmCells x) (w.alloc zeroStm) 0
  have ha := hv.all (stmCells x) rfl
  have h1 : Below w.heap.size w (w.alloc zeroStm) := (Below.refl _ w).alloc (Nat.le_refl _) zeroStm
  exact ⟨_, rfl, ⟨ha.1, ha.2.1⟩, h1.trans (hk.below (Nat.le_refl _) h1.size)⟩

theorem StmAt.range {W : World} {B : Nat} {x : SD} (h : StmAt W B x) : W.rangeAt B 0 (stmCells x) := fun j v hv => by
  rw [Nat.zero_add]
  exact h.2 j v hv

end Go.Proofs.YtedinkoapieakaaDoor
