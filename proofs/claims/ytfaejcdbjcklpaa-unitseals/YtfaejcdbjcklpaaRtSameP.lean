/- Rows taken one by one. -/
import Derived.Test.YtfaejcdbjcklpaaUnMem
import Derived.BigQuiet
import Derived.Deep.QuietTactic
import Derived.LoopTactic
import Derived.Handy
namespace Go.Proofs.Ytfaejcdbjcklpaa
open Go.ChangeShapes Go.WideShapes Go.ChangeAt Go.RowKit

theorem takeX_ext {α : Type} {xs ys : List α} {k : Nat} (hx : k < xs.length) (hy : k < ys.length) (h : xs.take k = ys.take k) (e : xs[k] = ys[k]) : xs.take (k + 1) = ys.take (k + 1) := by
  rw [List.take_succ_eq_append_getElem hx, List.take_succ_eq_append_getElem hy, h, e]

theorem octs_cell {w : World} {ao : Option Addr} {cap : Nat} {xs : List Int} (h : Octs w ao cap xs) {k : Nat} (hk : k < xs.length) : ∃ b off, ao = some ⟨b, off, none⟩ ∧ w.cell? ⟨b, off + k, none⟩ = some (.int .u8 xs[k]) := by
  obtain ⟨b, off, e, hc, -, -⟩ := h.at hk
  refine ⟨b, off, e, ?_⟩
  rw [hc]
  simp [List.getD, List.getElem?_eq_getElem hk]

theorem octs_drawn {w : World} {ao : Option Addr} {cap : Nat} {xs : List Int} (h : Octs w ao cap xs) (j : Nat) : Octs (w.drewN j) ao cap xs := h

end Go.Proofs.Ytfaejcdbjcklpaa
