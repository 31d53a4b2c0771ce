/- What the reference's SumOf comes to at every slice of bytes. -/
import Derived.Test.YtjjencnnmpefbaaDoorMoreRef
namespace Go.Proofs.YtjjencnnmpefbaaDoor
open Go.ChangeShapes Go.WideShapes Go.ChangeAt Go.RowKit

theorem SumOf_any (ao : Option Addr) (cap : Nat) (xs : List Int) (h4 : xs.length ≤ 4096) (w : World) (he : Octs w ao cap xs) :
    Calls Tryd.prog 25 #[.slice ao xs.length cap] w fun e w' => e = .returned (.int .i64 (wd (sumOf 0#32 xs))) ∧ Below w.heap.size w w' := by
  have H : Calls Tryd.prog 29 #[.int .i64 0, .slice ao xs.length cap] w _ := SumMore_any 0#32 ao cap xs h4 w he
  generalize sumOf 0#32 xs = u at H ⊢
  go_enter Tryd.func25, Tryd.ntmps25
  go_wp2_with (go_at_call 29; refine H.mono ?_; rintro e w1 ⟨rfl, bb⟩)
  go_ret
  exact ⟨rfl, bb⟩

end Go.Proofs.YtjjencnnmpefbaaDoor
