/- A world that fits a row which lists a table pinned by name: the door's, with the table laid. -/
import Derived.Test.YtedinkoapieakaaDoorRows
import Derived.LaidMore
import GoSem.PinnedTables
namespace Go.Proofs.YtedinkoapieakaaDoor

noncomputable def pinLaid (n : Nat) (os : Os) : World :=
  { World.doorLaid Tryd.prog n os with heap := (World.doorLaid Tryd.prog n os).heap.modify 1 fun
    | .cells _ t fr => .cells (Go.Pinned.utf8FirstZ.map fun z : Nat => Value.int .u8 (z : Int)).toArray t fr
    | o => o }

end Go.Proofs.YtedinkoapieakaaDoor
