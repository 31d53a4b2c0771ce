/- A world that fits a row which lists a table pinned by name: the door's, with the table laid. -/
import Derived.Test.YtojfcafdegbkjaaDoorRows
import Derived.LaidMore
import GoSem.PinnedTables
namespace Go.Proofs.YtojfcafdegbkjaaDoor

noncomputable def pinLaid (n : Nat) (os : Os) : World :=
  { World.doorLaid Tryd.prog n os with heap := (World.doorLaid Tryd.prog n os).heap.modify 0 fun
    | .cells _ t fr => .cells (Go.Pinned.utf8FirstZ.map fun z : Nat => Value.int .u8 (z : Int)).toArray t fr
    | o => o }

end Go.Proofs.YtojfcafdegbkjaaDoor
