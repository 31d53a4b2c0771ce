/- Which texts are names. No model here. -/
import Derived.Test.YtojfcafdegbkjaaDoorLexJoinPlain
import Derived.Test.YtojfcafdegbkjaaDoorParsePlain
namespace Go.Proofs.YtojfcafdegbkjaaDoor

/-- a word that is not kept -/
def nameIs (u : List UInt8) : Bool := may ⟨1, 0, u⟩ && !kept u

end Go.Proofs.YtojfcafdegbkjaaDoor
