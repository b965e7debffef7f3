/- A slice of bytes that came in, and the statements' own test of sizes. Conditions as each lemma names them. -/
import Derived.Test.YtgdffhmbhknfcaaDoorMem
import Derived.ShutString
import Derived.ChangeOld
import Derived.Below
namespace Go.Proofs.YtgdffhmbhknfcaaDoor
open Go.ChangeShapes Go.WideShapes Go.ChangeAt Go.RowKit Go.Lib
