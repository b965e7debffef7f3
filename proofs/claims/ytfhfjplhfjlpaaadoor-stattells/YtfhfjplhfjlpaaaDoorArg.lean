/- A slice of bytes that came in, and the statements' own test of sizes. Conditions as each lemma names them. -/
import Derived.Test.YtfhfjplhfjlpaaaDoorMem
import Derived.ShutString
import Derived.ChangeOld
import Derived.Below
namespace Go.Proofs.YtfhfjplhfjlpaaaDoor
open Go.ChangeShapes Go.WideShapes Go.ChangeAt Go.RowKit Go.Lib
