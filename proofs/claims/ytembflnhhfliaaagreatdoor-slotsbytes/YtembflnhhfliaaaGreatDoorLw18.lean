/- The walk of the law DumpEncodes. Conditions: its argument lies as it came in; the library's table of powers lies as the program lays it. -/
import Derived.Test.YtembflnhhfliaaaGreatDoorTe18
namespace Go.Proofs.YtembflnhhfliaaaGreatDoor
open BigFrame Go.ChangeShapes Go.WideShapes Go.ChangeAt Go.RowKit Go.Lib Go.Maps
set_option linter.unusedVariables false
set_option linter.unusedSimpArgs false
