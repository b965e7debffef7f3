/- A reply handed to a task that is not there. No conditions. -/
import Derived.Test.YtpdkdgmaofhlkaaGreatDoorOv17
namespace Go.Proofs.YtpdkdgmaofhlkaaGreatDoor
open Go.ChangeShapes Go.WideShapes Go.ChangeAt Go.RowKit Go.Lib
set_option linter.unusedVariables false
set_option linter.unusedSimpArgs false
