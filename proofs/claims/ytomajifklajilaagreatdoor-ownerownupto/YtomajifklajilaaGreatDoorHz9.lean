/- How great parts are together; how many versions a shard has: contracts of size and Size; Beyond of three. Conditions as each names them. -/
import Derived.Test.YtomajifklajilaaGreatDoorHf9
import Derived.Test.YtomajifklajilaaGreatDoorHc9
namespace Go.Proofs.YtomajifklajilaaGreatDoor
open Go.ChangeShapes Go.WideShapes Go.ChangeAt Go.RowKit Go.Lib Go.Maps
set_option linter.unusedVariables false
set_option linter.unusedSimpArgs false
