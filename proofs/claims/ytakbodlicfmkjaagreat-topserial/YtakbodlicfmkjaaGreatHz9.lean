/- How great parts are together; how many versions a shard has: contracts of size and Size; Beyond of three. Conditions as each names them. -/
import Derived.Test.YtakbodlicfmkjaaGreatHf9
import Derived.Test.YtakbodlicfmkjaaGreatHc9
namespace Go.Proofs.YtakbodlicfmkjaaGreat.O
open Go.ChangeShapes Go.WideShapes Go.ChangeAt Go.RowKit Go.Lib Go.Maps
set_option linter.unusedVariables false
set_option linter.unusedSimpArgs false
