/- Contracts and lemmas. -/
import Derived.Test.YtaigdcmoecgabaaGreatGp6
import Derived.Laws.Cover1
import Derived.Maps.OwnSet
set_option linter.unusedSimpArgs false
set_option linter.unusedVariables false
namespace Go.Proofs.YtaigdcmoecgabaaGreat.Fo
open Go.ChangeShapes Go.WideShapes Go.ChangeAt Go.RowKit Go.Lib Go.Maps
end Go.Proofs.YtaigdcmoecgabaaGreat.Fo
