/- The document's Write to entries: its walk. Conditions as it names them. -/
import Derived.Test.YtfminnmfdogopabWrt7
namespace Go.Proofs.Ytfminnmfdogopab
open Go.ChangeShapes Go.WideShapes Go.ChangeAt Go.RowKit Go.Lib Go.Maps Go.Sort
set_option linter.unusedVariables false
set_option linter.unusedSimpArgs false
