/- A stub: this seat has no function 'alive'. -/
import Derived.Test.YtomajifklajilaaHl9
namespace Go.Proofs.Ytomajifklajilaa
end Go.Proofs.Ytomajifklajilaa
