/- A stub: this seat has no function 'filled'. -/
import Derived.Test.YtomajifklajilaaHi9
namespace Go.Proofs.Ytomajifklajilaa
end Go.Proofs.Ytomajifklajilaa
