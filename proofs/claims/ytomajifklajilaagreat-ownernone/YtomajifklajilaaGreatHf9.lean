/- A stub: this seat has no function 'filled'. -/
import Derived.Test.YtomajifklajilaaGreatHi9
namespace Go.Proofs.YtomajifklajilaaGreat
end Go.Proofs.YtomajifklajilaaGreat
