/- A stub: this seat has no function 'alive'. -/
import Derived.Test.YtomajifklajilaaGreatHl9
namespace Go.Proofs.YtomajifklajilaaGreat
end Go.Proofs.YtomajifklajilaaGreat
