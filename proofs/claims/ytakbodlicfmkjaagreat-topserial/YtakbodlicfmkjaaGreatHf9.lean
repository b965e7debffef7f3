/- A stub: this seat has no function 'filled'. -/
import Derived.Test.YtakbodlicfmkjaaGreatHi9
namespace Go.Proofs.YtakbodlicfmkjaaGreat.O
end Go.Proofs.YtakbodlicfmkjaaGreat.O
