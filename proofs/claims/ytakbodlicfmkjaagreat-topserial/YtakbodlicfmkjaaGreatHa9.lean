/- A stub: this seat has no function 'alive'. -/
import Derived.Test.YtakbodlicfmkjaaGreatHl9
namespace Go.Proofs.YtakbodlicfmkjaaGreat.O
end Go.Proofs.YtakbodlicfmkjaaGreat.O
