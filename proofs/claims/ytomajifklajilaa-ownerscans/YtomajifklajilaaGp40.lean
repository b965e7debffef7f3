/- Texts of this claim laid together, one behind the other: contracts and plain lemmas; conditions as each names them. -/
import Derived.Test.YtomajifklajilaaGp22
/- A stub: this seat has no function 'alive'. -/
namespace Go.Proofs.Ytomajifklajilaa
end Go.Proofs.Ytomajifklajilaa
