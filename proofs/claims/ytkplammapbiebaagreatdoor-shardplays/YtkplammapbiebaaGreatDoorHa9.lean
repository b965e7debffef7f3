/- A stub: this seat has no function 'alive'. -/
import Derived.Test.YtkplammapbiebaaGreatDoorHl9
namespace Go.Proofs.YtkplammapbiebaaGreatDoor
end Go.Proofs.YtkplammapbiebaaGreatDoor
