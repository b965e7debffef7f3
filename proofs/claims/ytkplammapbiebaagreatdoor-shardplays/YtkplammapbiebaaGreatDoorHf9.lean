/- A stub: this seat has no function 'filled'. -/
import Derived.Test.YtkplammapbiebaaGreatDoorHi9
namespace Go.Proofs.YtkplammapbiebaaGreatDoor
end Go.Proofs.YtkplammapbiebaaGreatDoor
