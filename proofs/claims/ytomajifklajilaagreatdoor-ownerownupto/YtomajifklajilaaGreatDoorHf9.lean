/- A stub: this seat has no function 'filled'. -/
import Derived.Test.YtomajifklajilaaGreatDoorHi9
namespace Go.Proofs.YtomajifklajilaaGreatDoor
end Go.Proofs.YtomajifklajilaaGreatDoor
