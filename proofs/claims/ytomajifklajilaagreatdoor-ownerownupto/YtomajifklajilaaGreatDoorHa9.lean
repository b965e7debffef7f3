/- A stub: this seat has no function 'alive'. -/
import Derived.Test.YtomajifklajilaaGreatDoorHl9
namespace Go.Proofs.YtomajifklajilaaGreatDoor
end Go.Proofs.YtomajifklajilaaGreatDoor
