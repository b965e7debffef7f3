/- A stub: what the Book's texts name Vm lies in Vm17. -/
import Derived.Test.YtpdkdgmaofhlkaaGreatDoorVm17
