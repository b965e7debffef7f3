/- A stub: the numbers beyond are not asked for here. -/
import Derived.Test.YtaaghcimfcjehaaGreatDoorGi12
import Derived.Test.YtaaghcimfcjehaaGreatDoorIr12
