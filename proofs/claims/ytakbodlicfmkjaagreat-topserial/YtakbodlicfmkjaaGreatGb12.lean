/- A stub: the numbers beyond are not asked for here. -/
import Derived.Test.YtakbodlicfmkjaaGreatGi12
import Derived.Test.YtakbodlicfmkjaaGreatIr12
