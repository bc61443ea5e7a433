/- What the program's four functions do, together. -/
import Derived.Test.YtaaeaaahllicbaaFrPD
import Derived.Test.YtaaeaaahllicbaaFrPG
