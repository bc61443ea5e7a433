/- times, bad. -/
import Derived.Test.YtaaeaaahllicbaaCodR
namespace Go.Proofs.Ytaaeaaahllicbaa
open Go.RowKit Go.Maps

end Go.Proofs.Ytaaeaaahllicbaa
