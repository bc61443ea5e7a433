/- times, bad. -/
import Derived.Test.YtdoliejihinpkaaCodR
namespace Go.Proofs.Ytdoliejihinpkaa
open Go.RowKit Go.Maps

end Go.Proofs.Ytdoliejihinpkaa
