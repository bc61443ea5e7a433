/- The reader's calls: Text. -/
import Derived.Test.YtdoliejihinpkaaCodH
namespace Go.Proofs.Ytdoliejihinpkaa
open Go.RowKit Go.Maps

end Go.Proofs.Ytdoliejihinpkaa
