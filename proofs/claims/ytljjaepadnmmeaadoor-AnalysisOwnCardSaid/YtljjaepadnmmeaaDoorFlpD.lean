/- The program's Put. -/
import Derived.Test.YtljjaepadnmmeaaDoorFlpB
import Derived.Test.YtljjaepadnmmeaaDoorFlpL
namespace Go.Proofs.YtljjaepadnmmeaaDoor
open Go.RowKit Go.Maps Fld
attribute [local go_sem] Oper.semAt_some

end Go.Proofs.YtljjaepadnmmeaaDoor
