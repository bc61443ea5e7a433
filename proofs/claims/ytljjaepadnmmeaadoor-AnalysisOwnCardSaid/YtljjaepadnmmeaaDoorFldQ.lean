/- FoldKinds, FoldTexts, known, FoldLower: the walks. -/
import Derived.Test.YtljjaepadnmmeaaDoorFldP
namespace Go.Proofs.YtljjaepadnmmeaaDoor
open Go.RowKit Go.Maps Fld

def TruePost (w : World) (e : Ending) (w' : World) : Prop := e = .returned (.bool true) ∧ BW w w'
end Go.Proofs.YtljjaepadnmmeaaDoor
