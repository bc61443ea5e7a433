/- known; FoldLower: the walks. -/
import Derived.Test.YtljjaepadnmmeaaDoorFldQ
import Derived.Test.YtljjaepadnmmeaaDoorFlpH
import Derived.Laws.Concat
namespace Go.Proofs.YtljjaepadnmmeaaDoor
open Go.RowKit Go.Maps Fld

def NumPost (w : World) (a b : Int) (e : Ending) (w' : World) : Prop := e = .returned (.tuple #[.int .i32 a, .int .i64 b]) ∧ BW w w'
def TxtPost (w : World) (s : ByteArray) (e : Ending) (w' : World) : Prop := e = .returned (.string s) ∧ BW w w'
def TxtErr (w : World) (s : ByteArray) (er : Int) (e : Ending) (w' : World) : Prop := e = .returned (.tuple #[.string s, .int .i64 er]) ∧ BW w w'
theorem text_of (s : ByteArray) : textV s.data.toList = .string s := by cases s; rfl
end Go.Proofs.YtljjaepadnmmeaaDoor
