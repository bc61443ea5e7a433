/- The program's functions of the seat of FoldKinds and FoldTexts. -/
import Derived.Test.YtljjaepadnmmeaaDoorFldE
import Derived.Test.YtljjaepadnmmeaaDoorFlpC
import Derived.Test.YtljjaepadnmmeaaDoorFlpD
import Derived.Test.YtljjaepadnmmeaaDoorFlpF
import Derived.Test.YtljjaepadnmmeaaDoorFlpG
