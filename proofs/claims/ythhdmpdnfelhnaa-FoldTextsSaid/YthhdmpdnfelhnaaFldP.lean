/- The program's functions of the seat of FoldKinds and FoldTexts. -/
import Derived.Test.YthhdmpdnfelhnaaFldE
import Derived.Test.YthhdmpdnfelhnaaFlpC
import Derived.Test.YthhdmpdnfelhnaaFlpD
import Derived.Test.YthhdmpdnfelhnaaFlpF
import Derived.Test.YthhdmpdnfelhnaaFlpG
