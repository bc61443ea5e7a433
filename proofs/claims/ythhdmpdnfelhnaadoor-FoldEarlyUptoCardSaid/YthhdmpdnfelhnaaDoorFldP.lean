/- The program's functions of the seat of FoldKinds and FoldTexts. -/
import Derived.Test.YthhdmpdnfelhnaaDoorFldE
import Derived.Test.YthhdmpdnfelhnaaDoorFlpC
import Derived.Test.YthhdmpdnfelhnaaDoorFlpD
import Derived.Test.YthhdmpdnfelhnaaDoorFlpF
import Derived.Test.YthhdmpdnfelhnaaDoorFlpG
