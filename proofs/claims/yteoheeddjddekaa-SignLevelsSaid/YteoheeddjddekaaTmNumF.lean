/- The contract of term.numbers: the free numbers. -/
import Derived.Test.YteoheeddjddekaaTmVisF
import Derived.Test.YteoheeddjddekaaTmKeys
import Derived.Test.YteoheeddjddekaaTmGb
namespace Go.Proofs.Yteoheeddjddekaa.VF
open Go.RowKit Go.Maps
set_option linter.unusedSimpArgs false
set_option linter.unusedVariables false

/-- what term.numbers returns: numbers, and an error -/
def numsOut (x : Int) (t : Tm) : List Int × Int := if Tm.proper t then (Tm.insL [] (Tm.hds (sel x) 0 t), 0) else ([], 2)



end Go.Proofs.Yteoheeddjddekaa.VF
