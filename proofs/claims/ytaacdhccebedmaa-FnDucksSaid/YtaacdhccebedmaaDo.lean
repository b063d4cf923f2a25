/- The model's l04Do: one move of whatever kind. -/
import Derived.Test.YtaacdhccebedmaaSv3
import Derived.Test.YtaacdhccebedmaaPf
import Derived.Deep.RegionHeldLaw
import Derived.Maps.AppendAt
set_option linter.unusedVariables false
set_option maxRecDepth 20000
namespace Go.Proofs.Ytaacdhccebedmaa.Do
open Go.RowKit Fr Own Pk Ins Pfn Rws Lb Cat Mvp Mv1 Mv2 Mv3 Mv4 Mk Mok2 Pf Sv Sv2 Sv3

end Go.Proofs.Ytaacdhccebedmaa.Do
