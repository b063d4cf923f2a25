/- The model's moves: l04Milk, l04Duck. -/
import Derived.Test.YtpbpgpccjabghaaSv2
set_option linter.unusedVariables false
set_option maxRecDepth 20000
namespace Go.Proofs.Ytpbpgpccjabghaa.Sv3
open Go.RowKit Fr Own Pk Ins Pfn Rws Lb Cat Mvp Mv1 Mv2 Mv3 Mv4 Sv Sv2

end Go.Proofs.Ytpbpgpccjabghaa.Sv3
