/- As the seat's text, without what nothing here names. -/
import Derived.Test.YtgdcbfekekefiaaK5j
import Derived.Deep.LoopGhost
import Derived.Test.YtgdcbfekekefiaaK3j
import Derived.Deep.Cut
namespace Go.Proofs.Ytgdcbfekekefiaa.Cur
open Go.RowKit Mem
set_option linter.unusedVariables false
end Go.Proofs.Ytgdcbfekekefiaa.Cur
namespace Go.Proofs.Ytgdcbfekekefiaa.Cur
open Go.RowKit Mem
set_option linter.unusedVariables false
end Go.Proofs.Ytgdcbfekekefiaa.Cur
namespace Go.Proofs.Ytgdcbfekekefiaa.Cur
open Go.RowKit Mem
set_option linter.unusedVariables false
end Go.Proofs.Ytgdcbfekekefiaa.Cur
namespace Go.Proofs.Ytgdcbfekekefiaa.Cur
open Go.RowKit Mem
set_option linter.unusedVariables false
end Go.Proofs.Ytgdcbfekekefiaa.Cur
namespace Go.Proofs.Ytgdcbfekekefiaa.Cur
open Go.RowKit Mem
set_option linter.unusedVariables false
end Go.Proofs.Ytgdcbfekekefiaa.Cur
namespace Go.Proofs.Ytgdcbfekekefiaa.Cur
open Go.RowKit Mem
set_option linter.unusedVariables false
end Go.Proofs.Ytgdcbfekekefiaa.Cur
