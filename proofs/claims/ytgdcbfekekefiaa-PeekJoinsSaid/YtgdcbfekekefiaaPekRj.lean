/- As the seat's text, without what nothing here names. -/
import Derived.Test.YtgdcbfekekefiaaPekQj
import Derived.Test.YtgdcbfekekefiaaK36j
import Derived.Test.YtgdcbfekekefiaaK35j
import Derived.Test.YtgdcbfekekefiaaK25j
import Derived.Test.YtgdcbfekekefiaaSeqFj
namespace Go.Proofs.Ytgdcbfekekefiaa.Cur
open Go.RowKit Mem
set_option linter.unusedVariables false
set_option maxRecDepth 100000
end Go.Proofs.Ytgdcbfekekefiaa.Cur
