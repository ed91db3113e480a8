/- As the seat's text, without what nothing here names. -/
import Derived.Test.YtoemmppoejaapaaPekAt
import Derived.Test.YtoemmppoejaapaaPekBt
import Derived.Test.YtoemmppoejaapaaBtcBt
import Derived.Test.YtoemmppoejaapaaBtcJt
namespace Go.Proofs.Ytoemmppoejaapaa.Cur
open Go.RowKit Mem
set_option linter.unusedVariables false
set_option maxRecDepth 100000
end Go.Proofs.Ytoemmppoejaapaa.Cur
