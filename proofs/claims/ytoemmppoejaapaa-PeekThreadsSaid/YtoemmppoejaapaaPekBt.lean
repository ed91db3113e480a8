/- As the seat's text, without what nothing here names. -/
import Derived.Test.YtoemmppoejaapaaBtcAt
import Derived.Test.YtoemmppoejaapaaK36t
import Derived.Deep.Slices
namespace Go.Proofs.Ytoemmppoejaapaa.Cur
open Go.RowKit Mem
set_option linter.unusedVariables false
set_option maxRecDepth 100000
end Go.Proofs.Ytoemmppoejaapaa.Cur
