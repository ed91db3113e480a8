/- As the seat's text, without what nothing here names. -/
import Derived.Test.YtoemmppoejaapaaPekOt
namespace Go.Proofs.Ytoemmppoejaapaa.Cur
open Go.RowKit Mem
set_option linter.unusedVariables false
set_option maxRecDepth 100000
end Go.Proofs.Ytoemmppoejaapaa.Cur
