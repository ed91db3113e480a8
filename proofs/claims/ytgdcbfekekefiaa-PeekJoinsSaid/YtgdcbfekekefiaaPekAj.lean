/- As the seat's text, without what nothing here names. -/
import Derived.Test.YtgdcbfekekefiaaBtcAj
import Derived.Test.YtgdcbfekekefiaaK39j
namespace Go.Proofs.Ytgdcbfekekefiaa.Cur
open Go.RowKit Mem
set_option linter.unusedVariables false
set_option maxRecDepth 100000
theorem u64_over {x : Int} (h : 18446744073709551616 ≤ x) (h2 : x < 36893488147419103232) : IntKind.u64.wrap x = x - 18446744073709551616 := by
  show x % 18446744073709551616 = _
  omega
end Go.Proofs.Ytgdcbfekekefiaa.Cur
