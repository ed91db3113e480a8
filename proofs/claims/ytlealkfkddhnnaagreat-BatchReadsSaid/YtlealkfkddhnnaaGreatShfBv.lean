/- As the seat's text, without what nothing here names. -/
import Derived.Test.YtlealkfkddhnnaaGreatK18v
import Derived.Test.YtlealkfkddhnnaaGreatShfMv
namespace Go.Proofs.YtlealkfkddhnnaaGreat.Cur
open Go.RowKit Mem
set_option linter.unusedVariables false
end Go.Proofs.YtlealkfkddhnnaaGreat.Cur
