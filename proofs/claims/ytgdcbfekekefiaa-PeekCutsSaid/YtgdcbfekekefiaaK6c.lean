/- As the seat's text, without what nothing here names. -/
import Derived.Test.YtgdcbfekekefiaaK5c
import Derived.Deep.LoopGhost
import Derived.Test.YtgdcbfekekefiaaK3c
import Derived.Deep.Cut
namespace Go.Proofs.Ytgdcbfekekefiaa.Cur
open Go.RowKit Mem
set_option linter.unusedVariables false
end Go.Proofs.Ytgdcbfekekefiaa.Cur
namespace Go.Proofs.Ytgdcbfekekefiaa.Cur
open Go.RowKit Mem
set_option linter.unusedVariables false
def litems (l : List Int) : List (List Int) := vz l.length :: l.map vz
def lz (l : List Int) : List Int := (litems l).flatten
end Go.Proofs.Ytgdcbfekekefiaa.Cur
namespace Go.Proofs.Ytgdcbfekekefiaa.Cur
open Go.RowKit Mem
set_option linter.unusedVariables false
end Go.Proofs.Ytgdcbfekekefiaa.Cur
namespace Go.Proofs.Ytgdcbfekekefiaa.Cur
open Go.RowKit Mem
set_option linter.unusedVariables false
end Go.Proofs.Ytgdcbfekekefiaa.Cur
namespace Go.Proofs.Ytgdcbfekekefiaa.Cur
open Go.RowKit Mem
set_option linter.unusedVariables false
end Go.Proofs.Ytgdcbfekekefiaa.Cur
namespace Go.Proofs.Ytgdcbfekekefiaa.Cur
open Go.RowKit Mem
set_option linter.unusedVariables false
end Go.Proofs.Ytgdcbfekekefiaa.Cur
