/- As the seat's text, without what nothing here names. -/
import Derived.Test.YtoemmppoejaapaaPekRt
import Derived.Test.YtoemmppoejaapaaPekCt
namespace Go.Proofs.Ytoemmppoejaapaa.Cur
open Go.RowKit Mem
set_option linter.unusedVariables false
set_option maxRecDepth 100000
theorem cgo_iff {T : TL} {x : Lk} : cgo T x = true ↔ T x.1 = none ∨ T x.1 = some x.2 := by
  unfold cgo
  rcases T x.1 with _ | z
  · simp
  · simp only [decide_eq_true_eq, reduceCtorEq, Option.some.injEq, false_or]
    exact eq_comm
end Go.Proofs.Ytoemmppoejaapaa.Cur
