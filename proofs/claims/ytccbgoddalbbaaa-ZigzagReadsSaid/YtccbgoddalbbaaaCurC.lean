/- The contracts of the reader's own functions (package cursor), third part: cut, Take, Byte, Since, Part. -/
import Derived.Test.YtccbgoddalbbaaaCurB
import Derived.Laws.CopyOwn
import Derived.Deep.RegionLaw
namespace Go.Proofs.Ytccbgoddalbbaaa.Cur
open Go.RowKit
set_option linter.unusedVariables false

/-- A new row of bytes at block g, which did not lie in w. -/
def CutPost (z : List Int) (f k : Nat) (w : World) (e : Ending) (w' : World) : Prop :=
  ∃ g, e = .returned (.slice (some ⟨g, 0, none⟩) (k - f) (k - f)) ∧ w.heap.size ≤ g ∧ Below w.heap.size w w' ∧ w'.heap[g]? = some (.cells ((piece z f k).map (Value.int .u8)).toArray 5 (0, 0))

end Go.Proofs.Ytccbgoddalbbaaa.Cur
