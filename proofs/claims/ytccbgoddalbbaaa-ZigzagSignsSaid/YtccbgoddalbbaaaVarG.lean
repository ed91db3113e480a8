/- The document's Most and Int. -/
import Derived.Test.YtccbgoddalbbaaaVarF
namespace Go.Proofs.Ytccbgoddalbbaaa.Cur
open Go.RowKit Mem
set_option linter.unusedVariables false

def RMostPost (s : Value) (n : Nat) (z : List Int) (p c q mo : Int) (w : World) (e : Ending) (w' : World) : Prop :=
  ∃ v p' c' q', e = .returned (.tuple #[cv s p' c' q', .int .u64 v]) ∧ Below w.heap.size w w' ∧ MostSt n z p c q mo v p' c' q'

def RIntPost (s : Value) (n : Nat) (z : List Int) (p c q mo : Int) (w : World) (e : Ending) (w' : World) : Prop :=
  ∃ v p' c' q', e = .returned (.tuple #[cv s p' c' q', .int .i64 v]) ∧ Below w.heap.size w w' ∧ IntSt n z p c q mo v p' c' q'

end Go.Proofs.Ytccbgoddalbbaaa.Cur
