/- As the seat's text, without what nothing here names. -/
import Derived.Test.YtoemmppoejaapaaBtcAt
import Derived.Test.YtoemmppoejaapaaK39t
namespace Go.Proofs.Ytoemmppoejaapaa.Cur
open Go.RowKit Mem
set_option linter.unusedVariables false
set_option maxRecDepth 100000
theorem u64_over {x : Int} (h : 18446744073709551616 ≤ x) (h2 : x < 36893488147419103232) : IntKind.u64.wrap x = x - 18446744073709551616 := by
  show x % 18446744073709551616 = _
  omega
theorem set2k {w : World} {b : Nat} {v0 v1 : Value} {t : Nat} (h : Blk w b #[v0, v1] t) (u0 u1 : Value) : Blk ((w.setCell ⟨b, 0, none⟩ u0).setCell ⟨b, 1, none⟩ u1) b #[u0, u1] t ∧ Kp b w ((w.setCell ⟨b, 0, none⟩ u0).setCell ⟨b, 1, none⟩ u1) :=
  ⟨(h.set 0 u0).set 1 u1, (Kp.setCell _ _ _ _).trans (Kp.setCell _ _ _ _)⟩
end Go.Proofs.Ytoemmppoejaapaa.Cur
