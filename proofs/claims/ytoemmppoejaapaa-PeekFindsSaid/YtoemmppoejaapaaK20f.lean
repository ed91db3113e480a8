/- As the seat's text, without what nothing here names. -/
import Derived.Test.YtoemmppoejaapaaK5f
import Derived.IntWalk
namespace Go.Proofs.Ytoemmppoejaapaa.Cur
open Go.RowKit Mem
set_option linter.unusedVariables false
def epk (x : Int) : Bool := decide (1 ≤ x ∧ x ≤ 4611686018427387903)
def psk (x : Int) : Bool := decide (x ≤ 4611686018427387903)
theorem epk_yes {x : Int} (h0 : 1 ≤ x) (h1 : x ≤ 4611686018427387903) : epk x = true := decide_eq_true ⟨h0, h1⟩
theorem epk_low {x : Int} (h0 : ¬ 1 ≤ x) : epk x = false := decide_eq_false fun h => h0 h.1
theorem epk_high {x : Int} (h0 : ¬ x ≤ 4611686018427387903) : epk x = false := decide_eq_false fun h => h0 h.2
theorem eright_any (x : Int) (w : World) : Calls Try.prog 51 #[.int .u64 x] w fun e w' => e = .returned (.bool (epk x)) ∧ w = w' := by
  by_cases h0 : 1 ≤ x
  · by_cases h1 : x ≤ 4611686018427387903
    · have hv := epk_yes h0 h1
      generalize epk x = v at hv
      go_enter Try.func51, Try.ntmps51
      go_wp2
      go_ret
      first | exact ⟨rfl, rfl⟩ | exact ⟨by rw [hv]; rfl, rfl⟩
    · have hv := epk_high h1
      generalize epk x = v at hv
      go_enter Try.func51, Try.ntmps51
      go_wp2
      go_ret
      first | exact ⟨rfl, rfl⟩ | exact ⟨by rw [hv]; rfl, rfl⟩
  · have hv := epk_low h0
    generalize epk x = v at hv
    go_enter Try.func51, Try.ntmps51
    go_wp2
    go_ret
    first | exact ⟨rfl, rfl⟩ | exact ⟨by rw [hv]; rfl, rfl⟩
theorem epos_any (x : Int) (w : World) : Calls Try.prog 74 #[.int .u64 x] w fun e w' => e = .returned (.bool (psk x)) ∧ w = w' := by
  have hv : psk x = decide (x < 4611686018427387904) := by unfold psk; congr 1; exact propext ⟨fun h => by omega, fun h => by omega⟩
  generalize psk x = v at hv
  go_enter Try.func74, Try.ntmps74
  go_wp2
  go_ret
  first | exact ⟨rfl, rfl⟩ | exact ⟨by rw [hv]; rfl, rfl⟩
end Go.Proofs.Ytoemmppoejaapaa.Cur
namespace Go.Proofs.Ytoemmppoejaapaa.Cur
open Go.RowKit Mem
set_option linter.unusedVariables false
end Go.Proofs.Ytoemmppoejaapaa.Cur
namespace Go.Proofs.Ytoemmppoejaapaa.Cur
open Go.RowKit Mem
set_option linter.unusedVariables false
end Go.Proofs.Ytoemmppoejaapaa.Cur
