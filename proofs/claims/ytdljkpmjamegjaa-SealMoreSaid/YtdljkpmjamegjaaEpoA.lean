/- Epochs, positions and tails: which numbers are some. By the program and by the document. -/
import Derived.Test.YtdljkpmjamegjaaK5
namespace Go.Proofs.Ytdljkpmjamegjaa.Cur
open Go.RowKit Mem
set_option linter.unusedVariables false

/-- Is a number an epoch, a position, a tail? -/
def epk (x : Int) : Bool := decide (1 ≤ x ∧ x ≤ 4611686018427387903)
def psk (x : Int) : Bool := decide (x ≤ 4611686018427387903)
def tlk (x : Int) : Bool := decide (x ≤ 4611686018427387904)
theorem epk_yes {x : Int} (h0 : 1 ≤ x) (h1 : x ≤ 4611686018427387903) : epk x = true := decide_eq_true ⟨h0, h1⟩
theorem epk_low {x : Int} (h0 : ¬ 1 ≤ x) : epk x = false := decide_eq_false fun h => h0 h.1
theorem epk_high {x : Int} (h0 : ¬ x ≤ 4611686018427387903) : epk x = false := decide_eq_false fun h => h0 h.2
theorem epk_bd {x : Int} (h : epk x = true) : 1 ≤ x ∧ x ≤ 4611686018427387903 := of_decide_eq_true h

theorem eright_any (x : Int) (w : World) : Calls Try.prog 30 #[.int .u64 x] w fun e w' => e = .returned (.bool (epk x)) ∧ w = w' := by
  by_cases h0 : 1 ≤ x
  · by_cases h1 : x ≤ 4611686018427387903
    · have hv := epk_yes h0 h1
      generalize epk x = v at hv
      go_enter Try.func30, Try.ntmps30
      go_wp2
      go_ret
      first | exact ⟨rfl, rfl⟩ | exact ⟨by rw [hv]; rfl, rfl⟩
    · have hv := epk_high h1
      generalize epk x = v at hv
      go_enter Try.func30, Try.ntmps30
      go_wp2
      go_ret
      first | exact ⟨rfl, rfl⟩ | exact ⟨by rw [hv]; rfl, rfl⟩
  · have hv := epk_low h0
    generalize epk x = v at hv
    go_enter Try.func30, Try.ntmps30
    go_wp2
    go_ret
    first | exact ⟨rfl, rfl⟩ | exact ⟨by rw [hv]; rfl, rfl⟩

theorem rright17_any (x : Int) (h : 0 ≤ x) (w : World) : Calls Try.prog 31 #[.int .u64 x] w fun e w' => e = .returned (.bool (epk x)) ∧ w = w' := by
  by_cases h0 : 0 < x
  · by_cases h1 : x ≤ 4611686018427387903
    · have hv := epk_yes h0 h1
      generalize epk x = v at hv
      go_enter Try.func31, Try.ntmps31
      go_wp2
      go_ret
      first | exact ⟨rfl, rfl⟩ | exact ⟨by rw [hv]; rfl, rfl⟩
    · have hv := epk_high h1
      generalize epk x = v at hv
      go_enter Try.func31, Try.ntmps31
      go_wp2
      go_ret
      first | exact ⟨rfl, rfl⟩ | exact ⟨by rw [hv]; rfl, rfl⟩
  · have hv := epk_low (x := x) (by omega)
    generalize epk x = v at hv
    go_enter Try.func31, Try.ntmps31
    go_wp2
    go_ret
    first | exact ⟨rfl, rfl⟩ | exact ⟨by rw [hv]; rfl, rfl⟩

theorem rpos17_any (x : Int) (w : World) : Calls Try.prog 51 #[.int .u64 x] w fun e w' => e = .returned (.bool (psk x)) ∧ w = w' := by
  have hv : psk x = decide (x ≤ 4611686018427387903) := rfl
  generalize psk x = v at hv
  go_enter Try.func51, Try.ntmps51
  go_wp2
  go_ret
  first | exact ⟨rfl, rfl⟩ | exact ⟨by rw [hv]; rfl, rfl⟩

theorem etail_any (x : Int) (w : World) : Calls Try.prog 55 #[.int .u64 x] w fun e w' => e = .returned (.bool (tlk x)) ∧ w = w' := by
  have hv : tlk x = decide (x ≤ 4611686018427387904) := rfl
  generalize tlk x = v at hv
  go_enter Try.func55, Try.ntmps55
  go_wp2
  go_ret
  first | exact ⟨rfl, rfl⟩ | exact ⟨by rw [hv]; rfl, rfl⟩

/-- What a node in its own epoch answers. -/
def adm (own : Int) (sealed : Bool) (e : Int) : Int :=
  if epk own = false ∨ epk e = false then 3 else if e = own ∧ sealed = false then 0 else if own < e then 13 else 18


end Go.Proofs.Ytdljkpmjamegjaa.Cur
