/- As the seat's text, without what nothing here names. -/
import Derived.Test.YtgdcbfekekefiaaBtcAj
import Derived.Test.YtgdcbfekekefiaaK36j
import Derived.Deep.Slices
namespace Go.Proofs.Ytgdcbfekekefiaa.Cur
open Go.RowKit Mem
set_option linter.unusedVariables false
set_option maxRecDepth 100000
theorem slice_ens {w : World} {P : Nat → Prop} {A : Option Addr} {n : Nat} {L : List En} (hz : Ens w P A n L) (m l h : Nat) (h1 : l ≤ h) (h2 : h ≤ n) (hm : n ≤ m) (hA : A = none → m = 0) :
    ∃ A' M, (∀ w', (Instr.slice 23 (.slice A n m) (some (.int .u64 (l : Int))) (some (.int .u64 (h : Int))) none).run Try.prog w' = .ok (.slice A' (h - l) M) w') ∧ Ens w P A' (h - l) ((L.drop l).take (h - l)) ∧ h - l ≤ M ∧ (A' = none → M = 0) := by
  have hs : ∀ w', (sizeOf 31).run Try.prog w' = .ok 2 w' := fun w' => by kernel_rfl
  have he : Try.prog.elem 23 = 31 := by kernel_rfl
  refine ⟨if m = l then A else A.map (·.add (l * 2)), m - l, fun w' => ?_, ⟨by rw [List.length_take, List.length_drop, hz.1]; omega, ?_⟩, by omega, fun h => ?_⟩
  · have := run_slice_lh (P := Try.prog) (w := w') 23 A n m (by rw [he]; exact Try.underlying23) .u64 .u64 (l : Int) (h : Int) (by omega) (by omega) (by omega)
    rw [this, he, hs]
    simp [Result.andThen, sliced]
    try omega
  · by_cases hl : l = n
    · rw [show h - l = 0 by omega, List.take_zero]
      exact Sq.nil _ _ _ _
    · obtain ⟨g, o, rfl, _⟩ := hz.cells (by omega)
      rw [if_neg (by omega)]
      have := (hz.2.dropq l (by rw [hz.1]; omega)).take (h - l)
      have e : (⟨g, o, none⟩ : Addr).add (l * 2) = ⟨g, o + l * 2, none⟩ := by unfold Addr.add; simp; try omega
      show Sq EnE w P (some ((⟨g, o, none⟩ : Addr).add (l * 2))) _
      rw [e]
      exact this
  · split at h
    · rw [hA h]; omega
    · have : A = none := by simpa using h
      rw [hA this]; omega
end Go.Proofs.Ytgdcbfekekefiaa.Cur
