/- The document's reader of a rising list; PutRising. -/
import Derived.Test.YtkedmhopajpkhaaZigF
namespace Go.Proofs.Ytkedmhopajpkhaa.Cur
open Go.RowKit Mem
set_option linter.unusedVariables false

def RRRgPost (s : Value) (n : Nat) (z : List Int) (p c q : Int) (N : Nat) (w : World) (e : Ending) (w' : World) : Prop :=
  ∃ v l p' c' q', e = .returned (.tuple #[cv s p' c' q', v]) ∧ OwnU w' w.heap.size v l ∧ Below w.heap.size w w' ∧ RgSt n z p c q N l p' c' q' ∧ ∀ x ∈ l, 0 ≤ x ∧ x < 18446744073709551616

def PRPost (B b : Nat) (r : Option Nat) (y : List Int) (M : Int) (w : World) (e : Ending) (w' : World) : Prop :=
  ∃ r', e = .returned (.tuple #[]) ∧ Ks (WS b r) w w' ∧ Gr r r' w ∧ Wr w' B b r' y M 0
theorem putZ_fits {z y : List Int} {M : Int} (h : (z.length : Int) + y.length ≤ M) : putZ z y M 0 = z ++ y ∧ putC z y M 0 = 0 := by
  unfold putZ putC fitsC
  rw [if_pos ⟨rfl, by omega⟩, if_neg (by omega)]
  exact ⟨rfl, rfl⟩
theorem rzk_mono (z : List Int) {i j : Nat} (h : i ≤ j) : (rzk z i).length ≤ (rzk z j).length := by
  induction j with
  | zero => obtain rfl : i = 0 := by omega
            exact Nat.le_refl _
  | succ j ih =>
    rcases Nat.lt_or_ge j i with h' | h'
    · obtain rfl : i = j + 1 := by omega
      exact Nat.le_refl _
    · have := ih h'; rw [rzk_succ_len]; omega

end Go.Proofs.Ytkedmhopajpkhaa.Cur
