/- Rising lists: a step, the size; the document's bytes; two lists of numbers are the same or not. -/
import Derived.Test.YtkedmhopajpkhaaZigB
import Derived.Test.YtkedmhopajpkhaaSeq
namespace Go.Proofs.Ytkedmhopajpkhaa.Cur
open Go.RowKit Mem
set_option linter.unusedVariables false


/-- The integer by which number k of a rising list is written. -/
def stp (z : List Int) (k : Nat) : Int := if k = 0 then z.getD 0 0 else z.getD k 0 - z.getD (k - 1) 0 - 1
def rzk (z : List Int) : Nat → List Int
  | 0 => []
  | k + 1 => rzk z k ++ vz (stp z k)
def rz (z : List Int) : List Int := rzk z z.length
theorem rzk_len (z : List Int) (k : Nat) : (rzk z k).length ≤ 10 * k := by
  induction k with
  | zero => simp [rzk]
  | succ k ih => rw [rzk, List.length_append, vz_length]; have := vsz_le (stp z k); omega
theorem rzk_succ_len (z : List Int) (k : Nat) : (rzk z (k + 1)).length = (rzk z k).length + vsz (stp z k) := by rw [rzk, List.length_append, vz_length]
theorem stp_bd {z : List Int} {n k : Nat} (hz : z.length = n) (hk : k < n) (hby : ∀ x ∈ z, 0 ≤ x ∧ x < 18446744073709551616) (hr : risesB z = true) : 0 ≤ stp z k ∧ stp z k < 18446744073709551616 := by
  have h1 := hby _ (getD_mem (z := z) (k := k) (by omega))
  unfold stp
  split
  · subst k; exact h1
  · have h2 := hby _ (getD_mem (z := z) (k := k - 1) (by omega))
    have h3 := (risesB_iff z).1 hr (k - 1) (by omega)
    rw [show k - 1 + 1 = k by omega] at h3
    omega

end Go.Proofs.Ytkedmhopajpkhaa.Cur
