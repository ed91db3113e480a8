/- Numbers with a sign (package zigzag): the plain mathematics; Zig and Zag, the program's and the document's. -/
import Derived.Test.YtkedmhopajpkhaaVarL
import Derived.Laws.BitsAllLaws
namespace Go.Proofs.Ytkedmhopajpkhaa.Cur
open Go.RowKit Mem
set_option linter.unusedVariables false

def zg (n : Int) : Int := if n < 0 then -2 * n - 1 else 2 * n
def zag (x : Int) : Int := if x % 2 = 1 then -(x / 2) - 1 else x / 2
theorem zg_bd (n : Int) (h0 : -9223372036854775808 ≤ n) (h1 : n ≤ 9223372036854775807) : 0 ≤ zg n ∧ zg n < 18446744073709551616 := by unfold zg; split <;> omega
theorem zag_bd (x : Int) (h0 : 0 ≤ x) (h1 : x < 18446744073709551616) : -9223372036854775808 ≤ zag x ∧ zag x ≤ 9223372036854775807 := by unfold zag; split <;> omega
theorem zag_zg (n : Int) : zag (zg n) = n := by unfold zag zg; split <;> split <;> omega
theorem zg_zag (x : Int) (h0 : 0 ≤ x) : zg (zag x) = x := by unfold zag zg; split <;> split <;> omega

theorem wrapu (x : Int) : IntKind.u64.wrap x = x % 18446744073709551616 := rfl
theorem wrapi (x : Int) : IntKind.i64.wrap x = if x % 18446744073709551616 ≥ 9223372036854775808 then x % 18446744073709551616 - 18446744073709551616 else x % 18446744073709551616 := by
  show (if (true && decide (x % 18446744073709551616 ≥ 9223372036854775808)) = true then _ else _) = _
  simp only [Bool.true_and, decide_eq_true_eq]
  rfl
theorem wrap64_mod (x : Int) : wrap64 x % 18446744073709551616 = x % 18446744073709551616 := by
  unfold wrap64; omega
theorem ofInt_mod (x : Int) : (BitVec.ofInt 64 x).toNat = (x % 18446744073709551616).toNat := by
  rw [BitVec.toNat_ofInt]; rfl
theorem xor_zero_u64 (a b : Int) (h0 : 0 ≤ a) (h1 : a < 18446744073709551616) (hb : b % 18446744073709551616 = 0) : bits .xor .u64 a b = a := by
  show IntKind.u64.wrap ((BitVec.ofInt 64 a ^^^ BitVec.ofInt 64 b).toNat : Int) = _
  have : BitVec.ofInt 64 b = 0#64 := by
    apply BitVec.eq_of_toNat_eq
    rw [ofInt_mod, hb]; rfl
  rw [this, BitVec.xor_zero, ofInt_mod, wrapu]
  omega
theorem xor_ones_u64 (a b : Int) (h0 : 0 ≤ a) (h1 : a < 18446744073709551616) (hb : b % 18446744073709551616 = 18446744073709551615) : bits .xor .u64 a b = 18446744073709551615 - a := by
  show IntKind.u64.wrap ((BitVec.ofInt 64 a ^^^ BitVec.ofInt 64 b).toNat : Int) = _
  have : BitVec.ofInt 64 b = BitVec.allOnes 64 := by
    apply BitVec.eq_of_toNat_eq
    rw [ofInt_mod, hb]; rfl
  rw [this, BitVec.xor_allOnes, BitVec.toNat_not, ofInt_mod, wrapu]
  omega
theorem xor_zero_i64 (a b : Int) (h0 : 0 ≤ a) (h1 : a < 9223372036854775808) (hb : b % 18446744073709551616 = 0) : bits .xor .i64 a b = a := by
  show IntKind.i64.wrap ((BitVec.ofInt 64 a ^^^ BitVec.ofInt 64 b).toNat : Int) = _
  have : BitVec.ofInt 64 b = 0#64 := by
    apply BitVec.eq_of_toNat_eq
    rw [ofInt_mod, hb]; rfl
  rw [this, BitVec.xor_zero, ofInt_mod, wrapi]
  split <;> omega
theorem xor_ones_i64 (a b : Int) (h0 : 0 ≤ a) (h1 : a < 9223372036854775808) (hb : b % 18446744073709551616 = 18446744073709551615) : bits .xor .i64 a b = -a - 1 := by
  show IntKind.i64.wrap ((BitVec.ofInt 64 a ^^^ BitVec.ofInt 64 b).toNat : Int) = _
  have : BitVec.ofInt 64 b = BitVec.allOnes 64 := by
    apply BitVec.eq_of_toNat_eq
    rw [ofInt_mod, hb]; rfl
  rw [this, BitVec.xor_allOnes, BitVec.toNat_not, ofInt_mod, wrapi]
  split <;> omega
theorem and_one_u64 (a : Int) (h0 : 0 ≤ a) (h1 : a < 18446744073709551616) : bits .and .u64 a 1 = a % 2 := by
  obtain ⟨x, rfl⟩ := Int.eq_ofNat_of_zero_le h0
  have := u64_and_nat x 1 (by omega) (by omega)
  rw [show ((1 : Nat) : Int) = 1 from rfl] at this
  rw [this, Nat.and_one_is_mod]
  omega
theorem zg_bits (n : Int) (h0 : -9223372036854775808 ≤ n) (h1 : n ≤ 9223372036854775807) :
    bits .xor .u64 (IntKind.u64.wrap (wrap64 (n * 2))) (IntKind.u64.wrap (n / 9223372036854775808)) = zg n := by
  rw [wrapu, wrapu, wrap64_mod]
  unfold zg
  split
  · rw [xor_ones_u64 _ _ (by omega) (by omega) (by omega)]; omega
  · rw [xor_zero_u64 _ _ (by omega) (by omega) (by omega)]; omega
theorem zag_bits (x : Int) (h0 : 0 ≤ x) (h1 : x < 18446744073709551616) :
    bits .xor .i64 (x / 2) (wrap64 (-wrap64 (bits .and .u64 x 1))) = zag x := by
  rw [and_one_u64 x h0 h1]
  unfold zag
  split
  · rename_i h
    rw [h, xor_ones_i64 _ _ (by omega) (by omega) (by unfold wrap64; decide)]
  · rw [show x % 2 = 0 by omega, xor_zero_i64 _ _ (by omega) (by omega) (by unfold wrap64; decide)]

theorem ret_u64 {a b : Int} (h : a = b) : Ending.returned (.int .u64 a) = .returned (.int .u64 b) := by rw [h]
theorem ret_i64 {a b : Int} (h : a = b) : Ending.returned (.int .i64 a) = .returned (.int .i64 b) := by rw [h]

end Go.Proofs.Ytkedmhopajpkhaa.Cur
