/- K29: SrtG SrtH SrtI SrtJ SrtK -/
import Derived.Test.YthpgandifeiejaaK28
import Derived.Deep.Cut
import Derived.Deep.CutRange
import Derived.Deep.CutBlock
import Derived.Test.YthpgandifeiejaaShelf
import Derived.Sort.Walk7a
/- slices.Sort at numbers of 64 digits: the row parted at equal ones. -/
/- slices.Sort at numbers of 64 digits: the row parted. -/
/- slices.Sort at numbers of 64 digits: the partial insertion sort. -/
/- slices.Sort at numbers of 64 digits: the patterns are broken. -/
/- slices.Sort at numbers of 64 digits: the patterns are broken. -/
namespace Go.Proofs.Ythpgandifeiejaa.Cur
open Go.RowKit Mem Go.Sort
set_option linter.unusedVariables false
set_option maxRecDepth 100000



theorem OwnA.cell2 {w : World} {B g n cap : Nat} {d : Array Int} (h : OwnA w B g n cap d) (i : Nat) {j : Nat} (u : Value) (hj : j < n) : ∃ v, (w.setCell ⟨g, i, none⟩ u).cell? ⟨g, j, none⟩ = some v := by
  have h1 := (World.ownsRow.stored h.2 i u).1
  have hl : j < ((uv d.toList).set i u).length := by rw [List.length_set, List.length_map, Array.length_toList]; exact h.1.symm ▸ hj
  exact ⟨_, (World.ownsRow.cellAt h1 j (by omega)).trans (List.getElem?_eq_getElem hl)⟩
theorem scanup_step (p : Int → Bool) (d : Array Int) {j k : Nat} (h : k ≤ j) : scanUp p d j k = if p d[k]! = true then scanUp p d j (k + 1) else k := by
  conv => lhs; unfold scanUp
  simp [h]
theorem scanup_done (p : Int → Bool) (d : Array Int) {j k : Nat} (h : ¬ k ≤ j) : scanUp p d j k = k := by
  unfold scanUp
  simp [h]
theorem scanup_bounds (p : Int → Bool) (d : Array Int) (j : Nat) : ∀ (f k : Nat), j + 1 - k ≤ f → k ≤ scanUp p d j k ∧ (scanUp p d j k ≤ k ∨ scanUp p d j k ≤ j + 1)
  | 0, k, hf => by rw [scanup_done p d (by omega)]; exact ⟨Nat.le_refl _, .inl (Nat.le_refl _)⟩
  | f + 1, k, hf => by
    by_cases h : k ≤ j
    · rw [scanup_step p d h]
      by_cases hp : p d[k]! = true
      · rw [if_pos hp]
        have := scanup_bounds p d j f (k + 1) (by omega)
        omega
      · rw [if_neg hp]; exact ⟨Nat.le_refl _, .inl (Nat.le_refl _)⟩
    · rw [scanup_done p d h]; exact ⟨Nat.le_refl _, .inl (Nat.le_refl _)⟩
theorem scandown_step (p : Int → Bool) (d : Array Int) {i k : Nat} (h : i ≤ k) (hi : 0 < i) : scanDown p d i k = if p d[k]! = true then scanDown p d i (k - 1) else k := by
  rcases k with _ | k
  · omega
  · conv => lhs; unfold scanDown
    simp [h]
theorem scandown_done (p : Int → Bool) (d : Array Int) {i k : Nat} (h : ¬ i ≤ k) : scanDown p d i k = k := by
  rcases k with _ | k
  · rfl
  · unfold scanDown; simp [h]
theorem scandown_le (p : Int → Bool) (d : Array Int) (i : Nat) : ∀ k, scanDown p d i k ≤ k
  | 0 => Nat.le_refl _
  | k + 1 => by
    unfold scanDown
    split
    · exact Nat.le_succ_of_le (scandown_le p d i k)
    · exact Nat.le_refl _
theorem parteq_step {a i j i2 j2 : Nat} {d : Array Int} (hi : scanUp (fun x => !ltInt d[a]! x) d j i = i2) (hj : scanDown (fun x => ltInt d[a]! x) d i2 j = j2) :
    partEqLoop ltInt a i j d = if i2 > j2 then (i2, d) else partEqLoop ltInt a (i2 + 1) (j2 - 1) (Go.Sort.swp d i2 j2) := by
  have h1 := (scanup_bounds (fun x => !ltInt d[a]! x) d j (j + 1 - i) i (Nat.le_refl _)).1
  have h2 := scandown_le (fun x => ltInt d[a]! x) d i2 j
  rw [partEqLoop]
  simp only [hi, hj]
  rw [hi] at h1
  rw [hj] at h2
  by_cases h : i2 > j2
  · rw [if_pos h, if_pos h]
  · rw [if_neg h, if_neg h, dif_pos (by omega)]

/-- What a part of the sort answers with a place. -/
def SqP (B g n cap : Nat) (r : Nat × Array Int) (w : World) (e : Ending) (w' : World) : Prop := e = .returned (.int .i64 r.1) ∧ OwnA w' B g n cap r.2 ∧ Ks (fun x => x = g) w w'
end Go.Proofs.Ythpgandifeiejaa.Cur

namespace Go.Proofs.Ythpgandifeiejaa.Cur
open Go.RowKit Mem Go.Sort
set_option linter.unusedVariables false
set_option maxRecDepth 100000



theorem part_step {a i j i2 j2 : Nat} {d : Array Int} (hi : scanUp (fun x => ltInt x d[a]!) d j i = i2) (hj : scanDown (fun x => !ltInt x d[a]!) d i2 j = j2) :
    partLoop ltInt a i j d = if i2 > j2 then (j2, d) else partLoop ltInt a (i2 + 1) (j2 - 1) (Go.Sort.swp d i2 j2) := by
  have h1 := (scanup_bounds (fun x => ltInt x d[a]!) d j (j + 1 - i) i (Nat.le_refl _)).1
  have h2 := scandown_le (fun x => !ltInt x d[a]!) d i2 j
  rw [partLoop]
  simp only [hi, hj]
  rw [hi] at h1
  rw [hj] at h2
  by_cases h : i2 > j2
  · rw [if_pos h, if_pos h]
  · rw [if_neg h, if_neg h, dif_pos (by omega)]

/-- What the parting answers. -/
def StP (B g n cap : Nat) (r : Nat × Bool × Array Int) (w : World) (e : Ending) (w' : World) : Prop := e = .returned (.tuple #[.int .i64 r.1, .bool r.2.1]) ∧ OwnA w' B g n cap r.2.2 ∧ Ks (fun x => x = g) w w'
end Go.Proofs.Ythpgandifeiejaa.Cur

namespace Go.Proofs.Ythpgandifeiejaa.Cur
open Go.RowKit Mem Go.Sort
set_option linter.unusedVariables false
set_option maxRecDepth 100000



theorem scs_step (d : Array Int) {b k : Nat} (h : k < b) : scanSorted ltInt d b k = if ltInt d[k]! d[k - 1]! = true then k else scanSorted ltInt d b (k + 1) := by
  conv => lhs; unfold scanSorted
  by_cases hq : ltInt d[k]! d[k - 1]! = true
  · rw [if_pos hq, if_neg (by simp [hq])]
  · rw [if_neg hq, if_pos (by simp [h, hq])]
theorem scs_done (d : Array Int) {b k : Nat} (h : ¬ k < b) : scanSorted ltInt d b k = k := by
  unfold scanSorted
  simp [h]
theorem scs_bounds (d : Array Int) (b : Nat) : ∀ (f k : Nat), b - k ≤ f → k ≤ b → k ≤ scanSorted ltInt d b k ∧ scanSorted ltInt d b k ≤ b
  | 0, k, hf, hk => by rw [scs_done d (by omega)]; omega
  | f + 1, k, hf, hk => by
    by_cases h : k < b
    · rw [scs_step d h]
      split
      · omega
      · have := scs_bounds d b f (k + 1) (by omega) (by omega)
        omega
    · rw [scs_done d h]; omega
theorem shd_step (d : Array Int) {k m : Nat} (h : k = m + 1) : shiftDown ltInt k d = if ltInt d[k]! d[m]! = true then shiftDown ltInt m (Go.Sort.swp d k m) else d := by
  subst h
  conv => lhs; unfold shiftDown
  by_cases hq : ltInt d[m + 1]! d[m]! = true
  · rw [if_pos hq, if_neg (by simp [hq])]
  · rw [if_neg hq, if_pos (by simp [hq])]
theorem shu_step (d : Array Int) {b k m : Nat} (h : k = m + 1) (hk : k < b) : shiftUp ltInt b k d = if ltInt d[k]! d[m]! = true then shiftUp ltInt b (k + 1) (Go.Sort.swp d k m) else d := by
  subst h
  conv => lhs; unfold shiftUp
  rw [if_pos hk]
  show (if (!ltInt d[m + 1]! d[m]!) = true then _ else _) = _
  by_cases hq : ltInt d[m + 1]! d[m]! = true
  · rw [if_pos hq, if_neg (by simp [hq])]; rfl
  · rw [if_neg hq, if_pos (by simp [hq])]
theorem shu_done (d : Array Int) {b k : Nat} (h : ¬ k < b) : shiftUp ltInt b k d = d := by
  unfold shiftUp
  rw [if_neg h]
theorem pin_step {a b s i i2 : Nat} {d : Array Int} (hi : scanSorted ltInt d b i = i2) :
    partialIns ltInt a b (s + 1) i d = if i2 = b then (d, true) else if b - a < 50 then (d, false) else
      partialIns ltInt a b s i2 (if b - i2 ≥ 2 then shiftUp ltInt b (i2 + 1) (if i2 - a ≥ 2 then shiftDown ltInt (i2 - 1) (Go.Sort.swp d i2 (i2 - 1)) else Go.Sort.swp d i2 (i2 - 1)) else (if i2 - a ≥ 2 then shiftDown ltInt (i2 - 1) (Go.Sort.swp d i2 (i2 - 1)) else Go.Sort.swp d i2 (i2 - 1))) := by
  subst hi
  rfl

/-- What the partial sort answers. -/
def SbP (B g n cap : Nat) (r : Array Int × Bool) (w : World) (e : Ending) (w' : World) : Prop := e = .returned (.bool r.2) ∧ OwnA w' B g n cap r.1 ∧ Ks (fun x => x = g) w w'
end Go.Proofs.Ythpgandifeiejaa.Cur

namespace Go.Proofs.Ythpgandifeiejaa.Cur
open Go.RowKit Mem Go.Sort
set_option linter.unusedVariables false
set_option maxRecDepth 100000



theorem xs_up (X m Y : Nat) (hX : X < 18446744073709551616) (hY : X ^^^ (X * m % 18446744073709551616) = Y) : bits .xor .u64 (X : Int) (IntKind.u64.wrap ((X : Int) * m)) = (Y : Int) ∧ Y < 18446744073709551616 := by
  have h1 : X * m % 18446744073709551616 < 18446744073709551616 := Nat.mod_lt _ (by decide)
  have h2 : IntKind.u64.wrap ((X : Int) * m) = ((X * m % 18446744073709551616 : Nat) : Int) := by
    rw [IntKind.wrap_u64, ← Int.natCast_mul]
    generalize X * m = p
    omega
  exact ⟨by rw [h2, bits_xor_u64_nat _ _ hX h1, hY], hY ▸ Nat.xor_lt_two_pow (n := 64) hX h1⟩
theorem xs_down (X m Y : Nat) (hX : X < 18446744073709551616) (hY : X ^^^ (X / m) = Y) : bits .xor .u64 (X : Int) ((X : Int) / m) = (Y : Int) ∧ Y < 18446744073709551616 := by
  have h1 : X / m < 18446744073709551616 := Nat.lt_of_le_of_lt (Nat.div_le_self _ _) hX
  have h2 : (X : Int) / m = ((X / m : Nat) : Int) := by push_cast; rfl
  exact ⟨by rw [h2, bits_xor_u64_nat _ _ hX h1, hY], hY ▸ Nat.xor_lt_two_pow (n := 64) hX h1⟩
def bpR (a L M i0 : Nat) : Nat → Nat → UInt64 × Array Int → Array Int
  | 0, _, st => st.2
  | k + 1, t, st => bpR a L M i0 k (t + 1) (breakStep a L M st (i0 + t))
theorem bpr_eq (d : Array Int) (a b L : Nat) (hL : L = b - a) (h8 : 8 ≤ L) : breakPatterns d a b = bpR a L (1 <<< bitsLen L) (a + L / 4 * 2 - 1) 3 0 (UInt64.ofNat L, d) := by
  subst hL
  unfold breakPatterns
  rw [if_pos h8]
  rfl
theorem bpr_step (a L M i0 k t : Nat) (r : UInt64) (d : Array Int) (o : Nat) (ho : (if (xorNext r).toNat &&& (M - 1) ≥ L then ((xorNext r).toNat &&& (M - 1)) - L else (xorNext r).toNat &&& (M - 1)) = o) :
    bpR a L M i0 (k + 1) t (r, d) = bpR a L M i0 k (t + 1) (xorNext r, Go.Sort.swp d (i0 + t) (a + o)) := by
  rw [bpR]
  unfold breakStep
  simp only [ho]
end Go.Proofs.Ythpgandifeiejaa.Cur

namespace Go.Proofs.Ythpgandifeiejaa.Cur
open Go.RowKit Mem Go.Sort
set_option linter.unusedVariables false
set_option maxRecDepth 100000



end Go.Proofs.Ythpgandifeiejaa.Cur
