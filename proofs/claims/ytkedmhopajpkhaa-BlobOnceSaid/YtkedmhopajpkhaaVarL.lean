/- Each number has one form alone; what is put is read: the plain mathematics. The document's example for numbers is as it says (live). -/
import Derived.Test.YtkedmhopajpkhaaVarG
namespace Go.Proofs.Ytkedmhopajpkhaa.Cur
open Go.RowKit Mem
set_option linter.unusedVariables false

theorem p9 : (128 : Int) ^ 9 = 9223372036854775808 := by decide
/-- What is read is put so again. -/
theorem vgo_once (l : List Int) : ∀ (i : Nat) (X : Int), (∀ x ∈ l, 0 ≤ x ∧ x < 256) → i ≤ 9 → (vgo l i X).2.2.1 = 0 →
    ∃ (y : Int) (j : Nat), 1 ≤ j ∧ j ≤ l.length ∧ (vgo l i X).2.1 = i + j ∧ (vgo l i X).1 = X + y * 128 ^ i ∧ 0 ≤ y ∧ (y + 1) * 128 ^ i ≤ 18446744073709551616 ∧ vz y = l.take j ∧ (0 < i → y ≠ 0) := by
  induction l with
  | nil => intro i X _ _ h; exact absurd h (by show (1 : Int) ≠ 0; omega)
  | cons b l ih =>
    intro i X hl hi h
    have hb := hl b (by simp)
    by_cases h1 : i = 9 ∧ 1 < b
    · rw [vgo_over h1.1 h1.2] at h; exact absurd h (by show (5 : Int) ≠ 0; omega)
    · by_cases h2 : 0 < i ∧ b = 0
      · rw [vgo_zero h2.1 h2.2] at h; exact absurd h (by show (4 : Int) ≠ 0; omega)
      · by_cases h3 : b < 128
        · rw [vgo_done h1 h2 h3] at h ⊢
          refine ⟨b, 1, Nat.le_refl _, by simp, by show (i : Int) + 1 = i + (1 : Nat); omega, rfl, hb.1, ?_, by rw [vz_lt b h3]; simp, fun h hb0 => h2 ⟨h, hb0⟩⟩
          rcases Nat.lt_or_ge i 9 with k | k
          · have e8 : (128 : Int) ^ 8 = 72057594037927936 := by decide
            have := pow128_mono (show i ≤ 8 by omega)
            have hp := pow128_pos i
            have : (b + 1) * 128 ^ i ≤ 128 * 128 ^ i := Int.mul_le_mul_of_nonneg_right (by omega) (by omega)
            omega
          · obtain rfl : i = 9 := by omega
            rw [p9]; omega
        · have hm := vgo_more (X := X) (l := l) h1 (show 128 ≤ b by omega)
          rw [hm] at h ⊢
          have hi9 : i ≠ 9 := fun e => h1 ⟨e, by omega⟩
          obtain ⟨y, j, j1, j2, e1, e2, y0, y1, e3, e4⟩ := ih (i + 1) (X + b % 128 * 128 ^ i) (fun x hx => hl x (by simp [hx])) (by omega) h
          have y2 := e4 (by omega)
          have hp := pow128_pos i
          rw [Int.pow_succ, ← Int.mul_assoc, Int.mul_right_comm] at y1
          have hle : (b % 128 + 128 * y + 1) * 128 ^ i ≤ (y + 1) * 128 * 128 ^ i := Int.mul_le_mul_of_nonneg_right (by omega) (by omega)
          have hlt : b % 128 + 128 * y + 1 ≤ 18446744073709551616 := by
            have : (b % 128 + 128 * y + 1) * 1 ≤ (b % 128 + 128 * y + 1) * 128 ^ i := Int.mul_le_mul_of_nonneg_left (by omega) (by omega)
            omega
          refine ⟨b % 128 + 128 * y, j + 1, by omega, by simp; omega, by rw [e1]; push_cast; omega, ?_, by omega, by omega, ?_, fun _ => by omega⟩
          · rw [e2, Int.pow_succ, Int.add_mul, Int.mul_comm (128 ^ i) 128, ← Int.mul_assoc, Int.mul_comm y 128, Int.add_assoc]
          · rw [vz_ge _ (by omega) (by omega), List.take_succ_cons, show (b % 128 + 128 * y) / 128 = y by omega, e3, show 128 + (b % 128 + 128 * y) % 128 = b by omega]

/-- What is put is read, whatever stands behind. -/
theorem vgo_back (l : List Int) (k : Nat) : ∀ (y : Int) (i : Nat) (X : Int), vsz y ≤ k → 0 ≤ y → y < 18446744073709551616 → i ≤ 9 → y * 128 ^ i < 18446744073709551616 → (0 < i → y ≠ 0) →
    vgo (vz y ++ l) i X = (X + y * 128 ^ i, (i : Int) + vsz y, 0, 0) := by
  induction k with
  | zero => intro y i X h; have := vsz_pos y; omega
  | succ k ih =>
    intro y i X hk y0 y1 hi hy hz
    by_cases hlt : y < 128
    · have hs : vsz y = 1 := by unfold vsz vszF; rw [if_pos hlt]
      rw [vz_lt y hlt, hs, List.singleton_append, vgo_done (fun h => ?_) (fun h => hz h.1 h.2) hlt]
      · rfl
      · rw [h.1, p9] at hy; omega
    · have hs := vsz_div y (by omega) y1
      have hi9 : i ≠ 9 := fun e => by rw [e, p9] at hy; omega
      rw [vz_ge y (by omega) y1, List.cons_append, vgo_more (fun h => hi9 h.1) (by omega)]
      have hp := pow128_pos i
      have hle : y / 128 * 128 * 128 ^ i ≤ y * 128 ^ i := Int.mul_le_mul_of_nonneg_right (by omega) (by omega)
      have he : y / 128 * 128 ^ (i + 1) = y / 128 * 128 * 128 ^ i := by rw [Int.pow_succ, Int.mul_comm (128 ^ i) 128, Int.mul_assoc]
      rw [ih (y / 128) (i + 1) _ (by omega) (by omega) (by omega) (by omega) (by omega) (fun _ => by omega)]
      rw [he, hs, show (128 + y % 128) % 128 = y % 128 by omega, Int.add_assoc, ← Int.add_mul, show y % 128 + y / 128 * 128 = y by omega]
      congr 2
      push_cast; omega
theorem vgo_put (x : Int) (l : List Int) (h0 : 0 ≤ x) (h1 : x < 18446744073709551616) : vgo (vz x ++ l) 0 0 = (x, (vsz x : Int), 0, 0) := by
  rw [vgo_back l (vsz x) x 0 0 (Nat.le_refl _) h0 h1 (by omega) (by simpa using h1) (fun h => absurd h (by omega))]
  simp

end Go.Proofs.Ytkedmhopajpkhaa.Cur
