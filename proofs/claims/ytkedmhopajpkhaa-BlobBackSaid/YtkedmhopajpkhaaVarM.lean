/- Numbers in as few bytes as they need: the plain mathematics. -/
import Derived.Lib.BitFns
namespace Go.Proofs.Ytkedmhopajpkhaa.Cur
set_option linter.unusedVariables false

/-- How many bytes a number has. -/
def vszF : Nat → Int → Nat
  | 0, _ => 1
  | k + 1, x => if x < 128 then 1 else 1 + vszF k (x / 128)
def vsz (x : Int) : Nat := vszF 9 x
/-- The bytes of a number in s of them. -/
def vzL (s : Nat) (x : Int) : List Int := (List.range (s - 1)).map (fun i => 128 + x / 128 ^ i % 128) ++ [x / 128 ^ (s - 1)]
def vz (x : Int) : List Int := vzL (vsz x) x

theorem vszF_pos (k : Nat) (x : Int) : 1 ≤ vszF k x := by
  cases k with
  | zero => exact Nat.le_refl _
  | succ k => unfold vszF; split <;> omega
theorem vszF_le (k : Nat) (x : Int) : vszF k x ≤ k + 1 := by
  induction k generalizing x with
  | zero => exact Nat.le_refl _
  | succ k ih => unfold vszF; split; omega; have := ih (x / 128); omega
theorem vsz_pos (x : Int) : 1 ≤ vsz x := vszF_pos 9 x
theorem vsz_le (x : Int) : vsz x ≤ 10 := vszF_le 9 x
theorem vzL_length (s : Nat) (x : Int) (h : 1 ≤ s) : (vzL s x).length = s := by simp [vzL]; omega
theorem vz_length (x : Int) : (vz x).length = vsz x := vzL_length _ _ (vsz_pos x)

theorem pow128_pos (s : Nat) : (0 : Int) < 128 ^ s := Int.pow_pos (by omega)
theorem div128 (x : Int) (s : Nat) : x / 128 / 128 ^ s = x / 128 ^ (s + 1) := by
  rw [Int.ediv_ediv_of_nonneg (by omega), Int.pow_succ, Int.mul_comm]
theorem div128' (x : Int) (s : Nat) : x / 128 ^ s / 128 = x / 128 ^ (s + 1) := by
  rw [Int.ediv_ediv_of_nonneg (Int.le_of_lt (pow128_pos s)), Int.pow_succ]

/-- The size is the number of sevens. -/
theorem vszF_spec (k : Nat) (x : Int) (h0 : 0 ≤ x) (h : x < 128 ^ (k + 1)) : x < 128 ^ vszF k x ∧ (vszF k x = 1 ∨ 128 ^ (vszF k x - 1) ≤ x) := by
  induction k generalizing x with
  | zero => exact ⟨by simpa [vszF] using h, .inl rfl⟩
  | succ k ih =>
    unfold vszF
    split
    · rename_i hx; exact ⟨by simpa using hx, .inl rfl⟩
    · rename_i hx
      obtain ⟨h1, h2⟩ := ih (x / 128) (by omega) (by rw [Int.pow_succ] at h; generalize (128 : Int) ^ (k + 1) = P at *; omega)
      have hp := vszF_pos k (x / 128)
      generalize vszF k (x / 128) = s at *
      obtain ⟨t, rfl⟩ : ∃ t, s = t + 1 := ⟨s - 1, by omega⟩
      refine ⟨?_, .inr ?_⟩
      · rw [show 1 + (t + 1) = (t + 1) + 1 by omega, Int.pow_succ]
        generalize (128 : Int) ^ (t + 1) = P at *
        omega
      · rw [show 1 + (t + 1) - 1 = t + 1 by omega, Int.pow_succ]
        rcases h2 with h2 | h2
        · obtain rfl : t = 0 := by omega
          simp; omega
        · rw [show t + 1 - 1 = t by omega] at h2
          generalize (128 : Int) ^ t = P at *
          omega
theorem two64 : (18446744073709551616 : Int) ≤ 128 ^ 10 := by decide
theorem vsz_spec (x : Int) (h0 : 0 ≤ x) (h1 : x < 18446744073709551616) : x < 128 ^ vsz x ∧ (vsz x = 1 ∨ 128 ^ (vsz x - 1) ≤ x) :=
  vszF_spec 9 x h0 (Int.lt_of_lt_of_le h1 two64)
theorem pow128_mono {a b : Nat} (h : a ≤ b) : (128 : Int) ^ a ≤ 128 ^ b := by
  induction b with
  | zero => obtain rfl : a = 0 := by omega
            exact Int.le_refl _
  | succ b ih =>
    rcases Nat.lt_or_ge b a with h1 | h1
    · obtain rfl : a = b + 1 := by omega
      exact Int.le_refl _
    · have := ih h1
      have := pow128_pos b
      rw [Int.pow_succ]; omega
theorem vsz_unique {x : Int} {s : Nat} (h0 : 0 ≤ x) (h1 : x < 18446744073709551616) (hs : 1 ≤ s) (ha : x < 128 ^ s) (hb : s = 1 ∨ 128 ^ (s - 1) ≤ x) : vsz x = s := by
  obtain ⟨h2, h3⟩ := vsz_spec x h0 h1
  have hp := vsz_pos x
  generalize vsz x = t at *
  rcases Nat.lt_trichotomy t s with h | h | h
  · have := pow128_mono (show t ≤ s - 1 by omega)
    rcases hb with hb | hb <;> omega
  · exact h
  · have := pow128_mono (show s ≤ t - 1 by omega)
    rcases h3 with h3 | h3 <;> omega
theorem vsz_mono {x y : Int} (h0 : 0 ≤ y) (h1 : x < 18446744073709551616) (h : y ≤ x) : vsz y ≤ vsz x := by
  obtain ⟨h2, h3⟩ := vsz_spec x (by omega) h1
  obtain ⟨h4, h5⟩ := vsz_spec y h0 (by omega)
  rcases Nat.lt_or_ge (vsz x) (vsz y) with k | k
  · have := pow128_mono (show vsz x ≤ vsz y - 1 by omega)
    have := vsz_pos x
    rcases h5 with h5 | h5 <;> omega
  · exact k
theorem vz_lt (x : Int) (h : x < 128) : vz x = [x] := by
  have : vsz x = 1 := by unfold vsz vszF; rw [if_pos h]
  unfold vz; rw [this]; simp [vzL]
theorem vsz_div (x : Int) (h : 128 ≤ x) (h1 : x < 18446744073709551616) : vsz x = vsz (x / 128) + 1 := by
  obtain ⟨h2, h3⟩ := vsz_spec (x / 128) (by omega) (by omega)
  have hp := vsz_pos (x / 128)
  refine vsz_unique (by omega) h1 (by omega) ?_ (.inr ?_)
  · rw [Int.pow_succ]; generalize (128 : Int) ^ vsz (x / 128) = P at *; omega
  · rw [Nat.add_sub_cancel]
    obtain ⟨t, ht⟩ : ∃ t, vsz (x / 128) = t + 1 := ⟨vsz (x / 128) - 1, by omega⟩
    rw [ht] at h3 ⊢
    rw [Int.pow_succ]
    rcases h3 with h3 | h3
    · obtain rfl : t = 0 := by omega
      simp; omega
    · rw [Nat.add_sub_cancel] at h3
      generalize (128 : Int) ^ t = P at *
      omega
theorem vz_ge (x : Int) (h : 128 ≤ x) (h1 : x < 18446744073709551616) : vz x = (128 + x % 128) :: vz (x / 128) := by
  have hp := vsz_pos (x / 128)
  unfold vz
  rw [vsz_div x h h1]
  obtain ⟨t, ht⟩ : ∃ t, vsz (x / 128) = t + 1 := ⟨vsz (x / 128) - 1, by omega⟩
  rw [ht]
  unfold vzL
  rw [Nat.add_sub_cancel, Nat.add_sub_cancel, List.range_succ_eq_map, div128]
  simp [Function.comp_def, div128]
theorem vz_byte (x : Int) (h0 : 0 ≤ x) (h1 : x < 18446744073709551616) : ∀ b ∈ vz x, 0 ≤ b ∧ b < 256 := by
  obtain ⟨h2, _⟩ := vsz_spec x h0 h1
  intro b hb
  simp only [vz, vzL, List.mem_append, List.mem_map, List.mem_singleton] at hb
  rcases hb with ⟨i, _, rfl⟩ | rfl
  · have := Int.emod_nonneg (x / 128 ^ i) (show (128 : Int) ≠ 0 by omega)
    have := Int.emod_lt_of_pos (x / 128 ^ i) (show (0 : Int) < 128 by omega)
    omega
  · have hp := vsz_pos x
    obtain ⟨t, ht⟩ : ∃ t, vsz x = t + 1 := ⟨vsz x - 1, by omega⟩
    rw [ht] at h2 ⊢
    rw [Nat.add_sub_cancel]
    rw [Int.pow_succ] at h2
    have hP := pow128_pos t
    generalize (128 : Int) ^ t = P at *
    refine ⟨Int.ediv_nonneg h0 (by omega), ?_⟩
    have : x / P < 128 := Int.ediv_lt_of_lt_mul hP (by rw [Int.mul_comm]; exact h2)
    omega
/-- The size by the number of binary digits. -/
theorem bitLen_spec : ∀ (k x : Nat), x < 2 ^ k → k ≤ 64 → x < 2 ^ Lib.bitLen x ∧ (x = 0 ∨ 2 ^ (Lib.bitLen x - 1) ≤ x) ∧ (x = 0 → Lib.bitLen x = 0) := by
  intro k
  induction k with
  | zero => intro x hx _; obtain rfl : x = 0 := by simpa using hx
            exact ⟨by decide, .inl rfl, fun _ => by decide⟩
  | succ k ih =>
    intro x hx hk
    by_cases h0 : x = 0
    · subst h0; exact ⟨by decide, .inl rfl, fun _ => by decide⟩
    · have hlt : x < 2 ^ 64 := Nat.lt_of_lt_of_le hx (Nat.pow_le_pow_right (by omega) hk)
      rw [Lib.bitLen_half x h0 hlt]
      obtain ⟨h1, h2, h3⟩ := ih (x / 2) (by rw [Nat.pow_succ] at hx; omega) (by omega)
      generalize hl : Lib.bitLen (x / 2) = l at *
      refine ⟨?_, .inr ?_, fun h => absurd h h0⟩
      · rw [show 1 + l = l + 1 by omega, Nat.pow_succ]; omega
      · rw [show 1 + l - 1 = l by omega]
        rcases h2 with h2 | h2
        · rw [h3 h2]; simp; omega
        · rcases Nat.eq_zero_or_pos l with e | e
          · subst e; simp; omega
          · obtain ⟨t, rfl⟩ : ∃ t, l = t + 1 := ⟨l - 1, by omega⟩
            rw [Nat.add_sub_cancel] at h2
            rw [Nat.pow_succ]; omega
theorem pow7 (s : Nat) : (2 : Nat) ^ (7 * s) = 128 ^ s := by rw [Nat.pow_mul]
theorem vsz_bits (x : Int) (h0 : 0 ≤ x) (h1 : x < 18446744073709551616) : (vsz x : Int) = (if 1 < ((Lib.bitLen x.toNat : Int) + 7 - 1) / 7 then ((Lib.bitLen x.toNat : Int) + 7 - 1) / 7 else 1) := by
  obtain ⟨n, rfl⟩ := Int.eq_ofNat_of_zero_le h0
  rw [Int.toNat_natCast]
  obtain ⟨h2, h3, h4⟩ := bitLen_spec 64 n (by omega) (Nat.le_refl _)
  generalize Lib.bitLen n = l at *
  rcases Nat.eq_zero_or_pos n with e | e
  · subst e
    rw [h4 rfl]
    rfl
  · have h3' : 2 ^ (l - 1) ≤ n := by rcases h3 with h3 | h3 <;> omega
    have hl : 1 ≤ l := by
      rcases Nat.eq_zero_or_pos l with e | e
      · subst e; simp at h2; omega
      · exact e
    have hs : vsz (n : Int) = (l + 6) / 7 := by
      refine vsz_unique h0 h1 (by omega) ?_ ?_
      · have : 2 ^ l ≤ 2 ^ (7 * ((l + 6) / 7)) := Nat.pow_le_pow_right (by omega) (by omega)
        rw [pow7] at this
        have h : n < 128 ^ ((l + 6) / 7) := by omega
        exact_mod_cast h
      · rcases Nat.lt_or_ge 7 l with k | k
        · right
          have : 2 ^ (7 * ((l + 6) / 7 - 1)) ≤ 2 ^ (l - 1) := Nat.pow_le_pow_right (by omega) (by omega)
          rw [pow7] at this
          have h : 128 ^ ((l + 6) / 7 - 1) ≤ n := by omega
          exact_mod_cast h
        · left; omega
    rw [hs]
    split <;> omega
end Go.Proofs.Ytkedmhopajpkhaa.Cur
