/- K4: VarM VarA VarB VarC VarD VarE VarF VarG VarL -/
import Derived.Lib.BitFns
import Derived.Test.YtgdcbfekekefiaaK3
import Derived.Test.YtgdcbfekekefiaaK1
import Derived.Test.YtgdcbfekekefiaaShelf
import Derived.Outline
import Derived.Test.YtgdcbfekekefiaaK2
import Derived.WalkMore
import Derived.ScopeJumps
import Derived.Laws.BitsAllLaws
import Derived.IntWalk
import Derived.Deep.LoopGhost
/- Numbers in as few bytes as they need: the plain mathematics. -/
/- The contracts of package varint: Size, Bytes, Put; the document's Bytes. -/
/- The contracts of package varint: Put; the document's Bytes. -/
/- Reading a number: the plain mathematics; varint.Read. -/
/- The contracts of package varint: ReadMost, ReadInt, Get. -/
/- The document's Get. -/
/- The document's Read, Most and Int. -/
/- The document's Most and Int. -/
/- Each number has one form alone; what is put is read: the plain mathematics. The document's example for numbers is as it says (live). -/
namespace Go.Proofs.Ytgdcbfekekefiaa.Cur
set_option linter.unusedVariables false

/-- How many bytes a number has. -/
def vszF : Nat → Int → Nat
  | 0, _ => 1
  | k + 1, x => if x < 128 then 1 else 1 + vszF k (x / 128)
def vsz (x : Int) : Nat := vszF 9 x
/-- The bytes of a number in s of them. -/
def vzL (s : Nat) (x : Int) : List Int := (List.range (s - 1)).map (fun i => 128 + x / 128 ^ i % 128) ++ [x / 128 ^ (s - 1)]
def vz (x : Int) : List Int := vzL (vsz x) x

theorem vszF_pos (k : Nat) (x : Int) : 1 ≤ vszF k x := by
  cases k with
  | zero => exact Nat.le_refl _
  | succ k => unfold vszF; split <;> omega
theorem vszF_le (k : Nat) (x : Int) : vszF k x ≤ k + 1 := by
  induction k generalizing x with
  | zero => exact Nat.le_refl _
  | succ k ih => unfold vszF; split; omega; have := ih (x / 128); omega
theorem vsz_pos (x : Int) : 1 ≤ vsz x := vszF_pos 9 x
theorem vsz_le (x : Int) : vsz x ≤ 10 := vszF_le 9 x
theorem vzL_length (s : Nat) (x : Int) (h : 1 ≤ s) : (vzL s x).length = s := by simp [vzL]; omega
theorem vz_length (x : Int) : (vz x).length = vsz x := vzL_length _ _ (vsz_pos x)

theorem pow128_pos (s : Nat) : (0 : Int) < 128 ^ s := Int.pow_pos (by omega)
theorem div128 (x : Int) (s : Nat) : x / 128 / 128 ^ s = x / 128 ^ (s + 1) := by
  rw [Int.ediv_ediv_of_nonneg (by omega), Int.pow_succ, Int.mul_comm]
theorem div128' (x : Int) (s : Nat) : x / 128 ^ s / 128 = x / 128 ^ (s + 1) := by
  rw [Int.ediv_ediv_of_nonneg (Int.le_of_lt (pow128_pos s)), Int.pow_succ]

/-- The size is the number of sevens. -/
theorem vszF_spec (k : Nat) (x : Int) (h0 : 0 ≤ x) (h : x < 128 ^ (k + 1)) : x < 128 ^ vszF k x ∧ (vszF k x = 1 ∨ 128 ^ (vszF k x - 1) ≤ x) := by
  induction k generalizing x with
  | zero => exact ⟨by simpa [vszF] using h, .inl rfl⟩
  | succ k ih =>
    unfold vszF
    split
    · rename_i hx; exact ⟨by simpa using hx, .inl rfl⟩
    · rename_i hx
      obtain ⟨h1, h2⟩ := ih (x / 128) (by omega) (by rw [Int.pow_succ] at h; generalize (128 : Int) ^ (k + 1) = P at *; omega)
      have hp := vszF_pos k (x / 128)
      generalize vszF k (x / 128) = s at *
      obtain ⟨t, rfl⟩ : ∃ t, s = t + 1 := ⟨s - 1, by omega⟩
      refine ⟨?_, .inr ?_⟩
      · rw [show 1 + (t + 1) = (t + 1) + 1 by omega, Int.pow_succ]
        generalize (128 : Int) ^ (t + 1) = P at *
        omega
      · rw [show 1 + (t + 1) - 1 = t + 1 by omega, Int.pow_succ]
        rcases h2 with h2 | h2
        · obtain rfl : t = 0 := by omega
          simp; omega
        · rw [show t + 1 - 1 = t by omega] at h2
          generalize (128 : Int) ^ t = P at *
          omega
theorem two64 : (18446744073709551616 : Int) ≤ 128 ^ 10 := by decide
theorem vsz_spec (x : Int) (h0 : 0 ≤ x) (h1 : x < 18446744073709551616) : x < 128 ^ vsz x ∧ (vsz x = 1 ∨ 128 ^ (vsz x - 1) ≤ x) :=
  vszF_spec 9 x h0 (Int.lt_of_lt_of_le h1 two64)
theorem pow128_mono {a b : Nat} (h : a ≤ b) : (128 : Int) ^ a ≤ 128 ^ b := by
  induction b with
  | zero => obtain rfl : a = 0 := by omega
            exact Int.le_refl _
  | succ b ih =>
    rcases Nat.lt_or_ge b a with h1 | h1
    · obtain rfl : a = b + 1 := by omega
      exact Int.le_refl _
    · have := ih h1
      have := pow128_pos b
      rw [Int.pow_succ]; omega
theorem vsz_unique {x : Int} {s : Nat} (h0 : 0 ≤ x) (h1 : x < 18446744073709551616) (hs : 1 ≤ s) (ha : x < 128 ^ s) (hb : s = 1 ∨ 128 ^ (s - 1) ≤ x) : vsz x = s := by
  obtain ⟨h2, h3⟩ := vsz_spec x h0 h1
  have hp := vsz_pos x
  generalize vsz x = t at *
  rcases Nat.lt_trichotomy t s with h | h | h
  · have := pow128_mono (show t ≤ s - 1 by omega)
    rcases hb with hb | hb <;> omega
  · exact h
  · have := pow128_mono (show s ≤ t - 1 by omega)
    rcases h3 with h3 | h3 <;> omega
theorem vsz_mono {x y : Int} (h0 : 0 ≤ y) (h1 : x < 18446744073709551616) (h : y ≤ x) : vsz y ≤ vsz x := by
  obtain ⟨h2, h3⟩ := vsz_spec x (by omega) h1
  obtain ⟨h4, h5⟩ := vsz_spec y h0 (by omega)
  rcases Nat.lt_or_ge (vsz x) (vsz y) with k | k
  · have := pow128_mono (show vsz x ≤ vsz y - 1 by omega)
    have := vsz_pos x
    rcases h5 with h5 | h5 <;> omega
  · exact k
theorem vz_lt (x : Int) (h : x < 128) : vz x = [x] := by
  have : vsz x = 1 := by unfold vsz vszF; rw [if_pos h]
  unfold vz; rw [this]; simp [vzL]
theorem vsz_div (x : Int) (h : 128 ≤ x) (h1 : x < 18446744073709551616) : vsz x = vsz (x / 128) + 1 := by
  obtain ⟨h2, h3⟩ := vsz_spec (x / 128) (by omega) (by omega)
  have hp := vsz_pos (x / 128)
  refine vsz_unique (by omega) h1 (by omega) ?_ (.inr ?_)
  · rw [Int.pow_succ]; generalize (128 : Int) ^ vsz (x / 128) = P at *; omega
  · rw [Nat.add_sub_cancel]
    obtain ⟨t, ht⟩ : ∃ t, vsz (x / 128) = t + 1 := ⟨vsz (x / 128) - 1, by omega⟩
    rw [ht] at h3 ⊢
    rw [Int.pow_succ]
    rcases h3 with h3 | h3
    · obtain rfl : t = 0 := by omega
      simp; omega
    · rw [Nat.add_sub_cancel] at h3
      generalize (128 : Int) ^ t = P at *
      omega
theorem vz_ge (x : Int) (h : 128 ≤ x) (h1 : x < 18446744073709551616) : vz x = (128 + x % 128) :: vz (x / 128) := by
  have hp := vsz_pos (x / 128)
  unfold vz
  rw [vsz_div x h h1]
  obtain ⟨t, ht⟩ : ∃ t, vsz (x / 128) = t + 1 := ⟨vsz (x / 128) - 1, by omega⟩
  rw [ht]
  unfold vzL
  rw [Nat.add_sub_cancel, Nat.add_sub_cancel, List.range_succ_eq_map, div128]
  simp [Function.comp_def, div128]
theorem vz_byte (x : Int) (h0 : 0 ≤ x) (h1 : x < 18446744073709551616) : ∀ b ∈ vz x, 0 ≤ b ∧ b < 256 := by
  obtain ⟨h2, _⟩ := vsz_spec x h0 h1
  intro b hb
  simp only [vz, vzL, List.mem_append, List.mem_map, List.mem_singleton] at hb
  rcases hb with ⟨i, _, rfl⟩ | rfl
  · have := Int.emod_nonneg (x / 128 ^ i) (show (128 : Int) ≠ 0 by omega)
    have := Int.emod_lt_of_pos (x / 128 ^ i) (show (0 : Int) < 128 by omega)
    omega
  · have hp := vsz_pos x
    obtain ⟨t, ht⟩ : ∃ t, vsz x = t + 1 := ⟨vsz x - 1, by omega⟩
    rw [ht] at h2 ⊢
    rw [Nat.add_sub_cancel]
    rw [Int.pow_succ] at h2
    have hP := pow128_pos t
    generalize (128 : Int) ^ t = P at *
    refine ⟨Int.ediv_nonneg h0 (by omega), ?_⟩
    have : x / P < 128 := Int.ediv_lt_of_lt_mul hP (by rw [Int.mul_comm]; exact h2)
    omega
/-- The size by the number of binary digits. -/
theorem bitLen_spec : ∀ (k x : Nat), x < 2 ^ k → k ≤ 64 → x < 2 ^ Lib.bitLen x ∧ (x = 0 ∨ 2 ^ (Lib.bitLen x - 1) ≤ x) ∧ (x = 0 → Lib.bitLen x = 0) := by
  intro k
  induction k with
  | zero => intro x hx _; obtain rfl : x = 0 := by simpa using hx
            exact ⟨by decide, .inl rfl, fun _ => by decide⟩
  | succ k ih =>
    intro x hx hk
    by_cases h0 : x = 0
    · subst h0; exact ⟨by decide, .inl rfl, fun _ => by decide⟩
    · have hlt : x < 2 ^ 64 := Nat.lt_of_lt_of_le hx (Nat.pow_le_pow_right (by omega) hk)
      rw [Lib.bitLen_half x h0 hlt]
      obtain ⟨h1, h2, h3⟩ := ih (x / 2) (by rw [Nat.pow_succ] at hx; omega) (by omega)
      generalize hl : Lib.bitLen (x / 2) = l at *
      refine ⟨?_, .inr ?_, fun h => absurd h h0⟩
      · rw [show 1 + l = l + 1 by omega, Nat.pow_succ]; omega
      · rw [show 1 + l - 1 = l by omega]
        rcases h2 with h2 | h2
        · rw [h3 h2]; simp; omega
        · rcases Nat.eq_zero_or_pos l with e | e
          · subst e; simp; omega
          · obtain ⟨t, rfl⟩ : ∃ t, l = t + 1 := ⟨l - 1, by omega⟩
            rw [Nat.add_sub_cancel] at h2
            rw [Nat.pow_succ]; omega
theorem pow7 (s : Nat) : (2 : Nat) ^ (7 * s) = 128 ^ s := by rw [Nat.pow_mul]
theorem vsz_bits (x : Int) (h0 : 0 ≤ x) (h1 : x < 18446744073709551616) : (vsz x : Int) = (if 1 < ((Lib.bitLen x.toNat : Int) + 7 - 1) / 7 then ((Lib.bitLen x.toNat : Int) + 7 - 1) / 7 else 1) := by
  obtain ⟨n, rfl⟩ := Int.eq_ofNat_of_zero_le h0
  rw [Int.toNat_natCast]
  obtain ⟨h2, h3, h4⟩ := bitLen_spec 64 n (by omega) (Nat.le_refl _)
  generalize Lib.bitLen n = l at *
  rcases Nat.eq_zero_or_pos n with e | e
  · subst e
    rw [h4 rfl]
    rfl
  · have h3' : 2 ^ (l - 1) ≤ n := by rcases h3 with h3 | h3 <;> omega
    have hl : 1 ≤ l := by
      rcases Nat.eq_zero_or_pos l with e | e
      · subst e; simp at h2; omega
      · exact e
    have hs : vsz (n : Int) = (l + 6) / 7 := by
      refine vsz_unique h0 h1 (by omega) ?_ ?_
      · have : 2 ^ l ≤ 2 ^ (7 * ((l + 6) / 7)) := Nat.pow_le_pow_right (by omega) (by omega)
        rw [pow7] at this
        have h : n < 128 ^ ((l + 6) / 7) := by omega
        exact_mod_cast h
      · rcases Nat.lt_or_ge 7 l with k | k
        · right
          have : 2 ^ (7 * ((l + 6) / 7 - 1)) ≤ 2 ^ (l - 1) := Nat.pow_le_pow_right (by omega) (by omega)
          rw [pow7] at this
          have h : 128 ^ ((l + 6) / 7 - 1) ≤ n := by omega
          exact_mod_cast h
        · left; omega
    rw [hs]
    split <;> omega
end Go.Proofs.Ytgdcbfekekefiaa.Cur

namespace Go.Proofs.Ytgdcbfekekefiaa.Cur
open Go.RowKit Mem
set_option linter.unusedVariables false

theorem bitLen_64 (x : Int) (h0 : 0 ≤ x) (h1 : x < 18446744073709551616) : Lib.bitLen x.toNat ≤ 64 := by
  obtain ⟨_, h3, h4⟩ := bitLen_spec 64 x.toNat (by omega) (Nat.le_refl _)
  rcases h3 with h3 | h3
  · rw [h4 h3]; omega
  · rcases Nat.lt_or_ge 64 (Lib.bitLen x.toNat) with k | k
    · have := Nat.pow_le_pow_right (show 0 < 2 by omega) (show 64 ≤ Lib.bitLen x.toNat - 1 by omega)
      omega
    · exact k

/-- The row when j of s bytes are laid (the last one is not among them). -/
def varRow (x : Int) (s j : Nat) : Array Value := (((List.range j).map (fun i => 128 + x / 128 ^ i % 128) ++ List.replicate (s - j) 0).map (Value.int .u8)).toArray
theorem varRow_zero (x : Int) (s : Nat) : varRow x s 0 = madeCells #[.int .u8 0] s := by
  unfold varRow madeCells
  apply Array.ext
  · simp
  · intro i h1 h2
    simp [Nat.mod_one]
theorem varRow_at (x : Int) (s j : Nat) (h : j < s) : (varRow x s j)[j]? = some (.int .u8 0) := by
  have hl : (((List.range j).map (fun i => 128 + x / 128 ^ i % 128)).map (Value.int .u8)).length = j := by simp
  have hk : 0 < s - j := by omega
  unfold varRow
  rw [List.map_append, List.getElem?_toArray, List.getElem?_append_right (by omega), hl, Nat.sub_self]
  simp [hk]
theorem varRow_set (x : Int) (s j : Nat) (h : j < s) (b : Int) : (varRow x s j).setIfInBounds j (.int .u8 b) = (((List.range j).map (fun i => 128 + x / 128 ^ i % 128) ++ b :: List.replicate (s - (j + 1)) 0).map (Value.int .u8)).toArray := by
  unfold varRow
  rw [show s - j = (s - (j + 1)) + 1 by omega, List.replicate_succ]
  simp only [List.setIfInBounds_toArray, List.map_append, List.map_cons]
  congr 1
  rw [List.set_append_right _ _ (by simp)]
  simp
theorem varRow_next (x : Int) (s j : Nat) (h : j < s) : (varRow x s j).setIfInBounds j (.int .u8 (128 + x / 128 ^ j % 128)) = varRow x s (j + 1) := by
  rw [varRow_set x s j h, varRow, List.range_succ]
  simp
theorem varRow_last (x : Int) (s : Nat) (h : 1 ≤ s) : (varRow x s (s - 1)).setIfInBounds (s - 1) (.int .u8 (x / 128 ^ (s - 1))) = ((vzL s x).map (Value.int .u8)).toArray := by
  rw [varRow_set x s (s - 1) (by omega), vzL, show s - (s - 1 + 1) = 0 by omega]
  simp

theorem or_128' : ∀ n : Fin 256, bits BinOp.or IntKind.u8 (n.val : Int) 128 = 128 + (n.val : Int) % 128 := by decide +kernel
theorem or_128 (X : Int) (h0 : 0 ≤ X) : bits BinOp.or IntKind.u8 (X % 256) 128 = 128 + X % 128 := by
  have := or_128' ⟨(X % 256).toNat, by omega⟩
  simp only at this
  rw [Int.toNat_of_nonneg (by omega)] at this
  rw [this]; omega
theorem vz_last (x : Int) (h0 : 0 ≤ x) (h1 : x < 18446744073709551616) : 0 ≤ x / 128 ^ (vsz x - 1) ∧ x / 128 ^ (vsz x - 1) < 128 := by
  obtain ⟨h2, _⟩ := vsz_spec x h0 h1
  have hp := vsz_pos x
  obtain ⟨t, ht⟩ : ∃ t, vsz x = t + 1 := ⟨vsz x - 1, by omega⟩
  rw [ht] at h2 ⊢
  rw [Nat.add_sub_cancel]
  rw [Int.pow_succ] at h2
  have hP := pow128_pos t
  generalize (128 : Int) ^ t = P at *
  exact ⟨Int.ediv_nonneg h0 (by omega), Int.ediv_lt_of_lt_mul hP (by rw [Int.mul_comm]; exact h2)⟩

def VBytesPost (x : Int) (w : World) (e : Ending) (w' : World) : Prop :=
  ∃ g, e = .returned (.slice (some ⟨g, 0, none⟩) (vsz x) (vsz x)) ∧ w.heap.size ≤ g ∧ Below w.heap.size w w' ∧ Blk w' g ((vz x).map (Value.int .u8)).toArray 5

end Go.Proofs.Ytgdcbfekekefiaa.Cur

namespace Go.Proofs.Ytgdcbfekekefiaa.Cur
open Go.RowKit Mem
set_option linter.unusedVariables false

end Go.Proofs.Ytgdcbfekekefiaa.Cur

namespace Go.Proofs.Ytgdcbfekekefiaa.Cur
open Go.RowKit Mem
set_option linter.unusedVariables false

/-- A number at the front of bytes, from its byte i on: the number, how many bytes, the fault's code and place. -/
def vgo : List Int → Nat → Int → Int × Int × Int × Int
  | [], i, _ => (0, 0, 1, i)
  | b :: l, i, acc => if i = 9 ∧ 1 < b then (0, 0, 5, i) else if 0 < i ∧ b = 0 then (0, 0, 4, i) else if b < 128 then (acc + b * 128 ^ i, i + 1, 0, 0) else vgo l (i + 1) (acc + b % 128 * 128 ^ i)
def VgSt (n : Nat) (p q : Int) (g : Int × Int × Int × Int) (v p' c' q' : Int) : Prop :=
  (g.2.2.1 = 0 ∧ v = g.1 ∧ p' = p + g.2.1 ∧ c' = 0 ∧ q' = q) ∨
  (g.2.2.1 ≠ 0 ∧ v = 0 ∧ c' = g.2.2.1 ∧ q' = p + g.2.2.2 ∧ p' = if g.2.2.1 = 1 then (n : Int) else p + g.2.2.2 + 1)
/-- What Read does. -/
def RdSt (n : Nat) (z : List Int) (p c q v p' c' q' : Int) : Prop :=
  (c ≠ 0 ∧ v = 0 ∧ p' = p ∧ c' = c ∧ q' = q) ∨ (c = 0 ∧ VgSt n p q (vgo (z.drop p.toNat) 0 0) v p' c' q')
theorem RdSt.det {n : Nat} {z : List Int} {p c q v p' c' q' v2 p2 c2 q2 : Int} (h : RdSt n z p c q v p' c' q') (k : RdSt n z p c q v2 p2 c2 q2) : v = v2 ∧ p' = p2 ∧ c' = c2 ∧ q' = q2 := by
  rcases h with ⟨a0, a1, a2, a3, a4⟩ | ⟨a0, ⟨a1, a2, a3, a4, a5⟩ | ⟨a1, a2, a3, a4, a5⟩⟩ <;>
  rcases k with ⟨b0, b1, b2, b3, b4⟩ | ⟨b0, ⟨b1, b2, b3, b4, b5⟩ | ⟨b1, b2, b3, b4, b5⟩⟩ <;>
  first | exact absurd a0 b0 | exact absurd b0 a0 | exact absurd a1 b1 | exact absurd b1 a1 | exact ⟨by omega, by omega, by omega, by omega⟩ | exact ⟨by omega, a5.trans b5.symm, by omega, by omega⟩

theorem drop_cons {z : List Int} {n k : Nat} (hz : z.length = n) (hk : k < n) : z.drop k = z.getD k 0 :: z.drop (k + 1) := by
  rw [List.drop_eq_getElem_cons (by omega), List.getD_eq_getElem?_getD, List.getElem?_eq_getElem (by omega)]
  rfl
theorem vgo_nil (i : Nat) (X : Int) : vgo [] i X = (0, 0, 1, (i : Int)) := rfl
theorem vgo_over {b X : Int} {l : List Int} {i : Nat} (h : i = 9) (hb : 1 < b) : vgo (b :: l) i X = (0, 0, 5, (i : Int)) := by unfold vgo; rw [if_pos ⟨h, hb⟩]
theorem vgo_zero {b X : Int} {l : List Int} {i : Nat} (h : 0 < i) (hb : b = 0) : vgo (b :: l) i X = (0, 0, 4, (i : Int)) := by unfold vgo; rw [if_neg (by omega), if_pos ⟨h, hb⟩]
theorem vgo_done {b X : Int} {l : List Int} {i : Nat} (h : ¬ (i = 9 ∧ 1 < b)) (h' : ¬ (0 < i ∧ b = 0)) (hb : b < 128) : vgo (b :: l) i X = (X + b * 128 ^ i, (i : Int) + 1, 0, 0) := by unfold vgo; rw [if_neg h, if_neg h', if_pos hb]
theorem vgo_more {b X : Int} {l : List Int} {i : Nat} (h : ¬ (i = 9 ∧ 1 < b)) (hb : 128 ≤ b) : vgo (b :: l) i X = vgo l (i + 1) (X + b % 128 * 128 ^ i) := by
  rw [show vgo (b :: l) i X = _ from by unfold vgo; rw [if_neg h, if_neg (by omega), if_neg (by omega)]]

/-- The number with seven digits more. -/
def orv (i : Nat) (X bb : Int) : Int := bits BinOp.or IntKind.u64 X (IntKind.u64.wrap (IntKind.u64.wrap (bits BinOp.andNot IntKind.u8 bb 128) * 2 ^ (7 * i)))
theorem andNot_128' : ∀ n : Fin 256, bits BinOp.andNot IntKind.u8 (n.val : Int) 128 = (n.val : Int) % 128 := by decide +kernel
theorem andNot_128 (b : Int) (h0 : 0 ≤ b) (h1 : b < 256) : bits BinOp.andNot IntKind.u8 b 128 = b % 128 := by
  have := andNot_128' ⟨b.toNat, by omega⟩
  simp only at this
  rw [Int.toNat_of_nonneg h0] at this
  exact this
theorem wrap_u64 (x : Int) (h0 : 0 ≤ x) (h1 : x < 18446744073709551616) : IntKind.u64.wrap x = x := by
  have e : IntKind.u64.wrap x = x % 18446744073709551616 := by unfold IntKind.wrap; rfl
  rw [e]; exact Int.emod_eq_of_lt h0 h1
theorem pow7' (i : Nat) : (2 : Int) ^ (7 * i) = 128 ^ i := by
  rw [Int.pow_mul]; rfl
theorem orv_eq (i : Nat) (X bb : Int) (hi : i ≤ 9) (X0 : 0 ≤ X) (X1 : X < 128 ^ i) (b0 : 0 ≤ bb) (b1 : bb < 256) (h9 : i = 9 → bb ≤ 1) :
    orv i X bb = X + bb % 128 * 128 ^ i ∧ 0 ≤ orv i X bb ∧ orv i X bb < 18446744073709551616 := by
  have hm : bb % 128 * 128 ^ i ≤ 9223372036854775808 * 1 ∧ 0 ≤ bb % 128 * 128 ^ i := by
    have hp := pow128_pos i
    refine ⟨?_, Int.mul_nonneg (by omega) (by omega)⟩
    by_cases h : i = 9
    · have := h9 h
      subst h
      have : bb % 128 ≤ 1 := by omega
      omega
    · have h8 := pow128_mono (show i ≤ 8 by omega)
      have h2 : bb % 128 * 128 ^ i ≤ 127 * 128 ^ 8 := Int.mul_le_mul (by omega) h8 (by omega) (by omega)
      have : (127 : Int) * 128 ^ 8 ≤ 9223372036854775808 * 1 := by decide
      omega
  have hX : X < 9223372036854775808 := Int.lt_of_lt_of_le X1 (Int.le_trans (pow128_mono hi) (by decide))
  have key : orv i X bb = X + bb % 128 * 128 ^ i := by
    unfold orv
    rw [andNot_128 bb b0 b1, wrap_u64 (bb % 128) (by omega) (by omega), pow7', wrap_u64 _ hm.2 (by omega)]
    obtain ⟨x, rfl⟩ := Int.eq_ofNat_of_zero_le X0
    obtain ⟨y, hy⟩ := Int.eq_ofNat_of_zero_le (show 0 ≤ bb % 128 by omega)
    have e : bb % 128 * 128 ^ i = ((2 ^ (7 * i) * y : Nat) : Int) := by rw [hy, Int.mul_comm]; push_cast; rw [pow7']
    rw [e] at hm ⊢
    rw [u64_or_nat _ _ (by omega) (by omega), Nat.or_comm, ← Nat.two_pow_add_eq_or_of_lt]
    · push_cast; omega
    · have : ((x : Nat) : Int) < ((2 ^ (7 * i) : Nat) : Int) := by push_cast; rw [pow7']; exact X1
      exact_mod_cast this
  rw [key]
  exact ⟨rfl, by omega, by omega⟩
theorem orv_lt (i : Nat) (X bb : Int) (X0 : 0 ≤ X) (X1 : X < 128 ^ i) : X + bb % 128 * 128 ^ i < 128 ^ (i + 1) := by
  rw [Int.pow_succ, Int.mul_comm (128 ^ i) 128]
  have hp := pow128_pos i
  have h : bb % 128 * 128 ^ i ≤ 127 * 128 ^ i := Int.mul_le_mul_of_nonneg_right (by omega) (by omega)
  generalize bb % 128 * 128 ^ i = Q at *
  generalize (128 : Int) ^ i = P at *
  omega

theorem rd_fault {n i : Nat} {z : List Int} {p q k x : Int} (h : vgo (z.drop p.toNat) 0 0 = (x, 0, k, (i : Int))) (hk : k ≠ 0) (hk1 : k ≠ 1) {q' : Int} (hq : q' = p + i) : RdSt n z p 0 q 0 (p + i + 1) k q' :=
  .inr ⟨rfl, .inr (by rw [h]; exact ⟨hk, rfl, rfl, hq, by rw [if_neg hk1]⟩)⟩
theorem rd_short {n i : Nat} {z : List Int} {p q x : Int} (h : vgo (z.drop p.toNat) 0 0 = (x, 0, 1, (i : Int))) (hn : p + i = n) : RdSt n z p 0 q 0 (p + i) 1 n :=
  .inr ⟨rfl, .inr (by rw [h]; exact ⟨by simp, rfl, rfl, hn.symm, by simp; exact hn⟩)⟩
theorem rd_done {n i : Nat} {z : List Int} {p q x : Int} (h : vgo (z.drop p.toNat) 0 0 = (x, (i : Int) + 1, 0, 0)) : RdSt n z p 0 q x (p + i + 1) 0 q :=
  .inr ⟨rfl, .inl (by rw [h]; exact ⟨rfl, rfl, by show _ = p + ((i : Int) + 1); omega, rfl, rfl⟩)⟩

theorem jumps_skip {P : Program} {c rest : Code} {a : Act} {w : World} {Q : Exit → Act → World → Prop} (l : Nat) (J : Act → World → Prop) (μ : Act → World → Nat) (hf : findLabel c l = some (Code.skip.seq rest))
    (first : (∀ a w, J a w → rest.wp P (Exit.jump l J Q) a w) → c.wp P (Exit.jump l J Q) a w)
    (pass : ∀ a w, J a w → rest.wp P (Exit.jump l (fun a' w' => J a' w' ∧ μ a' w' < μ a w) Q) a w) : (Code.scope c).wp P Q a w :=
  wp_scope_jumps l J μ hf (first fun a w hJ => Code.wp_mono (fun e a' w' hh => by cases e <;> first | exact hh | exact ⟨hh.1, hh.2.1⟩) (pass a w hJ)) fun a w hJ => wp_seq (wp_skip (pass a w hJ))


end Go.Proofs.Ytgdcbfekekefiaa.Cur

namespace Go.Proofs.Ytgdcbfekekefiaa.Cur
open Go.RowKit Mem
set_option linter.unusedVariables false

/-- What ReadMost does. -/
def MostSt (n : Nat) (z : List Int) (p c q mo v p' c' q' : Int) : Prop :=
  ∃ v0 c0 q0, RdSt n z p c q v0 p' c0 q0 ∧ ((mo < v0 ∧ v = 0 ∧ FailSt c0 q0 2 p c' q') ∨ (v0 ≤ mo ∧ v = v0 ∧ c' = c0 ∧ q' = q0))
theorem MostSt.det {n : Nat} {z : List Int} {p c q mo v p' c' q' v2 p2 c2 q2 : Int} (h : MostSt n z p c q mo v p' c' q') (k : MostSt n z p c q mo v2 p2 c2 q2) : v = v2 ∧ p' = p2 ∧ c' = c2 ∧ q' = q2 := by
  obtain ⟨v0, c0, q0, hr, h⟩ := h
  obtain ⟨v1, c1, q1, kr, k⟩ := k
  obtain ⟨rfl, rfl, rfl, rfl⟩ := hr.det kr
  rcases h with ⟨h1, rfl, h2⟩ | ⟨h1, rfl, rfl, rfl⟩ <;> rcases k with ⟨k1, rfl, k2⟩ | ⟨k1, rfl, rfl, rfl⟩
  · obtain ⟨rfl, rfl⟩ := h2.det k2
    exact ⟨rfl, rfl, rfl, rfl⟩
  · omega
  · omega
  · exact ⟨rfl, rfl, rfl, rfl⟩
/-- What ReadInt does. -/
def IntSt (n : Nat) (z : List Int) (p c q mo v p' c' q' : Int) : Prop :=
  (0 ≤ mo ∧ MostSt n z p c q mo v p' c' q') ∨ (mo < 0 ∧ v = 0 ∧ ∃ v0 c0 q0, RdSt n z p c q v0 p' c0 q0 ∧ FailSt c0 q0 2 p c' q')
theorem IntSt.det {n : Nat} {z : List Int} {p c q mo v p' c' q' v2 p2 c2 q2 : Int} (h : IntSt n z p c q mo v p' c' q') (k : IntSt n z p c q mo v2 p2 c2 q2) : v = v2 ∧ p' = p2 ∧ c' = c2 ∧ q' = q2 := by
  rcases h with ⟨h0, h⟩ | ⟨h0, rfl, v0, c0, q0, hr, hf⟩ <;> rcases k with ⟨k0, k⟩ | ⟨k0, rfl, v1, c1, q1, kr, kf⟩
  · exact h.det k
  · omega
  · omega
  · obtain ⟨rfl, rfl, rfl, rfl⟩ := hr.det kr
    obtain ⟨rfl, rfl⟩ := hf.det kf
    exact ⟨rfl, rfl, rfl, rfl⟩
theorem vgo_nonneg (l : List Int) (hl : ∀ x ∈ l, 0 ≤ x ∧ x < 256) : ∀ (i : Nat) (X : Int), 0 ≤ X → 0 ≤ (vgo l i X).1 := by
  induction l with
  | nil => intro i X h; exact Int.le_refl _
  | cons b l ih =>
    intro i X h
    have hb := hl b (by simp)
    have hp := pow128_pos i
    unfold vgo
    split
    · exact Int.le_refl _
    · split
      · exact Int.le_refl _
      · split
        · have := Int.mul_nonneg hb.1 (Int.le_of_lt hp)
          show 0 ≤ X + b * 128 ^ i
          omega
        · have := Int.mul_nonneg (show 0 ≤ b % 128 by omega) (Int.le_of_lt hp)
          exact ih (fun x hx => hl x (by simp [hx])) _ _ (by omega)
theorem RdSt.nonneg {n : Nat} {z : List Int} {p c q v p' c' q' : Int} (h : RdSt n z p c q v p' c' q') (hby : ∀ x ∈ z, 0 ≤ x ∧ x < 256) : 0 ≤ v := by
  rcases h with ⟨_, h, _⟩ | ⟨_, ⟨_, h, _⟩ | ⟨_, h, _⟩⟩
  · omega
  · rw [h]; exact vgo_nonneg _ (fun x hx => hby x (List.mem_of_mem_drop hx)) _ _ (Int.le_refl _)
  · omega
theorem MostSt.bd {n : Nat} {z : List Int} {p c q mo v p' c' q' : Int} (h : MostSt n z p c q mo v p' c' q') (hm : 0 ≤ mo) (hby : ∀ x ∈ z, 0 ≤ x ∧ x < 256) : 0 ≤ v ∧ v ≤ mo := by
  obtain ⟨v0, c0, q0, hr, h⟩ := h
  have := hr.nonneg hby
  rcases h with ⟨_, rfl, _⟩ | ⟨_, rfl, _⟩ <;> omega
theorem FailSt.again {c q c' p c2 q2 c3 q3 : Int} (h : FailSt c q c' p c2 q2) (hc : c' ≠ 0) (k : FailSt c2 q2 c' p c3 q3) : FailSt c q c' p c3 q3 := by
  rcases h with ⟨h1, rfl, rfl⟩ | ⟨h1, rfl, rfl⟩
  · rcases k with ⟨k1, _⟩ | ⟨_, rfl, rfl⟩
    · exact absurd k1 hc
    · exact .inl ⟨h1, rfl, rfl⟩
  · rcases k with ⟨k1, _⟩ | ⟨_, rfl, rfl⟩
    · exact absurd k1 h1
    · exact .inr ⟨h1, rfl, rfl⟩

/-- The number at the front of bytes: where there is a fault there is no number, and the other way round. -/
theorem vgo_shape (l : List Int) : ∀ (i : Nat) (X : Int), ((vgo l i X).2.2.1 ≠ 0 → (vgo l i X).1 = 0 ∧ (vgo l i X).2.1 = 0) ∧ ((vgo l i X).2.2.1 = 0 → (vgo l i X).2.2.2 = 0) := by
  induction l with
  | nil => intro i X; exact ⟨fun _ => ⟨rfl, rfl⟩, fun h => absurd h (by show (1 : Int) ≠ 0; omega)⟩
  | cons b l ih =>
    intro i X
    unfold vgo
    split
    · exact ⟨fun _ => ⟨rfl, rfl⟩, fun h => absurd h (by show (5 : Int) ≠ 0; omega)⟩
    · split
      · exact ⟨fun _ => ⟨rfl, rfl⟩, fun h => absurd h (by show (4 : Int) ≠ 0; omega)⟩
      · split
        · exact ⟨fun h => absurd rfl h, fun _ => rfl⟩
        · exact ih _ _
/-- What Get tells. -/
abbrev gv (g : Int × Int × Int × Int) : Value := .tuple #[.int .u64 g.1, .int .i64 g.2.1, .agg #[.int .i64 g.2.2.1, .int .i64 g.2.2.2]]

end Go.Proofs.Ytgdcbfekekefiaa.Cur

namespace Go.Proofs.Ytgdcbfekekefiaa.Cur
open Go.RowKit Mem
set_option linter.unusedVariables false

/-- The number that the first k bytes make. -/
def acc (z : List Int) : Nat → Int
  | 0 => 0
  | k + 1 => acc z k + z.getD k 0 % 128 * 128 ^ k
theorem acc_bd (z : List Int) (k : Nat) : 0 ≤ acc z k ∧ acc z k < 128 ^ k := by
  induction k with
  | zero => exact ⟨Int.le_refl _, by show (0 : Int) < 1; omega⟩
  | succ k ih =>
    have hp := pow128_pos k
    have h := orv_lt k (acc z k) (z.getD k 0) ih.1 ih.2
    have := Int.mul_nonneg (show 0 ≤ z.getD k 0 % 128 by omega) (Int.le_of_lt hp)
    exact ⟨by unfold acc; omega, h⟩
theorem acc_digit (z : List Int) (j : Nat) : ∀ d, ∃ S : Int, acc z (j + 1 + d) = acc z j + 128 ^ j * S ∧ S % 128 = z.getD j 0 % 128 := by
  intro d
  induction d with
  | zero => exact ⟨z.getD j 0 % 128, by show acc z j + _ = _; rw [Int.mul_comm], by omega⟩
  | succ d ih =>
    obtain ⟨S, h1, h2⟩ := ih
    refine ⟨S + 128 * (128 ^ d * (z.getD (j + 1 + d) 0 % 128)), ?_, by omega⟩
    show acc z (j + 1 + d) + z.getD (j + 1 + d) 0 % 128 * 128 ^ (j + 1 + d) = _
    rw [h1, Int.pow_add, Int.pow_add, Int.mul_add, Int.add_assoc]
    congr 2
    simp only [Int.pow_one]
    generalize z.getD (j + 1 + d) 0 % 128 = y
    generalize (128 : Int) ^ j = P
    generalize (128 : Int) ^ d = R
    rw [Int.mul_comm y, Int.mul_assoc, Int.mul_assoc, ← Int.mul_assoc 128 R y, Int.mul_assoc 128 R y]
theorem acc_div (z : List Int) (k j : Nat) (h : j < k) : acc z k / 128 ^ j = 128 * (acc z k / 128 ^ (j + 1)) + z.getD j 0 % 128 := by
  obtain ⟨S, h1, h2⟩ := acc_digit z j (k - j - 1)
  rw [show j + 1 + (k - j - 1) = k by omega] at h1
  obtain ⟨b0, b1⟩ := acc_bd z j
  have hp := pow128_pos j
  have e : acc z k / 128 ^ j = S := by
    rw [h1, Int.add_comm, Int.mul_comm, Int.add_comm, Int.add_mul_ediv_right _ _ (by omega), Int.ediv_eq_zero_of_lt b0 b1]; omega
  rw [← div128', e, ← h2]; omega
theorem acc_top (z : List Int) (k : Nat) : acc z k / 128 ^ k = 0 := Int.ediv_eq_zero_of_lt (acc_bd z k).1 (acc_bd z k).2
theorem acc_64 (z : List Int) (k : Nat) (hk : k ≤ 9) (h : k = 9 → z.getD 9 0 % 128 ≤ 1) : acc z (k + 1) < 18446744073709551616 := by
  rcases Nat.lt_or_ge k 9 with h1 | h1
  · exact Int.lt_of_lt_of_le (acc_bd z (k + 1)).2 (Int.le_trans (pow128_mono (show k + 1 ≤ 9 by omega)) (by decide))
  · obtain rfl : k = 9 := by omega
    have := h rfl
    obtain ⟨b0, b1⟩ := acc_bd z 9
    show acc z 9 + z.getD 9 0 % 128 * 128 ^ 9 < _
    have e : (128 : Int) ^ 9 = 9223372036854775808 := by decide
    rw [e] at b1 ⊢
    omega

theorem vgo_at {z : List Int} {n k : Nat} (hz : z.length = n) (hk : k < n) (i : Nat) (X : Int) : vgo (z.drop k) i X = vgo (z.getD k 0 :: z.drop (k + 1)) i X := by rw [drop_cons hz hk]



end Go.Proofs.Ytgdcbfekekefiaa.Cur

namespace Go.Proofs.Ytgdcbfekekefiaa.Cur
open Go.RowKit Mem
set_option linter.unusedVariables false

theorem slice_l {w : World} {A : Option Addr} {n : Nat} {z : List Int} (hz : Bs w A n z) (m : Nat) (l : Int) (h0 : 0 ≤ l) (h1 : l ≤ n) (hm : n ≤ m) :
    ∃ A' M, (∀ w', (Instr.slice 29 (.slice A n m) (some (.int .i64 l)) none none).run Try.prog w' = .ok (.slice A' (n - l).toNat M) w') ∧ Bs w A' (n - l).toNat (z.drop l.toNat) ∧ (n - l).toNat ≤ M := by
  have hs : ∀ w', (sizeOf 5).run Try.prog w' = .ok 1 w' := fun w' => by kernel_rfl
  have he : Try.prog.elem 29 = 5 := by kernel_rfl
  refine ⟨if m = l.toNat then A else A.map (·.add (l.toNat * 1)), m - l.toNat, fun w' => ?_, ?_, by omega⟩
  · have := run_slice_l (P := Try.prog) (w := w') 29 A n m (by rw [he]; exact Try.underlying29) .i64 l h0 h1
    rw [this, he, hs]
    simp [Result.andThen, sliced]
    omega
  · have := hz.sub m l.toNat n (by omega) (Nat.le_refl _) hm
    rw [show (n - l).toNat = n - l.toNat by omega]
    have e : piece z l.toNat n = z.drop l.toNat := by unfold piece; exact List.take_of_length_le (by rw [List.length_drop, hz.1]; exact Nat.le_refl _)
    rw [← e]
    exact this

def RRdPost (s : Value) (n : Nat) (z : List Int) (p c q : Int) (w : World) (e : Ending) (w' : World) : Prop :=
  ∃ v p' c' q', e = .returned (.tuple #[cv s p' c' q', .int .u64 v]) ∧ Below w.heap.size w w' ∧ RdSt n z p c q v p' c' q'

theorem four_new {w w1 : World} {cs ds : Array Value} {t u : Nat} (hb : Below ((w.alloc (.cells cs t)).alloc (.cells ds u)).heap.size ((w.alloc (.cells cs t)).alloc (.cells ds u)) w1) :
    Blk w1 w.heap.size cs t ∧ Blk w1 (w.heap.size + 1) ds u ∧ Below w.heap.size w w1 := two_new hb

/-- Where the faults of Get lie: within the bytes. -/
theorem vgo_place (l : List Int) : ∀ (i : Nat) (X : Int), 0 ≤ (vgo l i X).2.1 ∧ (vgo l i X).2.1 ≤ i + l.length ∧ 0 ≤ (vgo l i X).2.2.2 ∧ (vgo l i X).2.2.2 ≤ i + l.length ∧ ((vgo l i X).2.2.1 = 1 → (vgo l i X).2.2.2 = i + l.length) := by
  induction l with
  | nil => intro i X; exact ⟨Int.le_refl _, by show (0 : Int) ≤ i + _; omega, by show 0 ≤ (i : Int); omega, by show (i : Int) ≤ i + _; omega, fun _ => by show (i : Int) = i + 0; omega⟩
  | cons b l ih =>
    intro i X
    unfold vgo
    rw [List.length_cons]
    split
    · refine ⟨Int.le_refl _, by show (0 : Int) ≤ _; omega, by show 0 ≤ (i : Int); omega, by show (i : Int) ≤ _; omega, fun h => by exact absurd h (by show (5 : Int) ≠ 1; omega)⟩
    · split
      · refine ⟨Int.le_refl _, by show (0 : Int) ≤ _; omega, by show 0 ≤ (i : Int); omega, by show (i : Int) ≤ _; omega, fun h => by exact absurd h (by show (4 : Int) ≠ 1; omega)⟩
      · split
        · refine ⟨by show 0 ≤ (i : Int) + 1; omega, by show (i : Int) + 1 ≤ _; omega, Int.le_refl _, by show (0 : Int) ≤ _; omega, fun h => by exact absurd h (by show (0 : Int) ≠ 1; omega)⟩
        · obtain ⟨h1, h2, h3, h4, h5⟩ := ih (i + 1) (X + b % 128 * 128 ^ i)
          refine ⟨h1, by omega, h3, by omega, fun h => by have := h5 h; omega⟩

end Go.Proofs.Ytgdcbfekekefiaa.Cur

namespace Go.Proofs.Ytgdcbfekekefiaa.Cur
open Go.RowKit Mem
set_option linter.unusedVariables false

def RMostPost (s : Value) (n : Nat) (z : List Int) (p c q mo : Int) (w : World) (e : Ending) (w' : World) : Prop :=
  ∃ v p' c' q', e = .returned (.tuple #[cv s p' c' q', .int .u64 v]) ∧ Below w.heap.size w w' ∧ MostSt n z p c q mo v p' c' q'

def RIntPost (s : Value) (n : Nat) (z : List Int) (p c q mo : Int) (w : World) (e : Ending) (w' : World) : Prop :=
  ∃ v p' c' q', e = .returned (.tuple #[cv s p' c' q', .int .i64 v]) ∧ Below w.heap.size w w' ∧ IntSt n z p c q mo v p' c' q'

end Go.Proofs.Ytgdcbfekekefiaa.Cur

namespace Go.Proofs.Ytgdcbfekekefiaa.Cur
open Go.RowKit Mem
set_option linter.unusedVariables false

theorem p9 : (128 : Int) ^ 9 = 9223372036854775808 := by decide
/-- What is read is put so again. -/
theorem vgo_once (l : List Int) : ∀ (i : Nat) (X : Int), (∀ x ∈ l, 0 ≤ x ∧ x < 256) → i ≤ 9 → (vgo l i X).2.2.1 = 0 →
    ∃ (y : Int) (j : Nat), 1 ≤ j ∧ j ≤ l.length ∧ (vgo l i X).2.1 = i + j ∧ (vgo l i X).1 = X + y * 128 ^ i ∧ 0 ≤ y ∧ (y + 1) * 128 ^ i ≤ 18446744073709551616 ∧ vz y = l.take j ∧ (0 < i → y ≠ 0) := by
  induction l with
  | nil => intro i X _ _ h; exact absurd h (by show (1 : Int) ≠ 0; omega)
  | cons b l ih =>
    intro i X hl hi h
    have hb := hl b (by simp)
    by_cases h1 : i = 9 ∧ 1 < b
    · rw [vgo_over h1.1 h1.2] at h; exact absurd h (by show (5 : Int) ≠ 0; omega)
    · by_cases h2 : 0 < i ∧ b = 0
      · rw [vgo_zero h2.1 h2.2] at h; exact absurd h (by show (4 : Int) ≠ 0; omega)
      · by_cases h3 : b < 128
        · rw [vgo_done h1 h2 h3] at h ⊢
          refine ⟨b, 1, Nat.le_refl _, by simp, by show (i : Int) + 1 = i + (1 : Nat); omega, rfl, hb.1, ?_, by rw [vz_lt b h3]; simp, fun h hb0 => h2 ⟨h, hb0⟩⟩
          rcases Nat.lt_or_ge i 9 with k | k
          · have e8 : (128 : Int) ^ 8 = 72057594037927936 := by decide
            have := pow128_mono (show i ≤ 8 by omega)
            have hp := pow128_pos i
            have : (b + 1) * 128 ^ i ≤ 128 * 128 ^ i := Int.mul_le_mul_of_nonneg_right (by omega) (by omega)
            omega
          · obtain rfl : i = 9 := by omega
            rw [p9]; omega
        · have hm := vgo_more (X := X) (l := l) h1 (show 128 ≤ b by omega)
          rw [hm] at h ⊢
          have hi9 : i ≠ 9 := fun e => h1 ⟨e, by omega⟩
          obtain ⟨y, j, j1, j2, e1, e2, y0, y1, e3, e4⟩ := ih (i + 1) (X + b % 128 * 128 ^ i) (fun x hx => hl x (by simp [hx])) (by omega) h
          have y2 := e4 (by omega)
          have hp := pow128_pos i
          rw [Int.pow_succ, ← Int.mul_assoc, Int.mul_right_comm] at y1
          have hle : (b % 128 + 128 * y + 1) * 128 ^ i ≤ (y + 1) * 128 * 128 ^ i := Int.mul_le_mul_of_nonneg_right (by omega) (by omega)
          have hlt : b % 128 + 128 * y + 1 ≤ 18446744073709551616 := by
            have : (b % 128 + 128 * y + 1) * 1 ≤ (b % 128 + 128 * y + 1) * 128 ^ i := Int.mul_le_mul_of_nonneg_left (by omega) (by omega)
            omega
          refine ⟨b % 128 + 128 * y, j + 1, by omega, by simp; omega, by rw [e1]; push_cast; omega, ?_, by omega, by omega, ?_, fun _ => by omega⟩
          · rw [e2, Int.pow_succ, Int.add_mul, Int.mul_comm (128 ^ i) 128, ← Int.mul_assoc, Int.mul_comm y 128, Int.add_assoc]
          · rw [vz_ge _ (by omega) (by omega), List.take_succ_cons, show (b % 128 + 128 * y) / 128 = y by omega, e3, show 128 + (b % 128 + 128 * y) % 128 = b by omega]

/-- What is put is read, whatever stands behind. -/
theorem vgo_back (l : List Int) (k : Nat) : ∀ (y : Int) (i : Nat) (X : Int), vsz y ≤ k → 0 ≤ y → y < 18446744073709551616 → i ≤ 9 → y * 128 ^ i < 18446744073709551616 → (0 < i → y ≠ 0) →
    vgo (vz y ++ l) i X = (X + y * 128 ^ i, (i : Int) + vsz y, 0, 0) := by
  induction k with
  | zero => intro y i X h; have := vsz_pos y; omega
  | succ k ih =>
    intro y i X hk y0 y1 hi hy hz
    by_cases hlt : y < 128
    · have hs : vsz y = 1 := by unfold vsz vszF; rw [if_pos hlt]
      rw [vz_lt y hlt, hs, List.singleton_append, vgo_done (fun h => ?_) (fun h => hz h.1 h.2) hlt]
      · rfl
      · rw [h.1, p9] at hy; omega
    · have hs := vsz_div y (by omega) y1
      have hi9 : i ≠ 9 := fun e => by rw [e, p9] at hy; omega
      rw [vz_ge y (by omega) y1, List.cons_append, vgo_more (fun h => hi9 h.1) (by omega)]
      have hp := pow128_pos i
      have hle : y / 128 * 128 * 128 ^ i ≤ y * 128 ^ i := Int.mul_le_mul_of_nonneg_right (by omega) (by omega)
      have he : y / 128 * 128 ^ (i + 1) = y / 128 * 128 * 128 ^ i := by rw [Int.pow_succ, Int.mul_comm (128 ^ i) 128, Int.mul_assoc]
      rw [ih (y / 128) (i + 1) _ (by omega) (by omega) (by omega) (by omega) (by omega) (fun _ => by omega)]
      rw [he, hs, show (128 + y % 128) % 128 = y % 128 by omega, Int.add_assoc, ← Int.add_mul, show y % 128 + y / 128 * 128 = y by omega]
      congr 2
      push_cast; omega
theorem vgo_put (x : Int) (l : List Int) (h0 : 0 ≤ x) (h1 : x < 18446744073709551616) : vgo (vz x ++ l) 0 0 = (x, (vsz x : Int), 0, 0) := by
  rw [vgo_back l (vsz x) x 0 0 (Nat.le_refl _) h0 h1 (by omega) (by simpa using h1) (fun h => absurd h (by omega))]
  simp

end Go.Proofs.Ytgdcbfekekefiaa.Cur
