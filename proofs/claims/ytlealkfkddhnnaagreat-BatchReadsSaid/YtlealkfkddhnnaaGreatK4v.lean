/- As the seat's text, without what nothing here names. -/
import Derived.Lib.BitFns
import Derived.Test.YtlealkfkddhnnaaGreatK3v
import Derived.Test.YtlealkfkddhnnaaGreatK1v
import Derived.Test.YtlealkfkddhnnaaGreatShelfv
import Derived.Outline
import Derived.Test.YtlealkfkddhnnaaGreatK2v
import Derived.WalkMore
import Derived.ScopeJumps
import Derived.Laws.BitsAllLaws
import Derived.IntWalk
import Derived.Deep.LoopGhost
namespace Go.Proofs.YtlealkfkddhnnaaGreat.Cur
set_option linter.unusedVariables false
def vszF : Nat → Int → Nat
  | 0, _ => 1
  | k + 1, x => if x < 128 then 1 else 1 + vszF k (x / 128)
def vsz (x : Int) : Nat := vszF 9 x
def vzL (s : Nat) (x : Int) : List Int := (List.range (s - 1)).map (fun i => 128 + x / 128 ^ i % 128) ++ [x / 128 ^ (s - 1)]
def vz (x : Int) : List Int := vzL (vsz x) x
theorem vszF_pos (k : Nat) (x : Int) : 1 ≤ vszF k x := by
  cases k with
  | zero => exact Nat.le_refl _
  | succ k => unfold vszF; split <;> omega
theorem vszF_le (k : Nat) (x : Int) : vszF k x ≤ k + 1 := by
  induction k generalizing x with
  | zero => exact Nat.le_refl _
  | succ k ih => unfold vszF; split; omega; have := ih (x / 128); omega
theorem vsz_pos (x : Int) : 1 ≤ vsz x := vszF_pos 9 x
theorem vsz_le (x : Int) : vsz x ≤ 10 := vszF_le 9 x
theorem vzL_length (s : Nat) (x : Int) (h : 1 ≤ s) : (vzL s x).length = s := by simp [vzL]; omega
theorem vz_length (x : Int) : (vz x).length = vsz x := vzL_length _ _ (vsz_pos x)
theorem pow128_pos (s : Nat) : (0 : Int) < 128 ^ s := Int.pow_pos (by omega)
theorem div128 (x : Int) (s : Nat) : x / 128 / 128 ^ s = x / 128 ^ (s + 1) := by
  rw [Int.ediv_ediv_of_nonneg (by omega), Int.pow_succ, Int.mul_comm]
theorem div128' (x : Int) (s : Nat) : x / 128 ^ s / 128 = x / 128 ^ (s + 1) := by
  rw [Int.ediv_ediv_of_nonneg (Int.le_of_lt (pow128_pos s)), Int.pow_succ]
theorem vszF_spec (k : Nat) (x : Int) (h0 : 0 ≤ x) (h : x < 128 ^ (k + 1)) : x < 128 ^ vszF k x ∧ (vszF k x = 1 ∨ 128 ^ (vszF k x - 1) ≤ x) := by
  induction k generalizing x with
  | zero => exact ⟨by simpa [vszF] using h, .inl rfl⟩
  | succ k ih =>
    unfold vszF
    split
    · rename_i hx; exact ⟨by simpa using hx, .inl rfl⟩
    · rename_i hx
      obtain ⟨h1, h2⟩ := ih (x / 128) (by omega) (by rw [Int.pow_succ] at h; generalize (128 : Int) ^ (k + 1) = P at *; omega)
      have hp := vszF_pos k (x / 128)
      generalize vszF k (x / 128) = s at *
      obtain ⟨t, rfl⟩ : ∃ t, s = t + 1 := ⟨s - 1, by omega⟩
      refine ⟨?_, .inr ?_⟩
      · rw [show 1 + (t + 1) = (t + 1) + 1 by omega, Int.pow_succ]
        generalize (128 : Int) ^ (t + 1) = P at *
        omega
      · rw [show 1 + (t + 1) - 1 = t + 1 by omega, Int.pow_succ]
        rcases h2 with h2 | h2
        · obtain rfl : t = 0 := by omega
          simp; omega
        · rw [show t + 1 - 1 = t by omega] at h2
          generalize (128 : Int) ^ t = P at *
          omega
theorem two64 : (18446744073709551616 : Int) ≤ 128 ^ 10 := by decide
theorem vsz_spec (x : Int) (h0 : 0 ≤ x) (h1 : x < 18446744073709551616) : x < 128 ^ vsz x ∧ (vsz x = 1 ∨ 128 ^ (vsz x - 1) ≤ x) :=
  vszF_spec 9 x h0 (Int.lt_of_lt_of_le h1 two64)
theorem pow128_mono {a b : Nat} (h : a ≤ b) : (128 : Int) ^ a ≤ 128 ^ b := by
  induction b with
  | zero => obtain rfl : a = 0 := by omega
            exact Int.le_refl _
  | succ b ih =>
    rcases Nat.lt_or_ge b a with h1 | h1
    · obtain rfl : a = b + 1 := by omega
      exact Int.le_refl _
    · have := ih h1
      have := pow128_pos b
      rw [Int.pow_succ]; omega
theorem vsz_unique {x : Int} {s : Nat} (h0 : 0 ≤ x) (h1 : x < 18446744073709551616) (hs : 1 ≤ s) (ha : x < 128 ^ s) (hb : s = 1 ∨ 128 ^ (s - 1) ≤ x) : vsz x = s := by
  obtain ⟨h2, h3⟩ := vsz_spec x h0 h1
  have hp := vsz_pos x
  generalize vsz x = t at *
  rcases Nat.lt_trichotomy t s with h | h | h
  · have := pow128_mono (show t ≤ s - 1 by omega)
    rcases hb with hb | hb <;> omega
  · exact h
  · have := pow128_mono (show s ≤ t - 1 by omega)
    rcases h3 with h3 | h3 <;> omega
theorem vz_lt (x : Int) (h : x < 128) : vz x = [x] := by
  have : vsz x = 1 := by unfold vsz vszF; rw [if_pos h]
  unfold vz; rw [this]; simp [vzL]
theorem vsz_div (x : Int) (h : 128 ≤ x) (h1 : x < 18446744073709551616) : vsz x = vsz (x / 128) + 1 := by
  obtain ⟨h2, h3⟩ := vsz_spec (x / 128) (by omega) (by omega)
  have hp := vsz_pos (x / 128)
  refine vsz_unique (by omega) h1 (by omega) ?_ (.inr ?_)
  · rw [Int.pow_succ]; generalize (128 : Int) ^ vsz (x / 128) = P at *; omega
  · rw [Nat.add_sub_cancel]
    obtain ⟨t, ht⟩ : ∃ t, vsz (x / 128) = t + 1 := ⟨vsz (x / 128) - 1, by omega⟩
    rw [ht] at h3 ⊢
    rw [Int.pow_succ]
    rcases h3 with h3 | h3
    · obtain rfl : t = 0 := by omega
      simp; omega
    · rw [Nat.add_sub_cancel] at h3
      generalize (128 : Int) ^ t = P at *
      omega
theorem vz_ge (x : Int) (h : 128 ≤ x) (h1 : x < 18446744073709551616) : vz x = (128 + x % 128) :: vz (x / 128) := by
  have hp := vsz_pos (x / 128)
  unfold vz
  rw [vsz_div x h h1]
  obtain ⟨t, ht⟩ : ∃ t, vsz (x / 128) = t + 1 := ⟨vsz (x / 128) - 1, by omega⟩
  rw [ht]
  unfold vzL
  rw [Nat.add_sub_cancel, Nat.add_sub_cancel, List.range_succ_eq_map, div128]
  simp [Function.comp_def, div128]
theorem vz_byte (x : Int) (h0 : 0 ≤ x) (h1 : x < 18446744073709551616) : ∀ b ∈ vz x, 0 ≤ b ∧ b < 256 := by
  obtain ⟨h2, _⟩ := vsz_spec x h0 h1
  intro b hb
  simp only [vz, vzL, List.mem_append, List.mem_map, List.mem_singleton] at hb
  rcases hb with ⟨i, _, rfl⟩ | rfl
  · have := Int.emod_nonneg (x / 128 ^ i) (show (128 : Int) ≠ 0 by omega)
    have := Int.emod_lt_of_pos (x / 128 ^ i) (show (0 : Int) < 128 by omega)
    omega
  · have hp := vsz_pos x
    obtain ⟨t, ht⟩ : ∃ t, vsz x = t + 1 := ⟨vsz x - 1, by omega⟩
    rw [ht] at h2 ⊢
    rw [Nat.add_sub_cancel]
    rw [Int.pow_succ] at h2
    have hP := pow128_pos t
    generalize (128 : Int) ^ t = P at *
    refine ⟨Int.ediv_nonneg h0 (by omega), ?_⟩
    have : x / P < 128 := Int.ediv_lt_of_lt_mul hP (by rw [Int.mul_comm]; exact h2)
    omega
theorem bitLen_spec : ∀ (k x : Nat), x < 2 ^ k → k ≤ 64 → x < 2 ^ Lib.bitLen x ∧ (x = 0 ∨ 2 ^ (Lib.bitLen x - 1) ≤ x) ∧ (x = 0 → Lib.bitLen x = 0) := by
  intro k
  induction k with
  | zero => intro x hx _; obtain rfl : x = 0 := by simpa using hx
            exact ⟨by decide, .inl rfl, fun _ => by decide⟩
  | succ k ih =>
    intro x hx hk
    by_cases h0 : x = 0
    · subst h0; exact ⟨by decide, .inl rfl, fun _ => by decide⟩
    · have hlt : x < 2 ^ 64 := Nat.lt_of_lt_of_le hx (Nat.pow_le_pow_right (by omega) hk)
      rw [Lib.bitLen_half x h0 hlt]
      obtain ⟨h1, h2, h3⟩ := ih (x / 2) (by rw [Nat.pow_succ] at hx; omega) (by omega)
      generalize hl : Lib.bitLen (x / 2) = l at *
      refine ⟨?_, .inr ?_, fun h => absurd h h0⟩
      · rw [show 1 + l = l + 1 by omega, Nat.pow_succ]; omega
      · rw [show 1 + l - 1 = l by omega]
        rcases h2 with h2 | h2
        · rw [h3 h2]; simp; omega
        · rcases Nat.eq_zero_or_pos l with e | e
          · subst e; simp; omega
          · obtain ⟨t, rfl⟩ : ∃ t, l = t + 1 := ⟨l - 1, by omega⟩
            rw [Nat.add_sub_cancel] at h2
            rw [Nat.pow_succ]; omega
theorem pow7 (s : Nat) : (2 : Nat) ^ (7 * s) = 128 ^ s := by rw [Nat.pow_mul]
theorem vsz_bits (x : Int) (h0 : 0 ≤ x) (h1 : x < 18446744073709551616) : (vsz x : Int) = (if 1 < ((Lib.bitLen x.toNat : Int) + 7 - 1) / 7 then ((Lib.bitLen x.toNat : Int) + 7 - 1) / 7 else 1) := by
  obtain ⟨n, rfl⟩ := Int.eq_ofNat_of_zero_le h0
  rw [Int.toNat_natCast]
  obtain ⟨h2, h3, h4⟩ := bitLen_spec 64 n (by omega) (Nat.le_refl _)
  generalize Lib.bitLen n = l at *
  rcases Nat.eq_zero_or_pos n with e | e
  · subst e
    rw [h4 rfl]
    rfl
  · have h3' : 2 ^ (l - 1) ≤ n := by rcases h3 with h3 | h3 <;> omega
    have hl : 1 ≤ l := by
      rcases Nat.eq_zero_or_pos l with e | e
      · subst e; simp at h2; omega
      · exact e
    have hs : vsz (n : Int) = (l + 6) / 7 := by
      refine vsz_unique h0 h1 (by omega) ?_ ?_
      · have : 2 ^ l ≤ 2 ^ (7 * ((l + 6) / 7)) := Nat.pow_le_pow_right (by omega) (by omega)
        rw [pow7] at this
        have h : n < 128 ^ ((l + 6) / 7) := by omega
        exact_mod_cast h
      · rcases Nat.lt_or_ge 7 l with k | k
        · right
          have : 2 ^ (7 * ((l + 6) / 7 - 1)) ≤ 2 ^ (l - 1) := Nat.pow_le_pow_right (by omega) (by omega)
          rw [pow7] at this
          have h : 128 ^ ((l + 6) / 7 - 1) ≤ n := by omega
          exact_mod_cast h
        · left; omega
    rw [hs]
    split <;> omega
end Go.Proofs.YtlealkfkddhnnaaGreat.Cur
namespace Go.Proofs.YtlealkfkddhnnaaGreat.Cur
open Go.RowKit Mem
set_option linter.unusedVariables false
theorem bitLen_64 (x : Int) (h0 : 0 ≤ x) (h1 : x < 18446744073709551616) : Lib.bitLen x.toNat ≤ 64 := by
  obtain ⟨_, h3, h4⟩ := bitLen_spec 64 x.toNat (by omega) (Nat.le_refl _)
  rcases h3 with h3 | h3
  · rw [h4 h3]; omega
  · rcases Nat.lt_or_ge 64 (Lib.bitLen x.toNat) with k | k
    · have := Nat.pow_le_pow_right (show 0 < 2 by omega) (show 64 ≤ Lib.bitLen x.toNat - 1 by omega)
      omega
    · exact k
set_option maxHeartbeats 400000 in
theorem vsize_any (x : Int) (w : World) (h0 : 0 ≤ x) (h1 : x < 18446744073709551616) :
    Calls Tryz.prog 107 #[.int .u64 x] w fun e w' => e = .returned (.int .i64 (vsz x)) ∧ w = w' := by
  have hb := vsz_bits x h0 h1
  have hl := bitLen_64 x h0 h1
  have hc := fun w => Tryz.bits_Len64 x w h0 (by omega)
  have hm : max 1 (((Lib.bitLen x.toNat : Int) + 7 - 1) / 7) = (vsz x : Int) := by rw [hb]; split <;> omega
  clear hb
  generalize Lib.bitLen x.toNat = l at *
  clear h0 h1
  have l0 : (0 : Int) ≤ l := by omega
  have l1 : (l : Int) ≤ 64 := by omega
  have HM := Lib.hid hm
  clear hm
  go_enter Tryz.func107, Tryz.ntmps107
  go_wp2_with (go_at_call 138; refine (hc _).mono ?_; rintro e w1 ⟨rfl, rfl⟩)
  go_ret
  exact ⟨by rw [← HM.out]; rfl, rfl⟩
def varRow (x : Int) (s j : Nat) : Array Value := (((List.range j).map (fun i => 128 + x / 128 ^ i % 128) ++ List.replicate (s - j) 0).map (Value.int .u8)).toArray
theorem varRow_zero (x : Int) (s : Nat) : varRow x s 0 = madeCells #[.int .u8 0] s := by
  unfold varRow madeCells
  apply Array.ext
  · simp
  · intro i h1 h2
    simp [Nat.mod_one]
theorem varRow_at (x : Int) (s j : Nat) (h : j < s) : (varRow x s j)[j]? = some (.int .u8 0) := by
  have hl : (((List.range j).map (fun i => 128 + x / 128 ^ i % 128)).map (Value.int .u8)).length = j := by simp
  have hk : 0 < s - j := by omega
  unfold varRow
  rw [List.map_append, List.getElem?_toArray, List.getElem?_append_right (by omega), hl, Nat.sub_self]
  simp [hk]
theorem varRow_set (x : Int) (s j : Nat) (h : j < s) (b : Int) : (varRow x s j).setIfInBounds j (.int .u8 b) = (((List.range j).map (fun i => 128 + x / 128 ^ i % 128) ++ b :: List.replicate (s - (j + 1)) 0).map (Value.int .u8)).toArray := by
  unfold varRow
  rw [show s - j = (s - (j + 1)) + 1 by omega, List.replicate_succ]
  simp only [List.setIfInBounds_toArray, List.map_append, List.map_cons]
  congr 1
  rw [List.set_append_right _ _ (by simp)]
  simp
theorem varRow_next (x : Int) (s j : Nat) (h : j < s) : (varRow x s j).setIfInBounds j (.int .u8 (128 + x / 128 ^ j % 128)) = varRow x s (j + 1) := by
  rw [varRow_set x s j h, varRow, List.range_succ]
  simp
theorem varRow_last (x : Int) (s : Nat) (h : 1 ≤ s) : (varRow x s (s - 1)).setIfInBounds (s - 1) (.int .u8 (x / 128 ^ (s - 1))) = ((vzL s x).map (Value.int .u8)).toArray := by
  rw [varRow_set x s (s - 1) (by omega), vzL, show s - (s - 1 + 1) = 0 by omega]
  simp
theorem or_128' : ∀ n : Fin 256, bits BinOp.or IntKind.u8 (n.val : Int) 128 = 128 + (n.val : Int) % 128 := by decide +kernel
theorem or_128 (X : Int) (h0 : 0 ≤ X) : bits BinOp.or IntKind.u8 (X % 256) 128 = 128 + X % 128 := by
  have := or_128' ⟨(X % 256).toNat, by omega⟩
  simp only at this
  rw [Int.toNat_of_nonneg (by omega)] at this
  rw [this]; omega
theorem vz_last (x : Int) (h0 : 0 ≤ x) (h1 : x < 18446744073709551616) : 0 ≤ x / 128 ^ (vsz x - 1) ∧ x / 128 ^ (vsz x - 1) < 128 := by
  obtain ⟨h2, _⟩ := vsz_spec x h0 h1
  have hp := vsz_pos x
  obtain ⟨t, ht⟩ : ∃ t, vsz x = t + 1 := ⟨vsz x - 1, by omega⟩
  rw [ht] at h2 ⊢
  rw [Nat.add_sub_cancel]
  rw [Int.pow_succ] at h2
  have hP := pow128_pos t
  generalize (128 : Int) ^ t = P at *
  exact ⟨Int.ediv_nonneg h0 (by omega), Int.ediv_lt_of_lt_mul hP (by rw [Int.mul_comm]; exact h2)⟩
def VBytesPost (x : Int) (w : World) (e : Ending) (w' : World) : Prop :=
  ∃ g, e = .returned (.slice (some ⟨g, 0, none⟩) (vsz x) (vsz x)) ∧ w.heap.size ≤ g ∧ Below w.heap.size w w' ∧ Blk w' g ((vz x).map (Value.int .u8)).toArray 5
set_option maxHeartbeats 800000 in
theorem vbytes_any (x : Int) (w : World) (h0 : 0 ≤ x) (h1 : x < 18446744073709551616) :
    Calls Tryz.prog 68 #[.int .u64 x] w (VBytesPost x w) := by
  obtain ⟨i0, hi, hz0, hz1, hz2⟩ := info_parts info5
  have hs1 := vsz_pos x
  have hs2 := vsz_le x
  have hvz : vz x = vzL (vsz x) x := rfl
  have hsz := vsize_any x w h0 h1
  have hla := vz_last x h0 h1
  unfold VBytesPost
  rw [hvz]
  clear hvz
  generalize vsz x = s at *
  have hmk := fun w => run_make (P := Tryz.prog) w 28 5 i0 (.int .u8 0) Tryz.underlying28 hi hz0 .i64 .i64 (s : Int) (s : Int) (by omega) (by omega) (by rw [hz2]; omega) (by omega)
  go_enter Tryz.func68, Tryz.ntmps68
  go_wp2_with fail
  refine hsz.mono ?_
  rintro e w1 ⟨rfl, rfl⟩
  go_wp2_with fail
  have hB0 := Blk.new w (madeCells #[.int .u8 0] s) 5
  rw [← varRow_zero x] at hB0
  have HB0 := Lib.hid hB0
  have b0 := below_one w (.cells (madeCells #[.int .u8 0] s) 5)
  rw [← varRow_zero x s] at b0
  rw [← varRow_zero x s]
  clear hmk hB0
  generalize hg : w.heap.size = g at HB0
  have HG := Lib.hid hg
  clear hg
  go_loopw [0, 13] (fun v0 v13 wr => ∃ j : Nat, j + 1 ≤ s ∧ v13 = .int .i64 j ∧ v0 = .int .u64 (x / 128 ^ j) ∧ Blk wr g (varRow x s j) 5 ∧ Below w.heap.size w wr) (fun _ i _ => s - (intOf i).toNat)
  case atStart => exact ⟨0, by omega, rfl, by simp, HB0.out, b0⟩
  case round =>
    obtain ⟨j, hj, rfl, rfl, hB, hbd⟩ := hrel
    have j1 : (0 : Int) ≤ j := by omega
    have X0 : 0 ≤ x / 128 ^ j := Int.ediv_nonneg h0 (Int.le_of_lt (pow128_pos j))
    have X1 : x / 128 ^ j < 18446744073709551616 := Int.lt_of_le_of_lt (Int.ediv_le_self _ h0) h1
    have hf := hB.free j
    by_cases hlt : (j : Int) < s - 1
    · have hc := hB.cell j (varRow_at x s j (by omega))
      have hnx := varRow_next x s j (by omega)
      have hset := hB.set j (.int .u8 (128 + x / 128 ^ j % 128))
      rw [hnx, ← or_128 _ X0] at hset
      have hdn := div128' x j
      have HS := Lib.hid hset
      have HL := Lib.hid hla
      clear hset hnx hla
      generalize x / 128 ^ j = X at *
      have HD := Lib.hid hdn
      clear hdn hB
      have j2 : (j : Int) < s := by omega
      go_wp2
      go_roundw
      case rel => exact ⟨j + 1, by omega, by go_num, by rw [← HD.out], HS.out, Below.setCell hbd (by rw [← HG.out]; exact Nat.le_refl _) _⟩
      case measure => simp [intOf]; omega
    · have hjs : s - 1 = j := by omega
      have hc := hB.cell j (varRow_at x s j (by omega))
      have hset := hB.set j (.int .u8 (x / 128 ^ j))
      have hl := varRow_last x s hs1
      rw [hjs] at hl hla
      rw [hl] at hset
      have he : (s : Int) - 1 = j := by omega
      have hm : x / 128 ^ j % 256 = x / 128 ^ j := by omega
      rw [← hm] at hset
      have HS := Lib.hid hset
      have j2 : (j : Int) < s := by omega
      rw [he]
      clear hset he hm hlt hl hjs hB hla
      have hge : ¬ (j : Int) < j := by omega
      generalize x / 128 ^ j = X at *
      go_wp2
      go_ret
      exact ⟨g, rfl, by rw [HG.out]; exact Nat.le_refl _, Below.setCell hbd (by rw [← HG.out]; exact Nat.le_refl _) _, HS.out⟩
end Go.Proofs.YtlealkfkddhnnaaGreat.Cur
namespace Go.Proofs.YtlealkfkddhnnaaGreat.Cur
open Go.RowKit Mem
set_option linter.unusedVariables false
def VPutPost (B b : Nat) (r : Option Nat) (z : List Int) (M c x : Int) (w : World) (e : Ending) (w' : World) : Prop := WPutPost B b r z (vz x) M c w e w'
set_option maxHeartbeats 400000 in
theorem vput_any {w : World} {B b : Nat} {r : Option Nat} {z : List Int} {M c : Int} (x : Int) (h : Wr w B b r z M c) (h0 : 0 ≤ x) (h1 : x < 18446744073709551616) (hsz : z.length ≤ 900000) (hBw : B ≤ w.heap.size) :
    Calls Tryz.prog 34 #[.pointer (some ⟨b, 0, none⟩), .int .u64 x] w (VPutPost B b r z M c x w) := by
  have hk := vsz_le x
  go_enter Tryz.func34, Tryz.ntmps34
  go_wp2_with fail
  refine (vbytes_any _ _ h0 h1).mono ?_
  rintro e w1 ⟨g, rfl, hg, hb, hblk⟩
  have h2 := h.below hb
  have hbs : Bs w1 (some ⟨g, 0, none⟩) (vsz x) (vz x) := by
    have := Bs.of_block hblk
    rw [vz_length] at this
    exact this
  have hoff : 0 < vsz x → ∀ a, some (⟨g, 0, none⟩ : Addr) = some a → ¬ WS b r a.block := by
    rintro _ a ha
    injection ha with ha
    subst ha
    obtain ⟨v, rfl, hbb, ho, _⟩ := h
    rintro (e | e)
    · have := hbb.lt; simp at e; omega
    · have := ho.lt _ e; simp at this; omega
  go_wp2_with fail
  refine (wput_any _ _ _ h2 hbs (by simp) hoff (by omega) (Nat.le_trans hBw hb.size)).mono ?_
  rintro e w2 ⟨r', rfl, hks, hgr, hw⟩
  go_wp2
  go_end0
  refine ⟨r', rfl, (Ks.of_below hb).trans hks, ?_, hw⟩
  rcases hgr with e | ⟨g, e, hg⟩
  · exact .inl e
  · exact .inr ⟨g, e, Nat.le_trans hb.size hg⟩
set_option maxHeartbeats 800000 in
theorem rbytes_any (k : Nat) : ∀ (x : Int) (w : World), vsz x ≤ k → 0 ≤ x → x < 18446744073709551616 → Calls Tryz.prog 80 #[.int .u64 x] w (RowPost (vz x) w) := by
  induction k with
  | zero => intro x w hk; have := vsz_pos x; omega
  | succ k ih =>
    intro x w hk h0 h1
    by_cases hx : x < 128
    · rw [vz_lt x hx]
      have e : x % 256 = x := by omega
      have hp : RowPost [x % 256] w (.returned (.slice (some ⟨w.heap.size, 0, none⟩) 1 1)) (w.alloc (.cells #[.int .u8 (x % 256)] 5)) :=
        Own.rowPost (B := 0) (Own.built w _) (below_one _ _)
      rw [e] at hp
      have HP := Lib.hid hp
      clear hp e
      go_enter Tryz.func80, Tryz.ntmps80
      go_wp2
      go_ret
      exact HP.out
    · rw [vz_ge x (by omega) h1]
      have hs := vsz_div x (by omega) h1
      have hc := ih (x / 128) (w.alloc (.cells #[.int .u8 (128 + x % 128)] 5)) (by omega) (by omega) (by omega)
      have hown := Own.built w (128 + x % 128)
      have hle := vsz_le (x / 128)
      have HO := Lib.hid hown
      have e0 : 0 ≤ x % 128 := by omega
      have e1 : x % 128 < 128 := by omega
      clear hs hown ih hk
      have hx' : ¬ x < 128 := hx
      go_enter Tryz.func80, Tryz.ntmps80
      go_wp2_with fail
      refine hc.mono ?_
      rintro e w1 ⟨A, m, rfl, hb, hbs, hnil, _⟩
      have hb1 := (below_one w (.cells #[.int .u8 (128 + x % 128)] 5)).trans (hb.mono (by simp))
      have HL := Lib.hid (vz_length (x / 128))
      have hown1 := HO.out.below hb
      have hB := hb1.size
      clear hc
      go_wp2_with (at_builtin; go_must (refine list_append_gr rfl (.tmp 12) (.tmp 15) rfl w.heap.size (.slice (some ⟨w.heap.size, 0, none⟩) 1 1) [128 + x % 128] rfl hown1 _ _ _ _ rfl hbs hnil (by rw [HL.out]; simp; omega) hB ?_; intro v' w2 ho' hg hgr; have hb2 := Own.belowOf hb1 hB hown1 hg; obtain ⟨A2, cap2, hv⟩ := ho'.slice; subst hv))
      go_ret
      exact Own.rowPost (B := 0) ho' hb2
end Go.Proofs.YtlealkfkddhnnaaGreat.Cur
namespace Go.Proofs.YtlealkfkddhnnaaGreat.Cur
open Go.RowKit Mem
set_option linter.unusedVariables false
def vgo : List Int → Nat → Int → Int × Int × Int × Int
  | [], i, _ => (0, 0, 1, i)
  | b :: l, i, acc => if i = 9 ∧ 1 < b then (0, 0, 5, i) else if 0 < i ∧ b = 0 then (0, 0, 4, i) else if b < 128 then (acc + b * 128 ^ i, i + 1, 0, 0) else vgo l (i + 1) (acc + b % 128 * 128 ^ i)
def VgSt (n : Nat) (p q : Int) (g : Int × Int × Int × Int) (v p' c' q' : Int) : Prop :=
  (g.2.2.1 = 0 ∧ v = g.1 ∧ p' = p + g.2.1 ∧ c' = 0 ∧ q' = q) ∨
  (g.2.2.1 ≠ 0 ∧ v = 0 ∧ c' = g.2.2.1 ∧ q' = p + g.2.2.2 ∧ p' = if g.2.2.1 = 1 then (n : Int) else p + g.2.2.2 + 1)
def RdSt (n : Nat) (z : List Int) (p c q v p' c' q' : Int) : Prop :=
  (c ≠ 0 ∧ v = 0 ∧ p' = p ∧ c' = c ∧ q' = q) ∨ (c = 0 ∧ VgSt n p q (vgo (z.drop p.toNat) 0 0) v p' c' q')
def RdPost (b : Nat) (s : Value) (n : Nat) (z : List Int) (p c q : Int) (w : World) (e : Ending) (w' : World) : Prop :=
  ∃ v p' c' q', e = .returned (.int .u64 v) ∧ Kp b w w' ∧ IsRd w' b s p' c' q' ∧ RdSt n z p c q v p' c' q'
theorem RdSt.det {n : Nat} {z : List Int} {p c q v p' c' q' v2 p2 c2 q2 : Int} (h : RdSt n z p c q v p' c' q') (k : RdSt n z p c q v2 p2 c2 q2) : v = v2 ∧ p' = p2 ∧ c' = c2 ∧ q' = q2 := by
  rcases h with ⟨a0, a1, a2, a3, a4⟩ | ⟨a0, ⟨a1, a2, a3, a4, a5⟩ | ⟨a1, a2, a3, a4, a5⟩⟩ <;>
  rcases k with ⟨b0, b1, b2, b3, b4⟩ | ⟨b0, ⟨b1, b2, b3, b4, b5⟩ | ⟨b1, b2, b3, b4, b5⟩⟩ <;>
  first | exact absurd a0 b0 | exact absurd b0 a0 | exact absurd a1 b1 | exact absurd b1 a1 | exact ⟨by omega, by omega, by omega, by omega⟩ | exact ⟨by omega, a5.trans b5.symm, by omega, by omega⟩
set_option maxHeartbeats 1000000 in
theorem vread_bad (b : Nat) (a : Option Addr) (n m : Nat) (z : List Int) (p c q : Int) (w : World) (h : IsRd w b (.slice a n m) p c q) (hz : Bs w a n z) (h0 : 0 ≤ p) (h1 : p ≤ n) (hn : n ≤ 1000000) (hc : c ≠ 0) :
    Calls Tryz.prog 149 #[.pointer (some ⟨b, 0, none⟩)] w (RdPost b (.slice a n m) n z p c q w) := by
  have hcb : (c == 0) = false := by simpa using hc
  have HC := Lib.hid hc
  clear hc
  go_enter Tryz.func149, Tryz.ntmps149
  go_wp2_with fail
  go_step3
  go_wp2_with fail
  go_step3
  go_wp2_with fail
  refine (byte_any _ _ _ _ _ _ _ _ _ h hz h0 h1 hn).mono ?_
  rintro e w1 ⟨ok, p', c', q', hk, hr, hs, rfl⟩
  rcases hs with ⟨_, rfl, rfl, rfl, rfl⟩ | ⟨h, _⟩ | ⟨h, _⟩ | ⟨h, _⟩
  rotate_left
  · exact absurd h HC.out
  · exact absurd h HC.out
  · exact absurd h HC.out
  rw [if_neg (by simp)]
  go_wp2_with fail
  refine (good_any _ _ _ _ _ _ hr).mono ?_
  rintro e w2 ⟨rfl, hb2⟩
  go_wp2
  rw [Exit.noGoto_ret]
  go_ret
  exact ⟨0, _, _, _, rfl, hk.trans (Kp.of_below hb2), hr.below hb2, .inl ⟨HC.out, rfl, rfl, rfl, rfl⟩⟩
def RJc (b : Nat) (s : Value) (n : Nat) (z : List Int) (p q : Int) (w : World) (i : Nat) (X : Int) (w' : World) : Prop :=
  i ≤ 9 ∧ p + i ≤ n ∧ Kp b w w' ∧ IsRd w' b s (p + i) 0 q ∧ 0 ≤ X ∧ X < 128 ^ i ∧ vgo (z.drop p.toNat) 0 0 = vgo (z.drop (p.toNat + i)) i X
def RJ (b : Nat) (s : Value) (n : Nat) (z : List Int) (p q : Int) (w : World) (a' : Act) (w' : World) : Prop :=
  ∃ (i : Nat) (X : Int) (u4 u6 u7 u8 u9 u10 u11 u12 u13 u14 u15 u16 u17 u18 u19 u20 u21 u22 u23 u24 u25 u26 u27 u28 u29 u30 u31 u32 u33 u34 u35 u36 u37 u38 u39 u40 u41 u42 u43 u44 u45 u46 u47 u48 u49 : Value), a' = { tmps := #[.pointer (some ⟨b, 0, none⟩), undef, .int .u64 0, .int .u64 X, u4, .int .i64 i, u6, u7, u8, u9, u10, u11, u12, u13, u14, u15, u16, u17, u18, u19, u20, u21, u22, u23, u24, u25, u26, u27, u28, u29, u30, u31, u32, u33, u34, u35, u36, u37, u38, u39, u40, u41, u42, u43, u44, u45, u46, u47, u48, u49], defers := [] } ∧ RJc b s n z p q w i X w'
theorem drop_cons {z : List Int} {n k : Nat} (hz : z.length = n) (hk : k < n) : z.drop k = z.getD k 0 :: z.drop (k + 1) := by
  rw [List.drop_eq_getElem_cons (by omega), List.getD_eq_getElem?_getD, List.getElem?_eq_getElem (by omega)]
  rfl
theorem vgo_nil (i : Nat) (X : Int) : vgo [] i X = (0, 0, 1, (i : Int)) := rfl
theorem vgo_over {b X : Int} {l : List Int} {i : Nat} (h : i = 9) (hb : 1 < b) : vgo (b :: l) i X = (0, 0, 5, (i : Int)) := by unfold vgo; rw [if_pos ⟨h, hb⟩]
theorem vgo_zero {b X : Int} {l : List Int} {i : Nat} (h : 0 < i) (hb : b = 0) : vgo (b :: l) i X = (0, 0, 4, (i : Int)) := by unfold vgo; rw [if_neg (by omega), if_pos ⟨h, hb⟩]
theorem vgo_done {b X : Int} {l : List Int} {i : Nat} (h : ¬ (i = 9 ∧ 1 < b)) (h' : ¬ (0 < i ∧ b = 0)) (hb : b < 128) : vgo (b :: l) i X = (X + b * 128 ^ i, (i : Int) + 1, 0, 0) := by unfold vgo; rw [if_neg h, if_neg h', if_pos hb]
theorem vgo_more {b X : Int} {l : List Int} {i : Nat} (h : ¬ (i = 9 ∧ 1 < b)) (hb : 128 ≤ b) : vgo (b :: l) i X = vgo l (i + 1) (X + b % 128 * 128 ^ i) := by
  rw [show vgo (b :: l) i X = _ from by unfold vgo; rw [if_neg h, if_neg (by omega), if_neg (by omega)]]
def orv (i : Nat) (X bb : Int) : Int := bits BinOp.or IntKind.u64 X (IntKind.u64.wrap (IntKind.u64.wrap (bits BinOp.andNot IntKind.u8 bb 128) * 2 ^ (7 * i)))
theorem andNot_128' : ∀ n : Fin 256, bits BinOp.andNot IntKind.u8 (n.val : Int) 128 = (n.val : Int) % 128 := by decide +kernel
theorem andNot_128 (b : Int) (h0 : 0 ≤ b) (h1 : b < 256) : bits BinOp.andNot IntKind.u8 b 128 = b % 128 := by
  have := andNot_128' ⟨b.toNat, by omega⟩
  simp only at this
  rw [Int.toNat_of_nonneg h0] at this
  exact this
theorem wrap_u64 (x : Int) (h0 : 0 ≤ x) (h1 : x < 18446744073709551616) : IntKind.u64.wrap x = x := by
  have e : IntKind.u64.wrap x = x % 18446744073709551616 := by unfold IntKind.wrap; rfl
  rw [e]; exact Int.emod_eq_of_lt h0 h1
theorem pow7' (i : Nat) : (2 : Int) ^ (7 * i) = 128 ^ i := by
  rw [Int.pow_mul]; rfl
theorem orv_eq (i : Nat) (X bb : Int) (hi : i ≤ 9) (X0 : 0 ≤ X) (X1 : X < 128 ^ i) (b0 : 0 ≤ bb) (b1 : bb < 256) (h9 : i = 9 → bb ≤ 1) :
    orv i X bb = X + bb % 128 * 128 ^ i ∧ 0 ≤ orv i X bb ∧ orv i X bb < 18446744073709551616 := by
  have hm : bb % 128 * 128 ^ i ≤ 9223372036854775808 * 1 ∧ 0 ≤ bb % 128 * 128 ^ i := by
    have hp := pow128_pos i
    refine ⟨?_, Int.mul_nonneg (by omega) (by omega)⟩
    by_cases h : i = 9
    · have := h9 h
      subst h
      have : bb % 128 ≤ 1 := by omega
      omega
    · have h8 := pow128_mono (show i ≤ 8 by omega)
      have h2 : bb % 128 * 128 ^ i ≤ 127 * 128 ^ 8 := Int.mul_le_mul (by omega) h8 (by omega) (by omega)
      have : (127 : Int) * 128 ^ 8 ≤ 9223372036854775808 * 1 := by decide
      omega
  have hX : X < 9223372036854775808 := Int.lt_of_lt_of_le X1 (Int.le_trans (pow128_mono hi) (by decide))
  have key : orv i X bb = X + bb % 128 * 128 ^ i := by
    unfold orv
    rw [andNot_128 bb b0 b1, wrap_u64 (bb % 128) (by omega) (by omega), pow7', wrap_u64 _ hm.2 (by omega)]
    obtain ⟨x, rfl⟩ := Int.eq_ofNat_of_zero_le X0
    obtain ⟨y, hy⟩ := Int.eq_ofNat_of_zero_le (show 0 ≤ bb % 128 by omega)
    have e : bb % 128 * 128 ^ i = ((2 ^ (7 * i) * y : Nat) : Int) := by rw [hy, Int.mul_comm]; push_cast; rw [pow7']
    rw [e] at hm ⊢
    rw [u64_or_nat _ _ (by omega) (by omega), Nat.or_comm, ← Nat.two_pow_add_eq_or_of_lt]
    · push_cast; omega
    · have : ((x : Nat) : Int) < ((2 ^ (7 * i) : Nat) : Int) := by push_cast; rw [pow7']; exact X1
      exact_mod_cast this
  rw [key]
  exact ⟨rfl, by omega, by omega⟩
theorem orv_lt (i : Nat) (X bb : Int) (X0 : 0 ≤ X) (X1 : X < 128 ^ i) : X + bb % 128 * 128 ^ i < 128 ^ (i + 1) := by
  rw [Int.pow_succ, Int.mul_comm (128 ^ i) 128]
  have hp := pow128_pos i
  have h : bb % 128 * 128 ^ i ≤ 127 * 128 ^ i := Int.mul_le_mul_of_nonneg_right (by omega) (by omega)
  generalize bb % 128 * 128 ^ i = Q at *
  generalize (128 : Int) ^ i = P at *
  omega
theorem rd_fault {n i : Nat} {z : List Int} {p q k x : Int} (h : vgo (z.drop p.toNat) 0 0 = (x, 0, k, (i : Int))) (hk : k ≠ 0) (hk1 : k ≠ 1) {q' : Int} (hq : q' = p + i) : RdSt n z p 0 q 0 (p + i + 1) k q' :=
  .inr ⟨rfl, .inr (by rw [h]; exact ⟨hk, rfl, rfl, hq, by rw [if_neg hk1]⟩)⟩
theorem rd_short {n i : Nat} {z : List Int} {p q x : Int} (h : vgo (z.drop p.toNat) 0 0 = (x, 0, 1, (i : Int))) (hn : p + i = n) : RdSt n z p 0 q 0 (p + i) 1 n :=
  .inr ⟨rfl, .inr (by rw [h]; exact ⟨by simp, rfl, rfl, hn.symm, by simp; exact hn⟩)⟩
theorem rd_done {n i : Nat} {z : List Int} {p q x : Int} (h : vgo (z.drop p.toNat) 0 0 = (x, (i : Int) + 1, 0, 0)) : RdSt n z p 0 q x (p + i + 1) 0 q :=
  .inr ⟨rfl, .inl (by rw [h]; exact ⟨rfl, rfl, by show _ = p + ((i : Int) + 1); omega, rfl, rfl⟩)⟩
theorem jumps_skip {P : Program} {c rest : Code} {a : Act} {w : World} {Q : Exit → Act → World → Prop} (l : Nat) (J : Act → World → Prop) (μ : Act → World → Nat) (hf : findLabel c l = some (Code.skip.seq rest))
    (first : (∀ a w, J a w → rest.wp P (Exit.jump l J Q) a w) → c.wp P (Exit.jump l J Q) a w)
    (pass : ∀ a w, J a w → rest.wp P (Exit.jump l (fun a' w' => J a' w' ∧ μ a' w' < μ a w) Q) a w) : (Code.scope c).wp P Q a w :=
  wp_scope_jumps l J μ hf (first fun a w hJ => Code.wp_mono (fun e a' w' hh => by cases e <;> first | exact hh | exact ⟨hh.1, hh.2.1⟩) (pass a w hJ)) fun a w hJ => wp_seq (wp_skip (pass a w hJ))
set_option maxRecDepth 100000 in
set_option maxHeartbeats 2000000 in
theorem vread_good (b : Nat) (a : Option Addr) (n m : Nat) (z : List Int) (p q : Int) (w : World) (h : IsRd w b (.slice a n m) p 0 q) (hz : Bs w a n z) (h0 : 0 ≤ p) (h1 : p ≤ n) (hn : n ≤ 1000000) (hby : ∀ x ∈ z, 0 ≤ x ∧ x < 256) :
    Calls Tryz.prog 149 #[.pointer (some ⟨b, 0, none⟩)] w (RdPost b (.slice a n m) n z p 0 q w) := by
  go_enter Tryz.func149, Tryz.ntmps149
  go_wp2_with fail
  refine jumps_skip 0 (RJ b (.slice a n m) n z p q w) (fun a' _ => 9 - (intOf (a'.tmps.getD 5 undef)).toNat) rfl ?_ ?_
  · intro key
    have KEY := Lib.hid key
    clear key
    go_wp2_with fail
    go_step3
    rename_i Kq hKq
    have hJ : RJ b (.slice a n m) n z p q w { tmps := #[.pointer (some ⟨b, 0, none⟩), undef, .int .u64 0, .int .u64 0, .int .u8 0, .int .i64 0, undef, undef, undef, undef, undef, undef, undef, undef, undef, undef, undef, undef, undef, undef, undef, undef, undef, undef, undef, undef, undef, undef, undef, undef, undef, undef, undef, undef, undef, undef, undef, undef, undef, undef, undef, undef, undef, undef, undef, undef, undef, undef, undef, undef], defers := [] } w :=
      ⟨0, 0, _, _, _, _, _, _, _, _, _, _, _, _, _, _, _, _, _, _, _, _, _, _, _, _, _, _, _, _, _, _, _, _, _, _, _, _, _, _, _, _, _, _, _, _, _, rfl, by omega, by simpa using h1, Kp.refl _ _, by simpa using h, Int.le_refl _, by decide, rfl⟩
    exact hKq _ _ (KEY.out _ _ hJ)
  · rintro a' w' ⟨i, X, u4, u6, u7, u8, u9, u10, u11, u12, u13, u14, u15, u16, u17, u18, u19, u20, u21, u22, u23, u24, u25, u26, u27, u28, u29, u30, u31, u32, u33, u34, u35, u36, u37, u38, u39, u40, u41, u42, u43, u44, u45, u46, u47, u48, u49, rfl, hi, hpi, hk, hr, X0, X1, hv⟩
    have hz1 := hz.kp h (by simp) hk
    have i0 : (0 : Int) ≤ i := by omega
    go_wp2_with fail
    refine (byte_any _ _ _ _ _ _ _ _ _ hr hz1 (by omega) hpi hn).mono ?_
    rintro e w1 ⟨ok, p', c', q', hk1, hr1, hs, rfl⟩
    by_cases hsh : p + i < n
    · obtain ⟨rfl, rfl, rfl, rfl⟩ := skip_yes hs (by omega) (by omega)
      have hzk := drop_cons hz.1 (k := p.toNat + i) (by omega)
      have hbb : 0 ≤ z.getD (p.toNat + i) 0 ∧ z.getD (p.toNat + i) 0 < 256 := by
        refine hby _ ?_
        have : p.toNat + i < z.length := by rw [hz.1]; omega
        rw [List.getD_eq_getElem?_getD, List.getElem?_eq_getElem this]
        exact List.getElem_mem _
      rw [hzk] at hv
      rw [if_pos rfl, show (p + i).toNat = p.toNat + i by omega]
      have HV := Lib.hid hv
      clear hv hzk hs hr hz1
      generalize z.getD (p.toNat + i) 0 = bb at *
      obtain ⟨b0, b1⟩ := hbb
      have hk2 := hk.trans hk1
      clear hk hk1
      have hor := orv_eq i X bb hi X0 X1 b0 b1
      have HOR := Lib.hid hor
      clear hor
      by_cases hi9 : i = 9
      · have hi9d : ((i : Int) == 9) = true := by simp; omega
        have hi0 : 0 < (i : Int) := by omega
        have H9 := Lib.hid hi9
        clear hi9
        by_cases ho : 1 < bb
        · have hbz : (bb == 0) = false := by simp; omega
          by_cases hge : 128 ≤ bb
          · go_wp2_with fail
            refine (at_any _ _ _ _ _ _ hr1).mono ?_
            rintro e w2 ⟨rfl, rfl⟩
            go_wp2_with fail
            refine (fail_yes _ _ _ _ _ _ _ hr1).mono ?_
            rintro e w2 ⟨rfl, hkf, hr2⟩
            go_wp2_with fail
            refine (good_any _ _ _ _ _ _ hr2).mono ?_
            rintro e w3 ⟨rfl, hbw3⟩
            go_wp2_with fail
            refine (good_any _ _ _ _ _ _ (hr2.below hbw3)).mono ?_
            rintro e w4 ⟨rfl, hbw4⟩
            go_wp2
            simp only [Exit.jump]
            go_ret
            exact ⟨_, _, _, _, rfl, ((hk2.trans hkf).trans (Kp.of_below hbw3)).trans (Kp.of_below hbw4), (hr2.below hbw3).below hbw4, rd_fault (HV.out.trans (vgo_over H9.out ho)) (by omega) (by omega) (by unfold fq; rw [if_neg (by omega)]; try omega)⟩
          · go_wp2_with fail
            refine (at_any _ _ _ _ _ _ hr1).mono ?_
            rintro e w2 ⟨rfl, rfl⟩
            go_wp2_with fail
            refine (fail_yes _ _ _ _ _ _ _ hr1).mono ?_
            rintro e w2 ⟨rfl, hkf, hr2⟩
            go_wp2_with fail
            refine (good_any _ _ _ _ _ _ hr2).mono ?_
            rintro e w3 ⟨rfl, hbw3⟩
            go_wp2
            simp only [Exit.jump]
            go_ret
            exact ⟨_, _, _, _, rfl, (hk2.trans hkf).trans (Kp.of_below hbw3), hr2.below hbw3, rd_fault (HV.out.trans (vgo_over H9.out ho)) (by omega) (by omega) (by unfold fq; rw [if_neg (by omega)]; try omega)⟩
        · have hge : ¬ 128 ≤ bb := by omega
          by_cases hb0 : bb = 0
          · subst hb0
            go_wp2_with fail
            refine (at_any _ _ _ _ _ _ hr1).mono ?_
            rintro e w2 ⟨rfl, rfl⟩
            go_wp2_with fail
            refine (fail_yes _ _ _ _ _ _ _ hr1).mono ?_
            rintro e w2 ⟨rfl, hkf, hr2⟩
            go_wp2_with fail
            refine (good_any _ _ _ _ _ _ hr2).mono ?_
            rintro e w3 ⟨rfl, hbw3⟩
            go_wp2
            simp only [Exit.jump]
            go_ret
            exact ⟨_, _, _, _, rfl, (hk2.trans hkf).trans (Kp.of_below hbw3), hr2.below hbw3, rd_fault (HV.out.trans (vgo_zero (by omega) rfl)) (by omega) (by omega) (by unfold fq; rw [if_neg (by omega)]; try omega)⟩
          · have hbz : (bb == 0) = false := by simpa using hb0
            have HB0 := Lib.hid hb0
            clear hb0
            go_wp2_with fail
            refine (good_any _ _ _ _ _ _ hr1).mono ?_
            rintro e w3 ⟨rfl, hbw3⟩
            go_wp2
            simp only [Exit.jump]
            go_ret
            exact ⟨orv i X _, _, _, _, rfl, hk2.trans (Kp.of_below hbw3), hr1.below hbw3, by rw [(HOR.out (fun h => by have := H9.out; omega)).1]; exact rd_done (HV.out.trans (vgo_done (by have := H9.out; omega) (fun h => HB0.out h.2) (by omega)) |>.trans (by rw [Int.emod_eq_of_lt (by omega) (by omega)]))⟩
      · have hi9d : ((i : Int) == 9) = false := by simp; omega
        have H9 := Lib.hid hi9
        clear hi9
        by_cases hge : 128 ≤ bb
        · go_wp2_with fail
          refine (good_any _ _ _ _ _ _ hr1).mono ?_
          rintro e w3 ⟨rfl, hbw3⟩
          go_wp2_with fail
          go_step3
          refine ⟨rfl, ⟨i + 1, _, _, _, _, _, _, _, _, _, _, _, _, _, _, _, _, _, _, _, _, _, _, _, _, _, _, _, _, _, _, _, _, _, _, _, _, _, _, _, _, _, _, _, _, _, _, rfl, by have := H9.out; omega, by omega, hk2.trans (Kp.of_below hbw3), by have := hr1.below hbw3; rw [show p + ((i + 1 : Nat) : Int) = p + i + 1 by omega]; exact this, (HOR.out (fun h => absurd h H9.out)).2.1, by show orv i X bb < _; rw [(HOR.out (fun h => absurd h H9.out)).1]; exact orv_lt i X bb X0 X1, by show _ = vgo _ _ (orv i X bb); rw [(HOR.out (fun h => absurd h H9.out)).1, HV.out, vgo_more (fun h => H9.out h.1) hge]; rfl⟩, ?_⟩
          have h9 := H9.out
          simp [intOf]
          omega
        · by_cases hb0 : bb = 0
          · subst hb0
            by_cases hi0 : 0 < (i : Int)
            · go_wp2_with fail
              refine (at_any _ _ _ _ _ _ hr1).mono ?_
              rintro e w2 ⟨rfl, rfl⟩
              go_wp2_with fail
              refine (fail_yes _ _ _ _ _ _ _ hr1).mono ?_
              rintro e w2 ⟨rfl, hkf, hr2⟩
              go_wp2_with fail
              refine (good_any _ _ _ _ _ _ hr2).mono ?_
              rintro e w3 ⟨rfl, hbw3⟩
              go_wp2
              simp only [Exit.jump]
              go_ret
              exact ⟨_, _, _, _, rfl, (hk2.trans hkf).trans (Kp.of_below hbw3), hr2.below hbw3, rd_fault (HV.out.trans (vgo_zero (by omega) rfl)) (by omega) (by omega) (by unfold fq; rw [if_neg (by omega)]; try omega)⟩
            · go_wp2_with fail
              refine (good_any _ _ _ _ _ _ hr1).mono ?_
              rintro e w3 ⟨rfl, hbw3⟩
              go_wp2
              simp only [Exit.jump]
              go_ret
              exact ⟨orv i X _, _, _, _, rfl, hk2.trans (Kp.of_below hbw3), hr1.below hbw3, by rw [(HOR.out (fun h => by have := H9.out; omega)).1]; exact rd_done (HV.out.trans (vgo_done (by have := H9.out; omega) (fun h => by omega) (by omega)) |>.trans (by rw [Int.emod_eq_of_lt (by omega) (by omega)]))⟩
          · have hbz : (bb == 0) = false := by simpa using hb0
            have HB0 := Lib.hid hb0
            clear hb0
            go_wp2_with fail
            refine (good_any _ _ _ _ _ _ hr1).mono ?_
            rintro e w3 ⟨rfl, hbw3⟩
            go_wp2
            simp only [Exit.jump]
            go_ret
            exact ⟨orv i X _, _, _, _, rfl, hk2.trans (Kp.of_below hbw3), hr1.below hbw3, by rw [(HOR.out (fun h => by have := H9.out; omega)).1]; exact rd_done (HV.out.trans (vgo_done (by have := H9.out; omega) (fun h => HB0.out h.2) (by omega)) |>.trans (by rw [Int.emod_eq_of_lt (by omega) (by omega)]))⟩
    · obtain ⟨rfl, rfl, rfl, rfl⟩ := skip_over hs (by omega) (by omega)
      have hpn : p + i = n := by omega
      have hdr : z.drop (p.toNat + i) = [] := List.drop_eq_nil_of_le (by have := hz.1; omega)
      rw [hdr, vgo_nil] at hv
      have HV := Lib.hid hv
      have HPN := Lib.hid hpn
      have hk2 := hk.trans hk1
      clear hv hdr hs hk hk1 hpn hz1 hr
      rw [if_neg (by simp)]
      by_cases hi0 : 0 < (i : Int)
      · by_cases hi9 : i = 9
        · have hi9d : ((i : Int) == 9) = true := by simp; omega
          clear hi9
          go_wp2_with fail
          refine (at_any _ _ _ _ _ _ hr1).mono ?_
          rintro e w2 ⟨rfl, rfl⟩
          go_wp2_with fail
          refine (fail_no _ _ _ _ _ _ _ _ hr1 rfl).mono ?_
          rintro e w2 ⟨rfl, hbf⟩
          go_wp2_with fail
          refine (good_any _ _ _ _ _ _ (hr1.below hbf)).mono ?_
          rintro e w3 ⟨rfl, hbw3⟩
          go_wp2
          simp only [Exit.jump]
          go_ret
          exact ⟨_, _, _, _, rfl, (hk2.trans (Kp.of_below hbf)).trans (Kp.of_below hbw3), (hr1.below hbf).below hbw3, rd_short HV.out HPN.out⟩
        · have hi9d : ((i : Int) == 9) = false := by simp; omega
          clear hi9
          go_wp2_with fail
          refine (at_any _ _ _ _ _ _ hr1).mono ?_
          rintro e w2 ⟨rfl, rfl⟩
          go_wp2_with fail
          refine (fail_no _ _ _ _ _ _ _ _ hr1 rfl).mono ?_
          rintro e w2 ⟨rfl, hbf⟩
          go_wp2_with fail
          refine (good_any _ _ _ _ _ _ (hr1.below hbf)).mono ?_
          rintro e w3 ⟨rfl, hbw3⟩
          go_wp2
          simp only [Exit.jump]
          go_ret
          exact ⟨_, _, _, _, rfl, (hk2.trans (Kp.of_below hbf)).trans (Kp.of_below hbw3), (hr1.below hbf).below hbw3, rd_short HV.out HPN.out⟩
      · have hi9d : ((i : Int) == 9) = false := by simp; omega
        go_wp2_with fail
        refine (good_any _ _ _ _ _ _ hr1).mono ?_
        rintro e w3 ⟨rfl, hbw3⟩
        go_wp2
        simp only [Exit.jump]
        go_ret
        exact ⟨_, _, _, _, rfl, hk2.trans (Kp.of_below hbw3), hr1.below hbw3, rd_short HV.out HPN.out⟩
theorem vread_any (b : Nat) (a : Option Addr) (n m : Nat) (z : List Int) (p c q : Int) (w : World) (h : IsRd w b (.slice a n m) p c q) (hz : Bs w a n z) (h0 : 0 ≤ p) (h1 : p ≤ n) (hn : n ≤ 1000000) (hby : ∀ x ∈ z, 0 ≤ x ∧ x < 256) :
    Calls Tryz.prog 149 #[.pointer (some ⟨b, 0, none⟩)] w (RdPost b (.slice a n m) n z p c q w) := by
  by_cases hc : c = 0
  · subst hc; exact vread_good b a n m z p q w h hz h0 h1 hn hby
  · exact vread_bad b a n m z p c q w h hz h0 h1 hn hc
end Go.Proofs.YtlealkfkddhnnaaGreat.Cur
namespace Go.Proofs.YtlealkfkddhnnaaGreat.Cur
open Go.RowKit Mem
set_option linter.unusedVariables false
def MostSt (n : Nat) (z : List Int) (p c q mo v p' c' q' : Int) : Prop :=
  ∃ v0 c0 q0, RdSt n z p c q v0 p' c0 q0 ∧ ((mo < v0 ∧ v = 0 ∧ FailSt c0 q0 2 p c' q') ∨ (v0 ≤ mo ∧ v = v0 ∧ c' = c0 ∧ q' = q0))
theorem MostSt.det {n : Nat} {z : List Int} {p c q mo v p' c' q' v2 p2 c2 q2 : Int} (h : MostSt n z p c q mo v p' c' q') (k : MostSt n z p c q mo v2 p2 c2 q2) : v = v2 ∧ p' = p2 ∧ c' = c2 ∧ q' = q2 := by
  obtain ⟨v0, c0, q0, hr, h⟩ := h
  obtain ⟨v1, c1, q1, kr, k⟩ := k
  obtain ⟨rfl, rfl, rfl, rfl⟩ := hr.det kr
  rcases h with ⟨h1, rfl, h2⟩ | ⟨h1, rfl, rfl, rfl⟩ <;> rcases k with ⟨k1, rfl, k2⟩ | ⟨k1, rfl, rfl, rfl⟩
  · obtain ⟨rfl, rfl⟩ := h2.det k2
    exact ⟨rfl, rfl, rfl, rfl⟩
  · omega
  · omega
  · exact ⟨rfl, rfl, rfl, rfl⟩
def MostPost (b : Nat) (s : Value) (n : Nat) (z : List Int) (p c q mo : Int) (w : World) (e : Ending) (w' : World) : Prop :=
  ∃ v p' c' q', e = .returned (.int .u64 v) ∧ Kp b w w' ∧ IsRd w' b s p' c' q' ∧ MostSt n z p c q mo v p' c' q'
set_option maxHeartbeats 800000 in
theorem vmost_any (b : Nat) (a : Option Addr) (n m : Nat) (z : List Int) (p c q mo : Int) (w : World) (h : IsRd w b (.slice a n m) p c q) (hz : Bs w a n z) (h0 : 0 ≤ p) (h1 : p ≤ n) (hn : n ≤ 1000000) (hby : ∀ x ∈ z, 0 ≤ x ∧ x < 256) :
    Calls Tryz.prog 150 #[.pointer (some ⟨b, 0, none⟩), .int .u64 mo] w (MostPost b (.slice a n m) n z p c q mo w) := by
  go_enter Tryz.func150, Tryz.ntmps150
  go_wp2_with fail
  refine (at_any _ _ _ _ _ _ h).mono ?_
  rintro e w0 ⟨rfl, rfl⟩
  go_wp2_with fail
  refine (vread_any _ _ _ _ _ _ _ _ _ h hz h0 h1 hn hby).mono ?_
  rintro e w1 ⟨v0, p', c0, q0, rfl, hk, hr, hs⟩
  have HS := Lib.hid hs
  clear hs
  by_cases hv : mo < v0
  · go_wp2_with fail
    refine (fail_any _ _ _ _ _ _ _ _ hr).mono ?_
    rintro e w2 ⟨c2, q2, rfl, hk2, hr2, hf⟩
    have HF := Lib.hid hf
    clear hf
    go_wp2
    go_ret
    exact ⟨0, _, _, _, rfl, hk.trans hk2, hr2, _, _, _, HS.out, .inl ⟨hv, rfl, HF.out⟩⟩
  · go_wp2
    go_ret
    exact ⟨v0, _, _, _, rfl, hk, hr, _, _, _, HS.out, .inr ⟨by omega, rfl, rfl, rfl⟩⟩
def IntSt (n : Nat) (z : List Int) (p c q mo v p' c' q' : Int) : Prop :=
  (0 ≤ mo ∧ MostSt n z p c q mo v p' c' q') ∨ (mo < 0 ∧ v = 0 ∧ ∃ v0 c0 q0, RdSt n z p c q v0 p' c0 q0 ∧ FailSt c0 q0 2 p c' q')
theorem IntSt.det {n : Nat} {z : List Int} {p c q mo v p' c' q' v2 p2 c2 q2 : Int} (h : IntSt n z p c q mo v p' c' q') (k : IntSt n z p c q mo v2 p2 c2 q2) : v = v2 ∧ p' = p2 ∧ c' = c2 ∧ q' = q2 := by
  rcases h with ⟨h0, h⟩ | ⟨h0, rfl, v0, c0, q0, hr, hf⟩ <;> rcases k with ⟨k0, k⟩ | ⟨k0, rfl, v1, c1, q1, kr, kf⟩
  · exact h.det k
  · omega
  · omega
  · obtain ⟨rfl, rfl, rfl, rfl⟩ := hr.det kr
    obtain ⟨rfl, rfl⟩ := hf.det kf
    exact ⟨rfl, rfl, rfl, rfl⟩
def IntPost (b : Nat) (s : Value) (n : Nat) (z : List Int) (p c q mo : Int) (w : World) (e : Ending) (w' : World) : Prop :=
  ∃ v p' c' q', e = .returned (.int .i64 v) ∧ Kp b w w' ∧ IsRd w' b s p' c' q' ∧ IntSt n z p c q mo v p' c' q'
theorem vgo_nonneg (l : List Int) (hl : ∀ x ∈ l, 0 ≤ x ∧ x < 256) : ∀ (i : Nat) (X : Int), 0 ≤ X → 0 ≤ (vgo l i X).1 := by
  induction l with
  | nil => intro i X h; exact Int.le_refl _
  | cons b l ih =>
    intro i X h
    have hb := hl b (by simp)
    have hp := pow128_pos i
    unfold vgo
    split
    · exact Int.le_refl _
    · split
      · exact Int.le_refl _
      · split
        · have := Int.mul_nonneg hb.1 (Int.le_of_lt hp)
          show 0 ≤ X + b * 128 ^ i
          omega
        · have := Int.mul_nonneg (show 0 ≤ b % 128 by omega) (Int.le_of_lt hp)
          exact ih (fun x hx => hl x (by simp [hx])) _ _ (by omega)
theorem RdSt.nonneg {n : Nat} {z : List Int} {p c q v p' c' q' : Int} (h : RdSt n z p c q v p' c' q') (hby : ∀ x ∈ z, 0 ≤ x ∧ x < 256) : 0 ≤ v := by
  rcases h with ⟨_, h, _⟩ | ⟨_, ⟨_, h, _⟩ | ⟨_, h, _⟩⟩
  · omega
  · rw [h]; exact vgo_nonneg _ (fun x hx => hby x (List.mem_of_mem_drop hx)) _ _ (Int.le_refl _)
  · omega
theorem MostSt.bd {n : Nat} {z : List Int} {p c q mo v p' c' q' : Int} (h : MostSt n z p c q mo v p' c' q') (hm : 0 ≤ mo) (hby : ∀ x ∈ z, 0 ≤ x ∧ x < 256) : 0 ≤ v ∧ v ≤ mo := by
  obtain ⟨v0, c0, q0, hr, h⟩ := h
  have := hr.nonneg hby
  rcases h with ⟨_, rfl, _⟩ | ⟨_, rfl, _⟩ <;> omega
theorem FailSt.again {c q c' p c2 q2 c3 q3 : Int} (h : FailSt c q c' p c2 q2) (hc : c' ≠ 0) (k : FailSt c2 q2 c' p c3 q3) : FailSt c q c' p c3 q3 := by
  rcases h with ⟨h1, rfl, rfl⟩ | ⟨h1, rfl, rfl⟩
  · rcases k with ⟨k1, _⟩ | ⟨_, rfl, rfl⟩
    · exact absurd k1 hc
    · exact .inl ⟨h1, rfl, rfl⟩
  · rcases k with ⟨k1, _⟩ | ⟨_, rfl, rfl⟩
    · exact absurd k1 h1
    · exact .inr ⟨h1, rfl, rfl⟩
set_option maxHeartbeats 800000 in
theorem vint_any (b : Nat) (a : Option Addr) (n m : Nat) (z : List Int) (p c q mo : Int) (w : World) (h : IsRd w b (.slice a n m) p c q) (hz : Bs w a n z) (h0 : 0 ≤ p) (h1 : p ≤ n) (hn : n ≤ 1000000) (hby : ∀ x ∈ z, 0 ≤ x ∧ x < 256) (hm : mo ≤ 9223372036854775807) :
    Calls Tryz.prog 123 #[.pointer (some ⟨b, 0, none⟩), .int .i64 mo] w (IntPost b (.slice a n m) n z p c q mo w) := by
  by_cases hmo : mo < 0
  · have hmo' : ¬ 0 ≤ mo := by omega
    go_enter Tryz.func123, Tryz.ntmps123
    go_wp2_with fail
    refine (at_any _ _ _ _ _ _ h).mono ?_
    rintro e w0 ⟨rfl, rfl⟩
    go_wp2_with fail
    refine (vmost_any _ _ _ _ _ _ _ _ _ _ h hz h0 h1 hn hby).mono ?_
    rintro e w1 ⟨v, p', c1, q1, rfl, hk, hr, hs⟩
    rw [show max mo 0 = 0 by omega] at hs
    have hbd := hs.bd (Int.le_refl _) hby
    obtain rfl : v = 0 := by omega
    have HS := Lib.hid hs
    clear hs hbd
    go_wp2_with fail
    refine (fail_any _ _ _ _ _ _ _ _ hr).mono ?_
    rintro e w2 ⟨c2, q2, rfl, hk2, hr2, hf⟩
    have HF := Lib.hid hf
    clear hf
    go_wp2
    go_ret
    refine ⟨0, _, _, _, rfl, hk.trans hk2, hr2, .inr ⟨hmo, rfl, ?_⟩⟩
    obtain ⟨v0, c0, q0, hrd, h⟩ := HS.out
    rcases h with ⟨_, _, hf1⟩ | ⟨_, _, rfl, rfl⟩
    · exact ⟨_, _, _, hrd, hf1.again (by omega) HF.out⟩
    · exact ⟨_, _, _, hrd, HF.out⟩
  · have hmo' : 0 ≤ mo := by omega
    go_enter Tryz.func123, Tryz.ntmps123
    go_wp2_with fail
    refine (at_any _ _ _ _ _ _ h).mono ?_
    rintro e w0 ⟨rfl, rfl⟩
    go_wp2_with fail
    refine (vmost_any _ _ _ _ _ _ _ _ _ _ h hz h0 h1 hn hby).mono ?_
    rintro e w1 ⟨v, p', c1, q1, rfl, hk, hr, hs⟩
    rw [show max mo 0 = mo by omega] at hs
    obtain ⟨b0, b1⟩ := hs.bd hmo' hby
    have HS := Lib.hid hs
    clear hs
    have b2 : v ≤ 9223372036854775807 := by omega
    go_wp2
    go_ret
    exact ⟨v, _, _, _, rfl, hk, hr, .inl ⟨hmo', HS.out⟩⟩
theorem vgo_shape (l : List Int) : ∀ (i : Nat) (X : Int), ((vgo l i X).2.2.1 ≠ 0 → (vgo l i X).1 = 0 ∧ (vgo l i X).2.1 = 0) ∧ ((vgo l i X).2.2.1 = 0 → (vgo l i X).2.2.2 = 0) := by
  induction l with
  | nil => intro i X; exact ⟨fun _ => ⟨rfl, rfl⟩, fun h => absurd h (by show (1 : Int) ≠ 0; omega)⟩
  | cons b l ih =>
    intro i X
    unfold vgo
    split
    · exact ⟨fun _ => ⟨rfl, rfl⟩, fun h => absurd h (by show (5 : Int) ≠ 0; omega)⟩
    · split
      · exact ⟨fun _ => ⟨rfl, rfl⟩, fun h => absurd h (by show (4 : Int) ≠ 0; omega)⟩
      · split
        · exact ⟨fun h => absurd rfl h, fun _ => rfl⟩
        · exact ih _ _
abbrev gv (g : Int × Int × Int × Int) : Value := .tuple #[.int .u64 g.1, .int .i64 g.2.1, .agg #[.int .i64 g.2.2.1, .int .i64 g.2.2.2]]
end Go.Proofs.YtlealkfkddhnnaaGreat.Cur
namespace Go.Proofs.YtlealkfkddhnnaaGreat.Cur
open Go.RowKit Mem
set_option linter.unusedVariables false
def acc (z : List Int) : Nat → Int
  | 0 => 0
  | k + 1 => acc z k + z.getD k 0 % 128 * 128 ^ k
theorem acc_bd (z : List Int) (k : Nat) : 0 ≤ acc z k ∧ acc z k < 128 ^ k := by
  induction k with
  | zero => exact ⟨Int.le_refl _, by show (0 : Int) < 1; omega⟩
  | succ k ih =>
    have hp := pow128_pos k
    have h := orv_lt k (acc z k) (z.getD k 0) ih.1 ih.2
    have := Int.mul_nonneg (show 0 ≤ z.getD k 0 % 128 by omega) (Int.le_of_lt hp)
    exact ⟨by unfold acc; omega, h⟩
theorem acc_digit (z : List Int) (j : Nat) : ∀ d, ∃ S : Int, acc z (j + 1 + d) = acc z j + 128 ^ j * S ∧ S % 128 = z.getD j 0 % 128 := by
  intro d
  induction d with
  | zero => exact ⟨z.getD j 0 % 128, by show acc z j + _ = _; rw [Int.mul_comm], by omega⟩
  | succ d ih =>
    obtain ⟨S, h1, h2⟩ := ih
    refine ⟨S + 128 * (128 ^ d * (z.getD (j + 1 + d) 0 % 128)), ?_, by omega⟩
    show acc z (j + 1 + d) + z.getD (j + 1 + d) 0 % 128 * 128 ^ (j + 1 + d) = _
    rw [h1, Int.pow_add, Int.pow_add, Int.mul_add, Int.add_assoc]
    congr 2
    simp only [Int.pow_one]
    generalize z.getD (j + 1 + d) 0 % 128 = y
    generalize (128 : Int) ^ j = P
    generalize (128 : Int) ^ d = R
    rw [Int.mul_comm y, Int.mul_assoc, Int.mul_assoc, ← Int.mul_assoc 128 R y, Int.mul_assoc 128 R y]
theorem acc_div (z : List Int) (k j : Nat) (h : j < k) : acc z k / 128 ^ j = 128 * (acc z k / 128 ^ (j + 1)) + z.getD j 0 % 128 := by
  obtain ⟨S, h1, h2⟩ := acc_digit z j (k - j - 1)
  rw [show j + 1 + (k - j - 1) = k by omega] at h1
  obtain ⟨b0, b1⟩ := acc_bd z j
  have hp := pow128_pos j
  have e : acc z k / 128 ^ j = S := by
    rw [h1, Int.add_comm, Int.mul_comm, Int.add_comm, Int.add_mul_ediv_right _ _ (by omega), Int.ediv_eq_zero_of_lt b0 b1]; omega
  rw [← div128', e, ← h2]; omega
theorem acc_top (z : List Int) (k : Nat) : acc z k / 128 ^ k = 0 := Int.ediv_eq_zero_of_lt (acc_bd z k).1 (acc_bd z k).2
theorem acc_64 (z : List Int) (k : Nat) (hk : k ≤ 9) (h : k = 9 → z.getD 9 0 % 128 ≤ 1) : acc z (k + 1) < 18446744073709551616 := by
  rcases Nat.lt_or_ge k 9 with h1 | h1
  · exact Int.lt_of_lt_of_le (acc_bd z (k + 1)).2 (Int.le_trans (pow128_mono (show k + 1 ≤ 9 by omega)) (by decide))
  · obtain rfl : k = 9 := by omega
    have := h rfl
    obtain ⟨b0, b1⟩ := acc_bd z 9
    show acc z 9 + z.getD 9 0 % 128 * 128 ^ 9 < _
    have e : (128 : Int) ^ 9 = 9223372036854775808 := by decide
    rw [e] at b1 ⊢
    omega
theorem vgo_at {z : List Int} {n k : Nat} (hz : z.length = n) (hk : k < n) (i : Nat) (X : Int) : vgo (z.drop k) i X = vgo (z.getD k 0 :: z.drop (k + 1)) i X := by rw [drop_cons hz hk]
set_option maxRecDepth 100000 in
set_option maxHeartbeats 2000000 in
theorem rget_any (a : Option Addr) (n m : Nat) (z : List Int) (w : World) (hz : Bs w a n z) (hn : n ≤ 1000000) (hby : ∀ x ∈ z, 0 ≤ x ∧ x < 256) :
    Calls Tryz.prog 131 #[.slice a n m] w fun e w' => e = .returned (gv (vgo z 0 0)) ∧ Below w.heap.size w w' := by
  have hF := Blk.new w #[.int .i64 0, .int .i64 0] 48
  have hbd := below_one w (.cells #[.int .i64 0, .int .i64 0] 48)
  have hz1 := hz.below hbd
  go_enter Tryz.func131, Tryz.ntmps131
  go_wp2_with fail
  go_loopw [5] (fun i wr => ∃ k : Nat, k ≤ n ∧ k ≤ 9 ∧ i = .int .i64 k ∧ vgo z 0 0 = vgo (z.drop k) k (acc z k) ∧ wr = w.alloc (.cells #[.int .i64 0, .int .i64 0] 48)) (fun i _ => n - (intOf i).toNat)
  case atStart => exact ⟨0, Nat.zero_le _, Nat.zero_le _, rfl, rfl, rfl⟩
  case round =>
    obtain ⟨k, hk, hk9, rfl, hv, rfl⟩ := hrel
    have k0 : (0 : Int) ≤ k := by omega
    by_cases hlt : k < n
    · have hbb : 0 ≤ z.getD k 0 ∧ z.getD k 0 < 256 := by
        refine hby _ ?_
        have : k < z.length := by rw [hz.1]; exact hlt
        rw [List.getD_eq_getElem?_getD, List.getElem?_eq_getElem this]
        exact List.getElem_mem _
      rw [vgo_at hz.1 hlt] at hv
      obtain ⟨g, o, rfl, hc⟩ := hz1.at_ hlt
      have hcz : ∀ j : Nat, j < n → (w.alloc (.cells #[.int .i64 0, .int .i64 0] 48)).cell? ⟨g, o + j, none⟩ = some (.int .u8 (z.getD j 0)) := fun j hj => by
        obtain ⟨g', o', e, h⟩ := hz1.at_ hj
        injection e with e; injection e with e1 e2; subst e1 e2; exact h
      have HCZ := Lib.hid hcz
      have HBY := Lib.hid hby
      clear hcz hby
      obtain ⟨bb, hbe⟩ : ∃ bb, bb = z.getD k 0 := ⟨_, rfl⟩
      rw [← hbe] at hbb hv hc
      have HBE := Lib.hid hbe
      have HV0 := Lib.hid hv
      clear hbe hv
      obtain ⟨b0, b1⟩ := hbb
      have k1 : (k : Int) < n := by omega
      by_cases hi9 : k = 9
      · have hi9d : ((k : Int) == 9) = true := by simp; omega
        have hi0 : 0 < (k : Int) := by omega
        have H9 := Lib.hid hi9
        clear hi9
        by_cases ho : 1 < bb
        · have hv1 := HV0.out.trans (vgo_over H9.out ho)
          have HV := Lib.hid hv1
          clear hv1
          obtain ⟨f0, f1⟩ := hF.f2
          go_wp2_with fail
          refine (rat_any _ _ _).mono ?_
          rintro e w1 ⟨rfl, hb1⟩
          have hF1 := hF.below hb1
          obtain ⟨g0, g1⟩ := hF1.f2
          obtain ⟨c0, c1⟩ := hF1.c2
          clear f0 f1
          have hq : fq 5 (k : Int) = (k : Int) := by unfold fq; rw [if_neg (by omega)]
          have HQ := Lib.hid hq
          clear hq
          go_wp2
          refine bodyPost_ret (v := gv (vgo z 0 0)) (by rw [HV.out]; simp [results, Tryz.results131, go_sem, c0, c1, HQ.out]) rfl ⟨rfl, ?_⟩
          iterate 2 (refine Below.setCell ?_ (by simp) _)
          exact hbd.trans (hb1.mono hbd.size)
        · by_cases hb0 : bb = 0
          · have hv1 := HV0.out.trans (vgo_zero (by omega) hb0)
            subst hb0
            have HV := Lib.hid hv1
            clear hv1
            obtain ⟨f0, f1⟩ := hF.f2
            go_wp2_with fail
            refine (rat_any _ _ _).mono ?_
            rintro e w1 ⟨rfl, hb1⟩
            have hF1 := hF.below hb1
            obtain ⟨g0, g1⟩ := hF1.f2
            obtain ⟨c0, c1⟩ := hF1.c2
            clear f0 f1
            have hq : fq 4 (k : Int) = (k : Int) := by unfold fq; rw [if_neg (by omega)]
            have HQ := Lib.hid hq
            clear hq
            go_wp2
            refine bodyPost_ret (v := gv (vgo z 0 0)) (by rw [HV.out]; simp [results, Tryz.results131, go_sem, c0, c1, HQ.out]) rfl ⟨rfl, ?_⟩
            iterate 2 (refine Below.setCell ?_ (by simp) _)
            exact hbd.trans (hb1.mono hbd.size)
          · have hbz : (bb == 0) = false := by simpa using hb0
            have hlt8 : bb < 128 := by omega
            have hv1 := HV0.out.trans (vgo_done (by omega) (fun h => hb0 h.2) (by omega))
            have HV := Lib.hid hv1
            have ha64 := acc_64 z k (by omega) (fun h => by rw [show (9 : Nat) = k by omega, ← HBE.out]; omega)
            clear hv1 hb0
            obtain ⟨T, hT⟩ : ∃ T, T = acc z (k + 1) := ⟨_, rfl⟩
            have ht0 := acc_top z (k + 1)
            have hTx : acc z k + bb * 128 ^ k = T := by rw [hT]; show _ = acc z k + z.getD k 0 % 128 * 128 ^ k; rw [← HBE.out, Int.emod_eq_of_lt (by omega) (by omega)]
            rw [← hT] at ht0 ha64
            have HT := Lib.hid hT
            have HT0 := Lib.hid ht0
            have HTX := Lib.hid hTx
            have hTb : 0 ≤ T := by rw [hT]; exact (acc_bd z (k + 1)).1
            clear hT ht0 hTx
            go_wp2_with fail
            go_loop [6, 7] (fun x i => ∃ j : Nat, j ≤ k + 1 ∧ i = .int .i64 ((j : Int) - 1) ∧ x = .int .u64 (T / 128 ^ j)) (fun _ i => (intOf i + 1).toNat)
            case atStart => exact ⟨k + 1, Nat.le_refl _, by go_num, by rw [HT0.out]⟩
            case round =>
              obtain ⟨j, hj, rfl, rfl⟩ := hrel
              rcases j with _ | j
              · have e1 : ((0 : Nat) : Int) - 1 = -1 := by omega
                rw [e1]
                clear e1
                obtain ⟨f0, f1⟩ := hF.f2
                obtain ⟨c0, c1⟩ := hF.c2
                have e2 : T / 128 ^ 0 = T := by simp
                rw [e2]
                clear e2
                go_wp2
                refine bodyPost_ret (v := gv (vgo z 0 0)) (by rw [HV.out, HTX.out]; simp [results, Tryz.results131, go_sem, c0, c1]) rfl ⟨rfl, ?_⟩
                exact below_one _ _
              · have hcj := HCZ.out j (by omega)
                have hbj := HBY.out (z.getD j 0) (by
                  have : j < z.length := by rw [hz.1]; omega
                  rw [List.getD_eq_getElem?_getD, List.getElem?_eq_getElem this]
                  exact List.getElem_mem _)
                have hst := acc_div z (k + 1) j (by omega)
                rw [← HT.out] at hst
                have X0 : 0 ≤ T / 128 ^ (j + 1) := Int.ediv_nonneg hTb (Int.le_of_lt (pow128_pos _))
                have X1 : T / 128 ^ j ≤ T := Int.ediv_le_self _ hTb
                have HST := Lib.hid hst
                have HX : 128 * (T / 128 ^ (j + 1)) + z.getD j 0 % 128 < 18446744073709551616 := by rw [← hst]; omega
                clear hst X1
                generalize z.getD j 0 = y at *
                obtain ⟨y0, y1⟩ := hbj
                generalize T / 128 ^ (j + 1) = Y at *
                have e1 : ((j + 1 : Nat) : Int) - 1 = j := by omega
                rw [e1]
                clear e1
                have j0 : (0 : Int) ≤ j := by omega
                have j1 : (j : Int) < n := by omega
                have j2 : 128 * Y < 18446744073709551616 := by omega
                have m0 : 0 ≤ y % 128 := by omega
                have m1 : y % 128 < 128 := by omega
                go_wp2
                go_round
                case rel => exact ⟨j, by omega, rfl, by rw [HST.out]⟩
                case measure => simp [intOf]
      · have hi9d : ((k : Int) == 9) = false := by simp; omega
        have H9 := Lib.hid hi9
        have ha64 := acc_64 z k (by omega) (fun h => absurd h hi9)
        clear hi9
        by_cases hb0 : bb = 0
        · by_cases hi0 : 0 < (k : Int)
          · have hv1 := HV0.out.trans (vgo_zero (by omega) hb0)
            subst hb0
            have HV := Lib.hid hv1
            clear hv1
            obtain ⟨f0, f1⟩ := hF.f2
            go_wp2_with fail
            refine (rat_any _ _ _).mono ?_
            rintro e w1 ⟨rfl, hb1⟩
            have hF1 := hF.below hb1
            obtain ⟨g0, g1⟩ := hF1.f2
            obtain ⟨c0, c1⟩ := hF1.c2
            clear f0 f1
            have hq : fq 4 (k : Int) = (k : Int) := by unfold fq; rw [if_neg (by omega)]
            have HQ := Lib.hid hq
            clear hq
            go_wp2
            refine bodyPost_ret (v := gv (vgo z 0 0)) (by rw [HV.out]; simp [results, Tryz.results131, go_sem, c0, c1, HQ.out]) rfl ⟨rfl, ?_⟩
            iterate 2 (refine Below.setCell ?_ (by simp) _)
            exact hbd.trans (hb1.mono hbd.size)
          · have hv1 := HV0.out.trans (vgo_done (fun h => H9.out h.1) (fun h => by omega) (by omega))
            subst hb0
            have HV := Lib.hid hv1
            clear hv1
            obtain ⟨T, hT⟩ : ∃ T, T = acc z (k + 1) := ⟨_, rfl⟩
            have ht0 := acc_top z (k + 1)
            have hTx : acc z k + 0 * 128 ^ k = T := by rw [hT]; show _ = acc z k + z.getD k 0 % 128 * 128 ^ k; rw [← HBE.out, Int.emod_eq_of_lt (by omega) (by omega)]
            rw [← hT] at ht0 ha64
            have HT := Lib.hid hT
            have HT0 := Lib.hid ht0
            have HTX := Lib.hid hTx
            have hTb : 0 ≤ T := by rw [hT]; exact (acc_bd z (k + 1)).1
            clear hT ht0 hTx
            go_wp2_with fail
            go_loop [6, 7] (fun x i => ∃ j : Nat, j ≤ k + 1 ∧ i = .int .i64 ((j : Int) - 1) ∧ x = .int .u64 (T / 128 ^ j)) (fun _ i => (intOf i + 1).toNat)
            case atStart => exact ⟨k + 1, Nat.le_refl _, by go_num, by rw [HT0.out]⟩
            case round =>
              obtain ⟨j, hj, rfl, rfl⟩ := hrel
              rcases j with _ | j
              · have e1 : ((0 : Nat) : Int) - 1 = -1 := by omega
                rw [e1]
                clear e1
                obtain ⟨f0, f1⟩ := hF.f2
                obtain ⟨c0, c1⟩ := hF.c2
                have e2 : T / 128 ^ 0 = T := by simp
                rw [e2]
                clear e2
                go_wp2
                refine bodyPost_ret (v := gv (vgo z 0 0)) (by rw [HV.out, HTX.out]; simp [results, Tryz.results131, go_sem, c0, c1]) rfl ⟨rfl, ?_⟩
                exact below_one _ _
              · have hcj := HCZ.out j (by omega)
                have hbj := HBY.out (z.getD j 0) (by
                  have : j < z.length := by rw [hz.1]; omega
                  rw [List.getD_eq_getElem?_getD, List.getElem?_eq_getElem this]
                  exact List.getElem_mem _)
                have hst := acc_div z (k + 1) j (by omega)
                rw [← HT.out] at hst
                have X0 : 0 ≤ T / 128 ^ (j + 1) := Int.ediv_nonneg hTb (Int.le_of_lt (pow128_pos _))
                have X1 : T / 128 ^ j ≤ T := Int.ediv_le_self _ hTb
                have HST := Lib.hid hst
                have HX : 128 * (T / 128 ^ (j + 1)) + z.getD j 0 % 128 < 18446744073709551616 := by rw [← hst]; omega
                clear hst X1
                generalize z.getD j 0 = y at *
                obtain ⟨y0, y1⟩ := hbj
                generalize T / 128 ^ (j + 1) = Y at *
                have e1 : ((j + 1 : Nat) : Int) - 1 = j := by omega
                rw [e1]
                clear e1
                have j0 : (0 : Int) ≤ j := by omega
                have j1 : (j : Int) < n := by omega
                have j2 : 128 * Y < 18446744073709551616 := by omega
                have m0 : 0 ≤ y % 128 := by omega
                have m1 : y % 128 < 128 := by omega
                go_wp2
                go_round
                case rel => exact ⟨j, by omega, rfl, by rw [HST.out]⟩
                case measure => simp [intOf]
        · have hbz : (bb == 0) = false := by simpa using hb0
          have HB0 := Lib.hid hb0
          clear hb0
          by_cases hlt8 : bb < 128
          · have hv1 := HV0.out.trans (vgo_done (fun h => H9.out h.1) (fun h => HB0.out h.2) hlt8)
            have HV := Lib.hid hv1
            clear hv1
            by_cases hi0 : 0 < (k : Int)
            · obtain ⟨T, hT⟩ : ∃ T, T = acc z (k + 1) := ⟨_, rfl⟩
              have ht0 := acc_top z (k + 1)
              have hTx : acc z k + bb * 128 ^ k = T := by rw [hT]; show _ = acc z k + z.getD k 0 % 128 * 128 ^ k; rw [← HBE.out, Int.emod_eq_of_lt (by omega) (by omega)]
              rw [← hT] at ht0 ha64
              have HT := Lib.hid hT
              have HT0 := Lib.hid ht0
              have HTX := Lib.hid hTx
              have hTb : 0 ≤ T := by rw [hT]; exact (acc_bd z (k + 1)).1
              clear hT ht0 hTx
              go_wp2_with fail
              go_loop [6, 7] (fun x i => ∃ j : Nat, j ≤ k + 1 ∧ i = .int .i64 ((j : Int) - 1) ∧ x = .int .u64 (T / 128 ^ j)) (fun _ i => (intOf i + 1).toNat)
              case atStart => exact ⟨k + 1, Nat.le_refl _, by go_num, by rw [HT0.out]⟩
              case round =>
                obtain ⟨j, hj, rfl, rfl⟩ := hrel
                rcases j with _ | j
                · have e1 : ((0 : Nat) : Int) - 1 = -1 := by omega
                  rw [e1]
                  clear e1
                  obtain ⟨f0, f1⟩ := hF.f2
                  obtain ⟨c0, c1⟩ := hF.c2
                  have e2 : T / 128 ^ 0 = T := by simp
                  rw [e2]
                  clear e2
                  go_wp2
                  refine bodyPost_ret (v := gv (vgo z 0 0)) (by rw [HV.out, HTX.out]; simp [results, Tryz.results131, go_sem, c0, c1]) rfl ⟨rfl, ?_⟩
                  exact below_one _ _
                · have hcj := HCZ.out j (by omega)
                  have hbj := HBY.out (z.getD j 0) (by
                    have : j < z.length := by rw [hz.1]; omega
                    rw [List.getD_eq_getElem?_getD, List.getElem?_eq_getElem this]
                    exact List.getElem_mem _)
                  have hst := acc_div z (k + 1) j (by omega)
                  rw [← HT.out] at hst
                  have X0 : 0 ≤ T / 128 ^ (j + 1) := Int.ediv_nonneg hTb (Int.le_of_lt (pow128_pos _))
                  have X1 : T / 128 ^ j ≤ T := Int.ediv_le_self _ hTb
                  have HST := Lib.hid hst
                  have HX : 128 * (T / 128 ^ (j + 1)) + z.getD j 0 % 128 < 18446744073709551616 := by rw [← hst]; omega
                  clear hst X1
                  generalize z.getD j 0 = y at *
                  obtain ⟨y0, y1⟩ := hbj
                  generalize T / 128 ^ (j + 1) = Y at *
                  have e1 : ((j + 1 : Nat) : Int) - 1 = j := by omega
                  rw [e1]
                  clear e1
                  have j0 : (0 : Int) ≤ j := by omega
                  have j1 : (j : Int) < n := by omega
                  have j2 : 128 * Y < 18446744073709551616 := by omega
                  have m0 : 0 ≤ y % 128 := by omega
                  have m1 : y % 128 < 128 := by omega
                  go_wp2
                  go_round
                  case rel => exact ⟨j, by omega, rfl, by rw [HST.out]⟩
                  case measure => simp [intOf]
            · obtain ⟨T, hT⟩ : ∃ T, T = acc z (k + 1) := ⟨_, rfl⟩
              have ht0 := acc_top z (k + 1)
              have hTx : acc z k + bb * 128 ^ k = T := by rw [hT]; show _ = acc z k + z.getD k 0 % 128 * 128 ^ k; rw [← HBE.out, Int.emod_eq_of_lt (by omega) (by omega)]
              rw [← hT] at ht0 ha64
              have HT := Lib.hid hT
              have HT0 := Lib.hid ht0
              have HTX := Lib.hid hTx
              have hTb : 0 ≤ T := by rw [hT]; exact (acc_bd z (k + 1)).1
              clear hT ht0 hTx
              go_wp2_with fail
              go_loop [6, 7] (fun x i => ∃ j : Nat, j ≤ k + 1 ∧ i = .int .i64 ((j : Int) - 1) ∧ x = .int .u64 (T / 128 ^ j)) (fun _ i => (intOf i + 1).toNat)
              case atStart => exact ⟨k + 1, Nat.le_refl _, by go_num, by rw [HT0.out]⟩
              case round =>
                obtain ⟨j, hj, rfl, rfl⟩ := hrel
                rcases j with _ | j
                · have e1 : ((0 : Nat) : Int) - 1 = -1 := by omega
                  rw [e1]
                  clear e1
                  obtain ⟨f0, f1⟩ := hF.f2
                  obtain ⟨c0, c1⟩ := hF.c2
                  have e2 : T / 128 ^ 0 = T := by simp
                  rw [e2]
                  clear e2
                  go_wp2
                  refine bodyPost_ret (v := gv (vgo z 0 0)) (by rw [HV.out, HTX.out]; simp [results, Tryz.results131, go_sem, c0, c1]) rfl ⟨rfl, ?_⟩
                  exact below_one _ _
                · have hcj := HCZ.out j (by omega)
                  have hbj := HBY.out (z.getD j 0) (by
                    have : j < z.length := by rw [hz.1]; omega
                    rw [List.getD_eq_getElem?_getD, List.getElem?_eq_getElem this]
                    exact List.getElem_mem _)
                  have hst := acc_div z (k + 1) j (by omega)
                  rw [← HT.out] at hst
                  have X0 : 0 ≤ T / 128 ^ (j + 1) := Int.ediv_nonneg hTb (Int.le_of_lt (pow128_pos _))
                  have X1 : T / 128 ^ j ≤ T := Int.ediv_le_self _ hTb
                  have HST := Lib.hid hst
                  have HX : 128 * (T / 128 ^ (j + 1)) + z.getD j 0 % 128 < 18446744073709551616 := by rw [← hst]; omega
                  clear hst X1
                  generalize z.getD j 0 = y at *
                  obtain ⟨y0, y1⟩ := hbj
                  generalize T / 128 ^ (j + 1) = Y at *
                  have e1 : ((j + 1 : Nat) : Int) - 1 = j := by omega
                  rw [e1]
                  clear e1
                  have j0 : (0 : Int) ≤ j := by omega
                  have j1 : (j : Int) < n := by omega
                  have j2 : 128 * Y < 18446744073709551616 := by omega
                  have m0 : 0 ≤ y % 128 := by omega
                  have m1 : y % 128 < 128 := by omega
                  go_wp2
                  go_round
                  case rel => exact ⟨j, by omega, rfl, by rw [HST.out]⟩
                  case measure => simp [intOf]
          · have hv1 := HV0.out.trans (vgo_more (fun h => H9.out h.1) (by omega))
            have HV := Lib.hid hv1
            clear hv1
            by_cases hi0 : 0 < (k : Int)
            · go_wp2
              go_roundw
              case rel => exact ⟨k + 1, by omega, by have := H9.out; omega, by go_num, by rw [HV.out, HBE.out]; rfl, trivial⟩
              case measure => simp [intOf]; omega
            · go_wp2
              go_roundw
              case rel => exact ⟨k + 1, by omega, by have := H9.out; omega, by go_num, by rw [HV.out, HBE.out]; rfl, trivial⟩
              case measure => simp [intOf]; omega
    · obtain rfl : k = n := by omega
      have hv1 := hv.trans (by rw [List.drop_eq_nil_of_le (by have := hz.1; omega), vgo_nil])
      have HV := Lib.hid hv1
      have hge : ¬ (k : Int) < k := by omega
      clear hv1 hv hlt
      obtain ⟨f0, f1⟩ := hF.f2
      go_wp2_with fail
      refine (rat_any _ _ _).mono ?_
      rintro e w1 ⟨rfl, hb1⟩
      have hF1 := hF.below hb1
      obtain ⟨g0, g1⟩ := hF1.f2
      obtain ⟨c0, c1⟩ := hF1.c2
      clear f0 f1
      have hq : fq 1 (k : Int) = (k : Int) := by unfold fq; rw [if_neg (by omega)]
      have HQ := Lib.hid hq
      clear hq
      go_wp2
      refine bodyPost_ret (v := gv (vgo z 0 0)) (by rw [HV.out]; simp [results, Tryz.results131, go_sem, c0, c1, HQ.out]) rfl ⟨rfl, ?_⟩
      iterate 2 (refine Below.setCell ?_ (by simp) _)
      exact hbd.trans (hb1.mono hbd.size)
end Go.Proofs.YtlealkfkddhnnaaGreat.Cur
namespace Go.Proofs.YtlealkfkddhnnaaGreat.Cur
open Go.RowKit Mem
set_option linter.unusedVariables false
theorem slice_l {w : World} {A : Option Addr} {n : Nat} {z : List Int} (hz : Bs w A n z) (m : Nat) (l : Int) (h0 : 0 ≤ l) (h1 : l ≤ n) (hm : n ≤ m) :
    ∃ A' M, (∀ w', (Instr.slice 28 (.slice A n m) (some (.int .i64 l)) none none).run Tryz.prog w' = .ok (.slice A' (n - l).toNat M) w') ∧ Bs w A' (n - l).toNat (z.drop l.toNat) ∧ (n - l).toNat ≤ M := by
  have hs : ∀ w', (sizeOf 5).run Tryz.prog w' = .ok 1 w' := fun w' => by kernel_rfl
  have he : Tryz.prog.elem 28 = 5 := by kernel_rfl
  refine ⟨if m = l.toNat then A else A.map (·.add (l.toNat * 1)), m - l.toNat, fun w' => ?_, ?_, by omega⟩
  · have := run_slice_l (P := Tryz.prog) (w := w') 28 A n m (by rw [he]; exact Tryz.underlying28) .i64 l h0 h1
    rw [this, he, hs]
    simp [Result.andThen, sliced]
    omega
  · have := hz.sub m l.toNat n (by omega) (Nat.le_refl _) hm
    rw [show (n - l).toNat = n - l.toNat by omega]
    have e : piece z l.toNat n = z.drop l.toNat := by unfold piece; exact List.take_of_length_le (by rw [List.length_drop, hz.1]; exact Nat.le_refl _)
    rw [← e]
    exact this
def RRdPost (s : Value) (n : Nat) (z : List Int) (p c q : Int) (w : World) (e : Ending) (w' : World) : Prop :=
  ∃ v p' c' q', e = .returned (.tuple #[cv s p' c' q', .int .u64 v]) ∧ Below w.heap.size w w' ∧ RdSt n z p c q v p' c' q'
theorem vgo_place (l : List Int) : ∀ (i : Nat) (X : Int), 0 ≤ (vgo l i X).2.1 ∧ (vgo l i X).2.1 ≤ i + l.length ∧ 0 ≤ (vgo l i X).2.2.2 ∧ (vgo l i X).2.2.2 ≤ i + l.length ∧ ((vgo l i X).2.2.1 = 1 → (vgo l i X).2.2.2 = i + l.length) := by
  induction l with
  | nil => intro i X; exact ⟨Int.le_refl _, by show (0 : Int) ≤ i + _; omega, by show 0 ≤ (i : Int); omega, by show (i : Int) ≤ i + _; omega, fun _ => by show (i : Int) = i + 0; omega⟩
  | cons b l ih =>
    intro i X
    unfold vgo
    rw [List.length_cons]
    split
    · refine ⟨Int.le_refl _, by show (0 : Int) ≤ _; omega, by show 0 ≤ (i : Int); omega, by show (i : Int) ≤ _; omega, fun h => by exact absurd h (by show (5 : Int) ≠ 1; omega)⟩
    · split
      · refine ⟨Int.le_refl _, by show (0 : Int) ≤ _; omega, by show 0 ≤ (i : Int); omega, by show (i : Int) ≤ _; omega, fun h => by exact absurd h (by show (4 : Int) ≠ 1; omega)⟩
      · split
        · refine ⟨by show 0 ≤ (i : Int) + 1; omega, by show (i : Int) + 1 ≤ _; omega, Int.le_refl _, by show (0 : Int) ≤ _; omega, fun h => by exact absurd h (by show (0 : Int) ≠ 1; omega)⟩
        · obtain ⟨h1, h2, h3, h4, h5⟩ := ih (i + 1) (X + b % 128 * 128 ^ i)
          refine ⟨h1, by omega, h3, by omega, fun h => by have := h5 h; omega⟩
set_option maxRecDepth 100000 in
set_option maxHeartbeats 1000000 in
theorem rread_any (a : Option Addr) (n m : Nat) (z : List Int) (p c q : Int) (w : World) (hz : Bs w a n z) (h0 : 0 ≤ p) (h1 : p ≤ n) (hm : n ≤ m) (hn : n ≤ 1000000) (hby : ∀ x ∈ z, 0 ≤ x ∧ x < 256) :
    Calls Tryz.prog 96 #[cv (.slice a n m) p c q] w (RRdPost (.slice a n m) n z p c q w) := by
  by_cases hc : c = 0
  · subst hc
    obtain ⟨A', M', hsl, hA, hM⟩ := slice_l hz m p h0 h1 hm
    have hst : ∀ v p' c' q', VgSt n p q (vgo (z.drop p.toNat) 0 0) v p' c' q' → RdSt n z p 0 q v p' c' q' := fun v p' c' q' h => .inr ⟨rfl, h⟩
    have hg := fun w' (hb : Below w.heap.size w w') => rget_any A' (n - p).toNat M' (z.drop p.toNat) w' (hA.below hb) (by omega) (fun x hx => hby x (List.mem_of_mem_drop hx))
    obtain ⟨s1, s2⟩ := vgo_shape (z.drop p.toNat) 0 0
    obtain ⟨l1, l2, l3, l4, l5⟩ := vgo_place (z.drop p.toNat) 0 0
    have hlen : ((0 : Nat) : Int) + (z.drop p.toNat).length = n - p := by rw [List.length_drop, hz.1]; omega
    rw [hlen] at l2 l4 l5
    have HG := Lib.hid hg
    have HST := Lib.hid hst
    clear hst hlen
    unfold gv at hg
    generalize vgo (z.drop p.toNat) 0 0 = g at *
    obtain ⟨x, k, gc, ga⟩ := g
    simp only at s1 s2 l1 l2 l3 l4 l5 hg
    have HG := Lib.hid hg
    clear hg
    go_enter Tryz.func96, Tryz.ntmps96
    go_wp2_with fail
    refine (HG.out _ (below_two _ _ _)).mono ?_
    rintro e w1 ⟨rfl, hb⟩
    obtain ⟨hC, hR, hbd⟩ := two_new hb
    clear hsl hb
    have hC2 := hC.alloc (.cells #[.int .i64 gc, .int .i64 ga] 48)
    have hR2 := hR.alloc (.cells #[.int .i64 gc, .int .i64 ga] 48)
    have n0 : w1.heap.size ≠ w.heap.size := by have := hC.lt; omega
    have n1 : w1.heap.size ≠ w.heap.size + 1 := by have := hR.lt; omega
    by_cases hgc : gc = 0
    · subst hgc
      rw [s2 rfl] at hC2 hR2
      rw [s2 rfl]
      obtain ⟨c0, c1, c2, c3⟩ := hC2.c4
      obtain ⟨f0, f1, f2, f3⟩ := hC2.f4
      obtain ⟨g0, g1, g2, g3⟩ := hR2.f4
      obtain ⟨r0, r1, r2, r3⟩ := hR2.c4
      have hst := HST.out x (p + k) 0 q (.inl ⟨rfl, rfl, rfl, rfl, rfl⟩)
      have HS := Lib.hid hst
      clear s1 s2 l3 l4 l5 hst
      go_wp2
      refine bodyPost_ret (v := .tuple #[cv (.slice a n m) (p + k) 0 q, .int .u64 x]) (by simp [results, Tryz.results96, go_sem, r0, r1, r2, r3]) rfl ⟨x, p + k, 0, q, rfl, ?_, HS.out⟩
      iterate 5 (refine Below.setCell ?_ (by simp) _)
      exact hbd.alloc hbd.size _
    · obtain ⟨rfl, rfl⟩ := s1 hgc
      have hgd : (gc == 0) = false := by simpa using hgc
      clear s1 s2 l1 l2
      by_cases hg1 : gc = 1
      · have e5 := l5 hg1
        subst hg1
        have hst := HST.out 0 n 1 n (.inr ⟨by show (1 : Int) ≠ 0; omega, rfl, rfl, by show (n : Int) = p + ga; omega, by show (n : Int) = if (1 : Int) = 1 then (n : Int) else _; rw [if_pos rfl]⟩)
        have HS := Lib.hid hst
        clear hst e5 l5 hgc
        obtain ⟨c0, c1, c2, c3⟩ := hC2.c4
        obtain ⟨f0, f1, f2, f3⟩ := hC2.f4
        go_wp2_with fail
        refine (rat_any _ _ _).mono ?_
        rintro e w2 ⟨rfl, hb2⟩
        have hC3 := (hC2.set 1 (.int .i64 n)).below hb2
        have hR3 := (hR2.far 1 (.int .i64 n) (by omega)).below hb2
        have hF3 := ((Blk.new w1 #[.int .i64 1, .int .i64 ga] 48).far 1 (.int .i64 n) n0).below hb2
        have hbd2 : Below w.heap.size w w2 := (Below.setCell (hbd.alloc hbd.size _) (Nat.le_refl _) _).trans (hb2.mono (by have := hbd.size; simp [World.setCell]; omega))
        clear c0 c1 c2 c3 f0 f1 f2 f3 hC2 hR2 hb2
        obtain ⟨c0, c1, c2, c3⟩ := hC3.c4
        obtain ⟨f0, f1, f2, f3⟩ := hC3.f4
        obtain ⟨g0, g1, g2, g3⟩ := hR3.f4
        obtain ⟨r0, r1, r2, r3⟩ := hR3.c4
        obtain ⟨d0, d1⟩ := hF3.c2
        go_wp2
        refine bodyPost_ret (v := .tuple #[cv (.slice a n m) n 1 (fq 1 n), .int .u64 0]) (by simp [results, Tryz.results96, go_sem, r0, r1, r2, r3]) rfl ⟨0, n, 1, n, by rw [show fq 1 (n : Int) = n from rfl], ?_, HS.out⟩
        iterate 6 (refine Below.setCell ?_ (by simp) _)
        exact hbd2
      · have hg1d : (gc == 1) = false := by simpa using hg1
        have hg1e : (gc != 1) = true := by simpa using hg1
        have hst := HST.out 0 (p + ga + 1) gc (p + ga) (.inr ⟨hgc, rfl, rfl, rfl, by show _ = if gc = 1 then (n : Int) else _; rw [if_neg hg1]⟩)
        have HS := Lib.hid hst
        clear hst l5 hgc hg1
        obtain ⟨c0, c1, c2, c3⟩ := hC2.c4
        obtain ⟨f0, f1, f2, f3⟩ := hC2.f4
        go_wp2_with fail
        refine (rat_any _ _ _).mono ?_
        rintro e w2 ⟨rfl, hb2⟩
        have hC3 := (hC2.set 1 (.int .i64 (p + ga + 1))).below hb2
        have hR3 := (hR2.far 1 (.int .i64 (p + ga + 1)) (by omega)).below hb2
        have hF3 := ((Blk.new w1 #[.int .i64 gc, .int .i64 ga] 48).far 1 (.int .i64 (p + ga + 1)) n0).below hb2
        have hbd2 : Below w.heap.size w w2 := (Below.setCell (hbd.alloc hbd.size _) (Nat.le_refl _) _).trans (hb2.mono (by have := hbd.size; simp [World.setCell]; omega))
        clear c0 c1 c2 c3 f0 f1 f2 f3 hC2 hR2 hb2
        obtain ⟨c0, c1, c2, c3⟩ := hC3.c4
        obtain ⟨f0, f1, f2, f3⟩ := hC3.f4
        obtain ⟨g0, g1, g2, g3⟩ := hR3.f4
        obtain ⟨r0, r1, r2, r3⟩ := hR3.c4
        obtain ⟨d0, d1⟩ := hF3.c2
        have hC4 := ((hC3.set 2 (.int .i64 gc)).set 3 (.int .i64 (fq gc (p + ga + 1)))).set 3 (.int .i64 (p + ga))
        obtain ⟨e0, e1, e2, e3⟩ := hC4.c4
        go_wp2
        refine bodyPost_ret (v := .tuple #[cv (.slice a n m) (p + ga + 1) gc (p + ga), .int .u64 0]) (by simp [results, Tryz.results96, go_sem, r0, r1, r2, r3]) rfl ⟨0, _, _, _, rfl, ?_, HS.out⟩
        iterate 7 (refine Below.setCell ?_ (by simp) _)
        exact hbd2
  · have hcb : (c != 0) = true := by simpa using hc
    have H := Lib.hid hc
    clear hc
    go_enter Tryz.func96, Tryz.ntmps96
    go_wp2
    refine bodyPost_ret (v := .tuple #[cv (.slice a n m) p c q, .int .u64 0]) (by simp [results, Tryz.results96, go_sem]) rfl ⟨0, p, c, q, rfl, below_two _ _ _, .inl ⟨H.out, rfl, rfl, rfl, rfl⟩⟩
end Go.Proofs.YtlealkfkddhnnaaGreat.Cur
namespace Go.Proofs.YtlealkfkddhnnaaGreat.Cur
open Go.RowKit Mem
set_option linter.unusedVariables false
def RMostPost (s : Value) (n : Nat) (z : List Int) (p c q mo : Int) (w : World) (e : Ending) (w' : World) : Prop :=
  ∃ v p' c' q', e = .returned (.tuple #[cv s p' c' q', .int .u64 v]) ∧ Below w.heap.size w w' ∧ MostSt n z p c q mo v p' c' q'
set_option maxRecDepth 100000 in
set_option maxHeartbeats 1000000 in
theorem rmost_any (a : Option Addr) (n m : Nat) (z : List Int) (p c q mo : Int) (w : World) (hz : Bs w a n z) (h0 : 0 ≤ p) (h1 : p ≤ n) (hm : n ≤ m) (hn : n ≤ 1000000) (hby : ∀ x ∈ z, 0 ≤ x ∧ x < 256) :
    Calls Tryz.prog 97 #[cv (.slice a n m) p c q, .int .u64 mo] w (RMostPost (.slice a n m) n z p c q mo w) := by
  go_enter Tryz.func97, Tryz.ntmps97
  go_wp2_with fail
  refine (rread_any _ _ _ _ _ _ _ _ (hz.below (below_two _ _ _)) h0 h1 hm hn hby).mono ?_
  rintro e w1 ⟨v0, p', c0, q0, rfl, hb, hs⟩
  obtain ⟨hC, hR, hbd⟩ := two_new hb
  have HS := Lib.hid hs
  have hR2 := hR.alloc (.cells #[.slice a n m, .int .i64 p', .int .i64 c0, .int .i64 q0] 50)
  have hbd2 := hbd.trans ((below_one w1 (.cells #[.slice a n m, .int .i64 p', .int .i64 c0, .int .i64 q0] 50)).mono hbd.size)
  clear hs hb
  by_cases hv : mo < v0
  · go_wp2_with fail
    refine (rfail_any _ _ _ _ _ _ _ _ _).mono ?_
    rintro e w2 ⟨c2, q2, rfl, hb2, hf⟩
    have HF := Lib.hid hf
    have hR3 := hR2.below hb2
    have hbd3 := hbd2.trans (hb2.mono hbd2.size)
    clear hf hb2
    obtain ⟨r0, r1, r2, r3⟩ := hR3.c4
    obtain ⟨g0, g1, g2, g3⟩ := hR3.f4
    go_wp2
    refine bodyPost_ret (v := .tuple #[cv (.slice a n m) p' c2 q2, .int .u64 0]) (by simp [results, Tryz.results97, go_sem, r0, r1, r2, r3]) rfl ⟨0, _, _, _, rfl, ?_, _, _, _, HS.out, .inl ⟨hv, rfl, HF.out⟩⟩
    iterate 4 (refine Below.setCell ?_ (by simp) _)
    exact hbd3
  · obtain ⟨r0, r1, r2, r3⟩ := hR2.c4
    obtain ⟨g0, g1, g2, g3⟩ := hR2.f4
    go_wp2
    refine bodyPost_ret (v := .tuple #[cv (.slice a n m) p' c0 q0, .int .u64 v0]) (by simp [results, Tryz.results97, go_sem, r0, r1, r2, r3]) rfl ⟨v0, _, _, _, rfl, ?_, _, _, _, HS.out, .inr ⟨by omega, rfl, rfl, rfl⟩⟩
    iterate 4 (refine Below.setCell ?_ (by simp) _)
    exact hbd2
def RIntPost (s : Value) (n : Nat) (z : List Int) (p c q mo : Int) (w : World) (e : Ending) (w' : World) : Prop :=
  ∃ v p' c' q', e = .returned (.tuple #[cv s p' c' q', .int .i64 v]) ∧ Below w.heap.size w w' ∧ IntSt n z p c q mo v p' c' q'
set_option maxRecDepth 100000 in
set_option maxHeartbeats 1000000 in
theorem rint_any (a : Option Addr) (n m : Nat) (z : List Int) (p c q mo : Int) (w : World) (hz : Bs w a n z) (h0 : 0 ≤ p) (h1 : p ≤ n) (hm : n ≤ m) (hn : n ≤ 1000000) (hby : ∀ x ∈ z, 0 ≤ x ∧ x < 256) (hmo1 : mo ≤ 9223372036854775807) :
    Calls Tryz.prog 57 #[cv (.slice a n m) p c q, .int .i64 mo] w (RIntPost (.slice a n m) n z p c q mo w) := by
  by_cases hmo : 0 ≤ mo
  · have hmu : mo < 18446744073709551616 := by omega
    go_enter Tryz.func57, Tryz.ntmps57
    go_wp2_with fail
    refine (rmost_any _ _ _ _ _ _ _ _ _ (hz.below (below_two _ _ _)) h0 h1 hm hn hby).mono ?_
    rintro e w1 ⟨v0, p', c0, q0, rfl, hb, hs⟩
    obtain ⟨hC, hR, hbd⟩ := two_new hb
    obtain ⟨b0, b1⟩ := hs.bd hmo hby
    have b2 : v0 ≤ 9223372036854775807 := by omega
    have HS := Lib.hid hs
    have hR2 := hR.alloc (.cells #[.slice a n m, .int .i64 p', .int .i64 c0, .int .i64 q0] 50)
    have hbd2 := hbd.trans ((below_one w1 (.cells #[.slice a n m, .int .i64 p', .int .i64 c0, .int .i64 q0] 50)).mono hbd.size)
    clear hs hb
    obtain ⟨r0, r1, r2, r3⟩ := hR2.c4
    obtain ⟨g0, g1, g2, g3⟩ := hR2.f4
    go_wp2
    refine bodyPost_ret (v := .tuple #[cv (.slice a n m) p' c0 q0, .int .i64 v0]) (by simp [results, Tryz.results57, go_sem, r0, r1, r2, r3]) rfl ⟨v0, _, _, _, rfl, ?_, .inl ⟨hmo, HS.out⟩⟩
    iterate 4 (refine Below.setCell ?_ (by simp) _)
    exact hbd2
  · have hmo' : ¬ 0 ≤ mo := hmo
    go_enter Tryz.func57, Tryz.ntmps57
    go_wp2_with fail
    refine (rread_any _ _ _ _ _ _ _ _ (hz.below (below_two _ _ _)) h0 h1 hm hn hby).mono ?_
    rintro e w1 ⟨v0, p', c0, q0, rfl, hb, hs⟩
    obtain ⟨hC, hR, hbd⟩ := two_new hb
    have HS := Lib.hid hs
    have hC2 := hC.alloc (.cells #[.slice a n m, .int .i64 p', .int .i64 c0, .int .i64 q0] 50)
    have hR2 := hR.alloc (.cells #[.slice a n m, .int .i64 p', .int .i64 c0, .int .i64 q0] 50)
    have hbd2 := hbd.trans ((below_one w1 (.cells #[.slice a n m, .int .i64 p', .int .i64 c0, .int .i64 q0] 50)).mono hbd.size)
    clear hs hb
    obtain ⟨c0', c1', c2', c3'⟩ := hC2.c4
    go_wp2_with fail
    refine (rfail_any _ _ _ _ _ _ _ _ _).mono ?_
    rintro e w2 ⟨c2, q2, rfl, hb2, hf⟩
    have HF := Lib.hid hf
    have hR3 := hR2.below hb2
    have hbd3 := hbd2.trans (hb2.mono hbd2.size)
    clear hf hb2
    obtain ⟨r0, r1, r2, r3⟩ := hR3.c4
    obtain ⟨g0, g1, g2, g3⟩ := hR3.f4
    go_wp2
    refine bodyPost_ret (v := .tuple #[cv (.slice a n m) p' c2 q2, .int .i64 0]) (by simp [results, Tryz.results57, go_sem, r0, r1, r2, r3]) rfl ⟨0, _, _, _, rfl, ?_, .inr ⟨by omega, rfl, _, _, _, HS.out, HF.out⟩⟩
    iterate 4 (refine Below.setCell ?_ (by simp) _)
    exact hbd3
end Go.Proofs.YtlealkfkddhnnaaGreat.Cur
namespace Go.Proofs.YtlealkfkddhnnaaGreat.Cur
open Go.RowKit Mem
set_option linter.unusedVariables false
theorem p9 : (128 : Int) ^ 9 = 9223372036854775808 := by decide
theorem vgo_once (l : List Int) : ∀ (i : Nat) (X : Int), (∀ x ∈ l, 0 ≤ x ∧ x < 256) → i ≤ 9 → (vgo l i X).2.2.1 = 0 →
    ∃ (y : Int) (j : Nat), 1 ≤ j ∧ j ≤ l.length ∧ (vgo l i X).2.1 = i + j ∧ (vgo l i X).1 = X + y * 128 ^ i ∧ 0 ≤ y ∧ (y + 1) * 128 ^ i ≤ 18446744073709551616 ∧ vz y = l.take j ∧ (0 < i → y ≠ 0) := by
  induction l with
  | nil => intro i X _ _ h; exact absurd h (by show (1 : Int) ≠ 0; omega)
  | cons b l ih =>
    intro i X hl hi h
    have hb := hl b (by simp)
    by_cases h1 : i = 9 ∧ 1 < b
    · rw [vgo_over h1.1 h1.2] at h; exact absurd h (by show (5 : Int) ≠ 0; omega)
    · by_cases h2 : 0 < i ∧ b = 0
      · rw [vgo_zero h2.1 h2.2] at h; exact absurd h (by show (4 : Int) ≠ 0; omega)
      · by_cases h3 : b < 128
        · rw [vgo_done h1 h2 h3] at h ⊢
          refine ⟨b, 1, Nat.le_refl _, by simp, by show (i : Int) + 1 = i + (1 : Nat); omega, rfl, hb.1, ?_, by rw [vz_lt b h3]; simp, fun h hb0 => h2 ⟨h, hb0⟩⟩
          rcases Nat.lt_or_ge i 9 with k | k
          · have e8 : (128 : Int) ^ 8 = 72057594037927936 := by decide
            have := pow128_mono (show i ≤ 8 by omega)
            have hp := pow128_pos i
            have : (b + 1) * 128 ^ i ≤ 128 * 128 ^ i := Int.mul_le_mul_of_nonneg_right (by omega) (by omega)
            omega
          · obtain rfl : i = 9 := by omega
            rw [p9]; omega
        · have hm := vgo_more (X := X) (l := l) h1 (show 128 ≤ b by omega)
          rw [hm] at h ⊢
          have hi9 : i ≠ 9 := fun e => h1 ⟨e, by omega⟩
          obtain ⟨y, j, j1, j2, e1, e2, y0, y1, e3, e4⟩ := ih (i + 1) (X + b % 128 * 128 ^ i) (fun x hx => hl x (by simp [hx])) (by omega) h
          have y2 := e4 (by omega)
          have hp := pow128_pos i
          rw [Int.pow_succ, ← Int.mul_assoc, Int.mul_right_comm] at y1
          have hle : (b % 128 + 128 * y + 1) * 128 ^ i ≤ (y + 1) * 128 * 128 ^ i := Int.mul_le_mul_of_nonneg_right (by omega) (by omega)
          have hlt : b % 128 + 128 * y + 1 ≤ 18446744073709551616 := by
            have : (b % 128 + 128 * y + 1) * 1 ≤ (b % 128 + 128 * y + 1) * 128 ^ i := Int.mul_le_mul_of_nonneg_left (by omega) (by omega)
            omega
          refine ⟨b % 128 + 128 * y, j + 1, by omega, by simp; omega, by rw [e1]; push_cast; omega, ?_, by omega, by omega, ?_, fun _ => by omega⟩
          · rw [e2, Int.pow_succ, Int.add_mul, Int.mul_comm (128 ^ i) 128, ← Int.mul_assoc, Int.mul_comm y 128, Int.add_assoc]
          · rw [vz_ge _ (by omega) (by omega), List.take_succ_cons, show (b % 128 + 128 * y) / 128 = y by omega, e3, show 128 + (b % 128 + 128 * y) % 128 = b by omega]
end Go.Proofs.YtlealkfkddhnnaaGreat.Cur
