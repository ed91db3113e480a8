/- As the seat's text, without what nothing here names. -/
import Derived.Lib.BitFns
import Derived.Test.YtmiimjgfainclaaGreatK3w
import Derived.Test.YtmiimjgfainclaaGreatK1w
import Derived.Test.YtmiimjgfainclaaGreatShelfw
import Derived.Outline
import Derived.Test.YtmiimjgfainclaaGreatK2w
import Derived.WalkMore
import Derived.ScopeJumps
import Derived.Laws.BitsAllLaws
import Derived.IntWalk
import Derived.Deep.LoopGhost
namespace Go.Proofs.YtmiimjgfainclaaGreat.Cur
set_option linter.unusedVariables false
def vszF : Nat → Int → Nat
  | 0, _ => 1
  | k + 1, x => if x < 128 then 1 else 1 + vszF k (x / 128)
def vsz (x : Int) : Nat := vszF 9 x
def vzL (s : Nat) (x : Int) : List Int := (List.range (s - 1)).map (fun i => 128 + x / 128 ^ i % 128) ++ [x / 128 ^ (s - 1)]
def vz (x : Int) : List Int := vzL (vsz x) x
theorem vszF_pos (k : Nat) (x : Int) : 1 ≤ vszF k x := by
  cases k with
  | zero => exact Nat.le_refl _
  | succ k => unfold vszF; split <;> omega
theorem vszF_le (k : Nat) (x : Int) : vszF k x ≤ k + 1 := by
  induction k generalizing x with
  | zero => exact Nat.le_refl _
  | succ k ih => unfold vszF; split; omega; have := ih (x / 128); omega
theorem vsz_pos (x : Int) : 1 ≤ vsz x := vszF_pos 9 x
theorem vsz_le (x : Int) : vsz x ≤ 10 := vszF_le 9 x
theorem vzL_length (s : Nat) (x : Int) (h : 1 ≤ s) : (vzL s x).length = s := by simp [vzL]; omega
theorem vz_length (x : Int) : (vz x).length = vsz x := vzL_length _ _ (vsz_pos x)
theorem pow128_pos (s : Nat) : (0 : Int) < 128 ^ s := Int.pow_pos (by omega)
theorem div128 (x : Int) (s : Nat) : x / 128 / 128 ^ s = x / 128 ^ (s + 1) := by
  rw [Int.ediv_ediv_of_nonneg (by omega), Int.pow_succ, Int.mul_comm]
theorem div128' (x : Int) (s : Nat) : x / 128 ^ s / 128 = x / 128 ^ (s + 1) := by
  rw [Int.ediv_ediv_of_nonneg (Int.le_of_lt (pow128_pos s)), Int.pow_succ]
theorem vszF_spec (k : Nat) (x : Int) (h0 : 0 ≤ x) (h : x < 128 ^ (k + 1)) : x < 128 ^ vszF k x ∧ (vszF k x = 1 ∨ 128 ^ (vszF k x - 1) ≤ x) := by
  induction k generalizing x with
  | zero => exact ⟨by simpa [vszF] using h, .inl rfl⟩
  | succ k ih =>
    unfold vszF
    split
    · rename_i hx; exact ⟨by simpa using hx, .inl rfl⟩
    · rename_i hx
      obtain ⟨h1, h2⟩ := ih (x / 128) (by omega) (by rw [Int.pow_succ] at h; generalize (128 : Int) ^ (k + 1) = P at *; omega)
      have hp := vszF_pos k (x / 128)
      generalize vszF k (x / 128) = s at *
      obtain ⟨t, rfl⟩ : ∃ t, s = t + 1 := ⟨s - 1, by omega⟩
      refine ⟨?_, .inr ?_⟩
      · rw [show 1 + (t + 1) = (t + 1) + 1 by omega, Int.pow_succ]
        generalize (128 : Int) ^ (t + 1) = P at *
        omega
      · rw [show 1 + (t + 1) - 1 = t + 1 by omega, Int.pow_succ]
        rcases h2 with h2 | h2
        · obtain rfl : t = 0 := by omega
          simp; omega
        · rw [show t + 1 - 1 = t by omega] at h2
          generalize (128 : Int) ^ t = P at *
          omega
theorem two64 : (18446744073709551616 : Int) ≤ 128 ^ 10 := by decide
theorem vsz_spec (x : Int) (h0 : 0 ≤ x) (h1 : x < 18446744073709551616) : x < 128 ^ vsz x ∧ (vsz x = 1 ∨ 128 ^ (vsz x - 1) ≤ x) :=
  vszF_spec 9 x h0 (Int.lt_of_lt_of_le h1 two64)
theorem pow128_mono {a b : Nat} (h : a ≤ b) : (128 : Int) ^ a ≤ 128 ^ b := by
  induction b with
  | zero => obtain rfl : a = 0 := by omega
            exact Int.le_refl _
  | succ b ih =>
    rcases Nat.lt_or_ge b a with h1 | h1
    · obtain rfl : a = b + 1 := by omega
      exact Int.le_refl _
    · have := ih h1
      have := pow128_pos b
      rw [Int.pow_succ]; omega
theorem vsz_unique {x : Int} {s : Nat} (h0 : 0 ≤ x) (h1 : x < 18446744073709551616) (hs : 1 ≤ s) (ha : x < 128 ^ s) (hb : s = 1 ∨ 128 ^ (s - 1) ≤ x) : vsz x = s := by
  obtain ⟨h2, h3⟩ := vsz_spec x h0 h1
  have hp := vsz_pos x
  generalize vsz x = t at *
  rcases Nat.lt_trichotomy t s with h | h | h
  · have := pow128_mono (show t ≤ s - 1 by omega)
    rcases hb with hb | hb <;> omega
  · exact h
  · have := pow128_mono (show s ≤ t - 1 by omega)
    rcases h3 with h3 | h3 <;> omega
theorem vz_lt (x : Int) (h : x < 128) : vz x = [x] := by
  have : vsz x = 1 := by unfold vsz vszF; rw [if_pos h]
  unfold vz; rw [this]; simp [vzL]
theorem vsz_div (x : Int) (h : 128 ≤ x) (h1 : x < 18446744073709551616) : vsz x = vsz (x / 128) + 1 := by
  obtain ⟨h2, h3⟩ := vsz_spec (x / 128) (by omega) (by omega)
  have hp := vsz_pos (x / 128)
  refine vsz_unique (by omega) h1 (by omega) ?_ (.inr ?_)
  · rw [Int.pow_succ]; generalize (128 : Int) ^ vsz (x / 128) = P at *; omega
  · rw [Nat.add_sub_cancel]
    obtain ⟨t, ht⟩ : ∃ t, vsz (x / 128) = t + 1 := ⟨vsz (x / 128) - 1, by omega⟩
    rw [ht] at h3 ⊢
    rw [Int.pow_succ]
    rcases h3 with h3 | h3
    · obtain rfl : t = 0 := by omega
      simp; omega
    · rw [Nat.add_sub_cancel] at h3
      generalize (128 : Int) ^ t = P at *
      omega
theorem vz_ge (x : Int) (h : 128 ≤ x) (h1 : x < 18446744073709551616) : vz x = (128 + x % 128) :: vz (x / 128) := by
  have hp := vsz_pos (x / 128)
  unfold vz
  rw [vsz_div x h h1]
  obtain ⟨t, ht⟩ : ∃ t, vsz (x / 128) = t + 1 := ⟨vsz (x / 128) - 1, by omega⟩
  rw [ht]
  unfold vzL
  rw [Nat.add_sub_cancel, Nat.add_sub_cancel, List.range_succ_eq_map, div128]
  simp [Function.comp_def, div128]
theorem bitLen_spec : ∀ (k x : Nat), x < 2 ^ k → k ≤ 64 → x < 2 ^ Lib.bitLen x ∧ (x = 0 ∨ 2 ^ (Lib.bitLen x - 1) ≤ x) ∧ (x = 0 → Lib.bitLen x = 0) := by
  intro k
  induction k with
  | zero => intro x hx _; obtain rfl : x = 0 := by simpa using hx
            exact ⟨by decide, .inl rfl, fun _ => by decide⟩
  | succ k ih =>
    intro x hx hk
    by_cases h0 : x = 0
    · subst h0; exact ⟨by decide, .inl rfl, fun _ => by decide⟩
    · have hlt : x < 2 ^ 64 := Nat.lt_of_lt_of_le hx (Nat.pow_le_pow_right (by omega) hk)
      rw [Lib.bitLen_half x h0 hlt]
      obtain ⟨h1, h2, h3⟩ := ih (x / 2) (by rw [Nat.pow_succ] at hx; omega) (by omega)
      generalize hl : Lib.bitLen (x / 2) = l at *
      refine ⟨?_, .inr ?_, fun h => absurd h h0⟩
      · rw [show 1 + l = l + 1 by omega, Nat.pow_succ]; omega
      · rw [show 1 + l - 1 = l by omega]
        rcases h2 with h2 | h2
        · rw [h3 h2]; simp; omega
        · rcases Nat.eq_zero_or_pos l with e | e
          · subst e; simp; omega
          · obtain ⟨t, rfl⟩ : ∃ t, l = t + 1 := ⟨l - 1, by omega⟩
            rw [Nat.add_sub_cancel] at h2
            rw [Nat.pow_succ]; omega
theorem pow7 (s : Nat) : (2 : Nat) ^ (7 * s) = 128 ^ s := by rw [Nat.pow_mul]
theorem vsz_bits (x : Int) (h0 : 0 ≤ x) (h1 : x < 18446744073709551616) : (vsz x : Int) = (if 1 < ((Lib.bitLen x.toNat : Int) + 7 - 1) / 7 then ((Lib.bitLen x.toNat : Int) + 7 - 1) / 7 else 1) := by
  obtain ⟨n, rfl⟩ := Int.eq_ofNat_of_zero_le h0
  rw [Int.toNat_natCast]
  obtain ⟨h2, h3, h4⟩ := bitLen_spec 64 n (by omega) (Nat.le_refl _)
  generalize Lib.bitLen n = l at *
  rcases Nat.eq_zero_or_pos n with e | e
  · subst e
    rw [h4 rfl]
    rfl
  · have h3' : 2 ^ (l - 1) ≤ n := by rcases h3 with h3 | h3 <;> omega
    have hl : 1 ≤ l := by
      rcases Nat.eq_zero_or_pos l with e | e
      · subst e; simp at h2; omega
      · exact e
    have hs : vsz (n : Int) = (l + 6) / 7 := by
      refine vsz_unique h0 h1 (by omega) ?_ ?_
      · have : 2 ^ l ≤ 2 ^ (7 * ((l + 6) / 7)) := Nat.pow_le_pow_right (by omega) (by omega)
        rw [pow7] at this
        have h : n < 128 ^ ((l + 6) / 7) := by omega
        exact_mod_cast h
      · rcases Nat.lt_or_ge 7 l with k | k
        · right
          have : 2 ^ (7 * ((l + 6) / 7 - 1)) ≤ 2 ^ (l - 1) := Nat.pow_le_pow_right (by omega) (by omega)
          rw [pow7] at this
          have h : 128 ^ ((l + 6) / 7 - 1) ≤ n := by omega
          exact_mod_cast h
        · left; omega
    rw [hs]
    split <;> omega
end Go.Proofs.YtmiimjgfainclaaGreat.Cur
namespace Go.Proofs.YtmiimjgfainclaaGreat.Cur
open Go.RowKit Mem
set_option linter.unusedVariables false
theorem bitLen_64 (x : Int) (h0 : 0 ≤ x) (h1 : x < 18446744073709551616) : Lib.bitLen x.toNat ≤ 64 := by
  obtain ⟨_, h3, h4⟩ := bitLen_spec 64 x.toNat (by omega) (Nat.le_refl _)
  rcases h3 with h3 | h3
  · rw [h4 h3]; omega
  · rcases Nat.lt_or_ge 64 (Lib.bitLen x.toNat) with k | k
    · have := Nat.pow_le_pow_right (show 0 < 2 by omega) (show 64 ≤ Lib.bitLen x.toNat - 1 by omega)
      omega
    · exact k
set_option maxHeartbeats 400000 in
theorem vsize_any (x : Int) (w : World) (h0 : 0 ≤ x) (h1 : x < 18446744073709551616) :
    Calls Tryz.prog 158 #[.int .u64 x] w fun e w' => e = .returned (.int .i64 (vsz x)) ∧ w = w' := by
  have hb := vsz_bits x h0 h1
  have hl := bitLen_64 x h0 h1
  have hc := fun w => Tryz.bits_Len64 x w h0 (by omega)
  have hm : max 1 (((Lib.bitLen x.toNat : Int) + 7 - 1) / 7) = (vsz x : Int) := by rw [hb]; split <;> omega
  clear hb
  generalize Lib.bitLen x.toNat = l at *
  clear h0 h1
  have l0 : (0 : Int) ≤ l := by omega
  have l1 : (l : Int) ≤ 64 := by omega
  have HM := Lib.hid hm
  clear hm
  go_enter Tryz.func158, Tryz.ntmps158
  go_wp2_with (go_at_call 195; refine (hc _).mono ?_; rintro e w1 ⟨rfl, rfl⟩)
  go_ret
  exact ⟨by rw [← HM.out]; rfl, rfl⟩
def varRow (x : Int) (s j : Nat) : Array Value := (((List.range j).map (fun i => 128 + x / 128 ^ i % 128) ++ List.replicate (s - j) 0).map (Value.int .u8)).toArray
theorem varRow_zero (x : Int) (s : Nat) : varRow x s 0 = madeCells #[.int .u8 0] s := by
  unfold varRow madeCells
  apply Array.ext
  · simp
  · intro i h1 h2
    simp [Nat.mod_one]
theorem varRow_at (x : Int) (s j : Nat) (h : j < s) : (varRow x s j)[j]? = some (.int .u8 0) := by
  have hl : (((List.range j).map (fun i => 128 + x / 128 ^ i % 128)).map (Value.int .u8)).length = j := by simp
  have hk : 0 < s - j := by omega
  unfold varRow
  rw [List.map_append, List.getElem?_toArray, List.getElem?_append_right (by omega), hl, Nat.sub_self]
  simp [hk]
theorem varRow_set (x : Int) (s j : Nat) (h : j < s) (b : Int) : (varRow x s j).setIfInBounds j (.int .u8 b) = (((List.range j).map (fun i => 128 + x / 128 ^ i % 128) ++ b :: List.replicate (s - (j + 1)) 0).map (Value.int .u8)).toArray := by
  unfold varRow
  rw [show s - j = (s - (j + 1)) + 1 by omega, List.replicate_succ]
  simp only [List.setIfInBounds_toArray, List.map_append, List.map_cons]
  congr 1
  rw [List.set_append_right _ _ (by simp)]
  simp
theorem varRow_next (x : Int) (s j : Nat) (h : j < s) : (varRow x s j).setIfInBounds j (.int .u8 (128 + x / 128 ^ j % 128)) = varRow x s (j + 1) := by
  rw [varRow_set x s j h, varRow, List.range_succ]
  simp
theorem varRow_last (x : Int) (s : Nat) (h : 1 ≤ s) : (varRow x s (s - 1)).setIfInBounds (s - 1) (.int .u8 (x / 128 ^ (s - 1))) = ((vzL s x).map (Value.int .u8)).toArray := by
  rw [varRow_set x s (s - 1) (by omega), vzL, show s - (s - 1 + 1) = 0 by omega]
  simp
theorem or_128' : ∀ n : Fin 256, bits BinOp.or IntKind.u8 (n.val : Int) 128 = 128 + (n.val : Int) % 128 := by decide +kernel
theorem or_128 (X : Int) (h0 : 0 ≤ X) : bits BinOp.or IntKind.u8 (X % 256) 128 = 128 + X % 128 := by
  have := or_128' ⟨(X % 256).toNat, by omega⟩
  simp only at this
  rw [Int.toNat_of_nonneg (by omega)] at this
  rw [this]; omega
theorem vz_last (x : Int) (h0 : 0 ≤ x) (h1 : x < 18446744073709551616) : 0 ≤ x / 128 ^ (vsz x - 1) ∧ x / 128 ^ (vsz x - 1) < 128 := by
  obtain ⟨h2, _⟩ := vsz_spec x h0 h1
  have hp := vsz_pos x
  obtain ⟨t, ht⟩ : ∃ t, vsz x = t + 1 := ⟨vsz x - 1, by omega⟩
  rw [ht] at h2 ⊢
  rw [Nat.add_sub_cancel]
  rw [Int.pow_succ] at h2
  have hP := pow128_pos t
  generalize (128 : Int) ^ t = P at *
  exact ⟨Int.ediv_nonneg h0 (by omega), Int.ediv_lt_of_lt_mul hP (by rw [Int.mul_comm]; exact h2)⟩
def VBytesPost (x : Int) (w : World) (e : Ending) (w' : World) : Prop :=
  ∃ g, e = .returned (.slice (some ⟨g, 0, none⟩) (vsz x) (vsz x)) ∧ w.heap.size ≤ g ∧ Below w.heap.size w w' ∧ Blk w' g ((vz x).map (Value.int .u8)).toArray 5
set_option maxHeartbeats 800000 in
theorem vbytes_any (x : Int) (w : World) (h0 : 0 ≤ x) (h1 : x < 18446744073709551616) :
    Calls Tryz.prog 101 #[.int .u64 x] w (VBytesPost x w) := by
  obtain ⟨i0, hi, hz0, hz1, hz2⟩ := info_parts info5
  have hs1 := vsz_pos x
  have hs2 := vsz_le x
  have hvz : vz x = vzL (vsz x) x := rfl
  have hsz := vsize_any x w h0 h1
  have hla := vz_last x h0 h1
  unfold VBytesPost
  rw [hvz]
  clear hvz
  generalize vsz x = s at *
  have hmk := fun w => run_make (P := Tryz.prog) w 25 5 i0 (.int .u8 0) Tryz.underlying25 hi hz0 .i64 .i64 (s : Int) (s : Int) (by omega) (by omega) (by rw [hz2]; omega) (by omega)
  go_enter Tryz.func101, Tryz.ntmps101
  go_wp2_with fail
  refine hsz.mono ?_
  rintro e w1 ⟨rfl, rfl⟩
  go_wp2_with fail
  have hB0 := Blk.new w (madeCells #[.int .u8 0] s) 5
  rw [← varRow_zero x] at hB0
  have HB0 := Lib.hid hB0
  have b0 := below_one w (.cells (madeCells #[.int .u8 0] s) 5)
  rw [← varRow_zero x s] at b0
  rw [← varRow_zero x s]
  clear hmk hB0
  generalize hg : w.heap.size = g at HB0
  have HG := Lib.hid hg
  clear hg
  go_loopw [0, 13] (fun v0 v13 wr => ∃ j : Nat, j + 1 ≤ s ∧ v13 = .int .i64 j ∧ v0 = .int .u64 (x / 128 ^ j) ∧ Blk wr g (varRow x s j) 5 ∧ Below w.heap.size w wr) (fun _ i _ => s - (intOf i).toNat)
  case atStart => exact ⟨0, by omega, rfl, by simp, HB0.out, b0⟩
  case round =>
    obtain ⟨j, hj, rfl, rfl, hB, hbd⟩ := hrel
    have j1 : (0 : Int) ≤ j := by omega
    have X0 : 0 ≤ x / 128 ^ j := Int.ediv_nonneg h0 (Int.le_of_lt (pow128_pos j))
    have X1 : x / 128 ^ j < 18446744073709551616 := Int.lt_of_le_of_lt (Int.ediv_le_self _ h0) h1
    have hf := hB.free j
    by_cases hlt : (j : Int) < s - 1
    · have hc := hB.cell j (varRow_at x s j (by omega))
      have hnx := varRow_next x s j (by omega)
      have hset := hB.set j (.int .u8 (128 + x / 128 ^ j % 128))
      rw [hnx, ← or_128 _ X0] at hset
      have hdn := div128' x j
      have HS := Lib.hid hset
      have HL := Lib.hid hla
      clear hset hnx hla
      generalize x / 128 ^ j = X at *
      have HD := Lib.hid hdn
      clear hdn hB
      have j2 : (j : Int) < s := by omega
      go_wp2
      go_roundw
      case rel => exact ⟨j + 1, by omega, by go_num, by rw [← HD.out], HS.out, Below.setCell hbd (by rw [← HG.out]; exact Nat.le_refl _) _⟩
      case measure => simp [intOf]; omega
    · have hjs : s - 1 = j := by omega
      have hc := hB.cell j (varRow_at x s j (by omega))
      have hset := hB.set j (.int .u8 (x / 128 ^ j))
      have hl := varRow_last x s hs1
      rw [hjs] at hl hla
      rw [hl] at hset
      have he : (s : Int) - 1 = j := by omega
      have hm : x / 128 ^ j % 256 = x / 128 ^ j := by omega
      rw [← hm] at hset
      have HS := Lib.hid hset
      have j2 : (j : Int) < s := by omega
      rw [he]
      clear hset he hm hlt hl hjs hB hla
      have hge : ¬ (j : Int) < j := by omega
      generalize x / 128 ^ j = X at *
      go_wp2
      go_ret
      exact ⟨g, rfl, by rw [HG.out]; exact Nat.le_refl _, Below.setCell hbd (by rw [← HG.out]; exact Nat.le_refl _) _, HS.out⟩
end Go.Proofs.YtmiimjgfainclaaGreat.Cur
namespace Go.Proofs.YtmiimjgfainclaaGreat.Cur
open Go.RowKit Mem
set_option linter.unusedVariables false
def VPutPost (B b : Nat) (r : Option Nat) (z : List Int) (M c x : Int) (w : World) (e : Ending) (w' : World) : Prop := WPutPost B b r z (vz x) M c w e w'
set_option maxHeartbeats 400000 in
theorem vput_any {w : World} {B b : Nat} {r : Option Nat} {z : List Int} {M c : Int} (x : Int) (h : Wr w B b r z M c) (h0 : 0 ≤ x) (h1 : x < 18446744073709551616) (hsz : z.length ≤ 900000) (hBw : B ≤ w.heap.size) :
    Calls Tryz.prog 36 #[.pointer (some ⟨b, 0, none⟩), .int .u64 x] w (VPutPost B b r z M c x w) := by
  have hk := vsz_le x
  go_enter Tryz.func36, Tryz.ntmps36
  go_wp2_with fail
  refine (vbytes_any _ _ h0 h1).mono ?_
  rintro e w1 ⟨g, rfl, hg, hb, hblk⟩
  have h2 := h.below hb
  have hbs : Bs w1 (some ⟨g, 0, none⟩) (vsz x) (vz x) := by
    have := Bs.of_block hblk
    rw [vz_length] at this
    exact this
  have hoff : 0 < vsz x → ∀ a, some (⟨g, 0, none⟩ : Addr) = some a → ¬ WS b r a.block := by
    rintro _ a ha
    injection ha with ha
    subst ha
    obtain ⟨v, rfl, hbb, ho, _⟩ := h
    rintro (e | e)
    · have := hbb.lt; simp at e; omega
    · have := ho.lt _ e; simp at this; omega
  go_wp2_with fail
  refine (wput_any _ _ _ h2 hbs (by simp) hoff (by omega) (Nat.le_trans hBw hb.size)).mono ?_
  rintro e w2 ⟨r', rfl, hks, hgr, hw⟩
  go_wp2
  go_end0
  refine ⟨r', rfl, (Ks.of_below hb).trans hks, ?_, hw⟩
  rcases hgr with e | ⟨g, e, hg⟩
  · exact .inl e
  · exact .inr ⟨g, e, Nat.le_trans hb.size hg⟩
set_option maxHeartbeats 800000 in
theorem rbytes_any (k : Nat) : ∀ (x : Int) (w : World), vsz x ≤ k → 0 ≤ x → x < 18446744073709551616 → Calls Tryz.prog 77 #[.int .u64 x] w (RowPost (vz x) w) := by
  induction k with
  | zero => intro x w hk; have := vsz_pos x; omega
  | succ k ih =>
    intro x w hk h0 h1
    by_cases hx : x < 128
    · rw [vz_lt x hx]
      have e : x % 256 = x := by omega
      have hp : RowPost [x % 256] w (.returned (.slice (some ⟨w.heap.size, 0, none⟩) 1 1)) (w.alloc (.cells #[.int .u8 (x % 256)] 5)) :=
        Own.rowPost (B := 0) (Own.built w _) (below_one _ _)
      rw [e] at hp
      have HP := Lib.hid hp
      clear hp e
      go_enter Tryz.func77, Tryz.ntmps77
      go_wp2
      go_ret
      exact HP.out
    · rw [vz_ge x (by omega) h1]
      have hs := vsz_div x (by omega) h1
      have hc := ih (x / 128) (w.alloc (.cells #[.int .u8 (128 + x % 128)] 5)) (by omega) (by omega) (by omega)
      have hown := Own.built w (128 + x % 128)
      have hle := vsz_le (x / 128)
      have HO := Lib.hid hown
      have e0 : 0 ≤ x % 128 := by omega
      have e1 : x % 128 < 128 := by omega
      clear hs hown ih hk
      have hx' : ¬ x < 128 := hx
      go_enter Tryz.func77, Tryz.ntmps77
      go_wp2_with fail
      refine hc.mono ?_
      rintro e w1 ⟨A, m, rfl, hb, hbs, hnil, _⟩
      have hb1 := (below_one w (.cells #[.int .u8 (128 + x % 128)] 5)).trans (hb.mono (by simp))
      have HL := Lib.hid (vz_length (x / 128))
      have hown1 := HO.out.below hb
      have hB := hb1.size
      clear hc
      go_wp2_with (at_builtin; go_must (refine list_append_gr rfl (.tmp 12) (.tmp 15) rfl w.heap.size (.slice (some ⟨w.heap.size, 0, none⟩) 1 1) [128 + x % 128] rfl hown1 _ _ _ _ rfl hbs hnil (by rw [HL.out]; simp; omega) hB ?_; intro v' w2 ho' hg hgr; have hb2 := Own.belowOf hb1 hB hown1 hg; obtain ⟨A2, cap2, hv⟩ := ho'.slice; subst hv))
      go_ret
      exact Own.rowPost (B := 0) ho' hb2
end Go.Proofs.YtmiimjgfainclaaGreat.Cur
namespace Go.Proofs.YtmiimjgfainclaaGreat.Cur
open Go.RowKit Mem
set_option linter.unusedVariables false
def vgo : List Int → Nat → Int → Int × Int × Int × Int
  | [], i, _ => (0, 0, 1, i)
  | b :: l, i, acc => if i = 9 ∧ 1 < b then (0, 0, 5, i) else if 0 < i ∧ b = 0 then (0, 0, 4, i) else if b < 128 then (acc + b * 128 ^ i, i + 1, 0, 0) else vgo l (i + 1) (acc + b % 128 * 128 ^ i)
def VgSt (n : Nat) (p q : Int) (g : Int × Int × Int × Int) (v p' c' q' : Int) : Prop :=
  (g.2.2.1 = 0 ∧ v = g.1 ∧ p' = p + g.2.1 ∧ c' = 0 ∧ q' = q) ∨
  (g.2.2.1 ≠ 0 ∧ v = 0 ∧ c' = g.2.2.1 ∧ q' = p + g.2.2.2 ∧ p' = if g.2.2.1 = 1 then (n : Int) else p + g.2.2.2 + 1)
def RdSt (n : Nat) (z : List Int) (p c q v p' c' q' : Int) : Prop :=
  (c ≠ 0 ∧ v = 0 ∧ p' = p ∧ c' = c ∧ q' = q) ∨ (c = 0 ∧ VgSt n p q (vgo (z.drop p.toNat) 0 0) v p' c' q')
theorem RdSt.det {n : Nat} {z : List Int} {p c q v p' c' q' v2 p2 c2 q2 : Int} (h : RdSt n z p c q v p' c' q') (k : RdSt n z p c q v2 p2 c2 q2) : v = v2 ∧ p' = p2 ∧ c' = c2 ∧ q' = q2 := by
  rcases h with ⟨a0, a1, a2, a3, a4⟩ | ⟨a0, ⟨a1, a2, a3, a4, a5⟩ | ⟨a1, a2, a3, a4, a5⟩⟩ <;>
  rcases k with ⟨b0, b1, b2, b3, b4⟩ | ⟨b0, ⟨b1, b2, b3, b4, b5⟩ | ⟨b1, b2, b3, b4, b5⟩⟩ <;>
  first | exact absurd a0 b0 | exact absurd b0 a0 | exact absurd a1 b1 | exact absurd b1 a1 | exact ⟨by omega, by omega, by omega, by omega⟩ | exact ⟨by omega, a5.trans b5.symm, by omega, by omega⟩
theorem wrap_u64 (x : Int) (h0 : 0 ≤ x) (h1 : x < 18446744073709551616) : IntKind.u64.wrap x = x := by
  have e : IntKind.u64.wrap x = x % 18446744073709551616 := by unfold IntKind.wrap; rfl
  rw [e]; exact Int.emod_eq_of_lt h0 h1
end Go.Proofs.YtmiimjgfainclaaGreat.Cur
namespace Go.Proofs.YtmiimjgfainclaaGreat.Cur
open Go.RowKit Mem
set_option linter.unusedVariables false
def MostSt (n : Nat) (z : List Int) (p c q mo v p' c' q' : Int) : Prop :=
  ∃ v0 c0 q0, RdSt n z p c q v0 p' c0 q0 ∧ ((mo < v0 ∧ v = 0 ∧ FailSt c0 q0 2 p c' q') ∨ (v0 ≤ mo ∧ v = v0 ∧ c' = c0 ∧ q' = q0))
theorem MostSt.det {n : Nat} {z : List Int} {p c q mo v p' c' q' v2 p2 c2 q2 : Int} (h : MostSt n z p c q mo v p' c' q') (k : MostSt n z p c q mo v2 p2 c2 q2) : v = v2 ∧ p' = p2 ∧ c' = c2 ∧ q' = q2 := by
  obtain ⟨v0, c0, q0, hr, h⟩ := h
  obtain ⟨v1, c1, q1, kr, k⟩ := k
  obtain ⟨rfl, rfl, rfl, rfl⟩ := hr.det kr
  rcases h with ⟨h1, rfl, h2⟩ | ⟨h1, rfl, rfl, rfl⟩ <;> rcases k with ⟨k1, rfl, k2⟩ | ⟨k1, rfl, rfl, rfl⟩
  · obtain ⟨rfl, rfl⟩ := h2.det k2
    exact ⟨rfl, rfl, rfl, rfl⟩
  · omega
  · omega
  · exact ⟨rfl, rfl, rfl, rfl⟩
def IntSt (n : Nat) (z : List Int) (p c q mo v p' c' q' : Int) : Prop :=
  (0 ≤ mo ∧ MostSt n z p c q mo v p' c' q') ∨ (mo < 0 ∧ v = 0 ∧ ∃ v0 c0 q0, RdSt n z p c q v0 p' c0 q0 ∧ FailSt c0 q0 2 p c' q')
theorem IntSt.det {n : Nat} {z : List Int} {p c q mo v p' c' q' v2 p2 c2 q2 : Int} (h : IntSt n z p c q mo v p' c' q') (k : IntSt n z p c q mo v2 p2 c2 q2) : v = v2 ∧ p' = p2 ∧ c' = c2 ∧ q' = q2 := by
  rcases h with ⟨h0, h⟩ | ⟨h0, rfl, v0, c0, q0, hr, hf⟩ <;> rcases k with ⟨k0, k⟩ | ⟨k0, rfl, v1, c1, q1, kr, kf⟩
  · exact h.det k
  · omega
  · omega
  · obtain ⟨rfl, rfl, rfl, rfl⟩ := hr.det kr
    obtain ⟨rfl, rfl⟩ := hf.det kf
    exact ⟨rfl, rfl, rfl, rfl⟩
end Go.Proofs.YtmiimjgfainclaaGreat.Cur
namespace Go.Proofs.YtmiimjgfainclaaGreat.Cur
open Go.RowKit Mem
set_option linter.unusedVariables false
def acc (z : List Int) : Nat → Int
  | 0 => 0
  | k + 1 => acc z k + z.getD k 0 % 128 * 128 ^ k
end Go.Proofs.YtmiimjgfainclaaGreat.Cur
namespace Go.Proofs.YtmiimjgfainclaaGreat.Cur
open Go.RowKit Mem
set_option linter.unusedVariables false
end Go.Proofs.YtmiimjgfainclaaGreat.Cur
namespace Go.Proofs.YtmiimjgfainclaaGreat.Cur
open Go.RowKit Mem
set_option linter.unusedVariables false
end Go.Proofs.YtmiimjgfainclaaGreat.Cur
namespace Go.Proofs.YtmiimjgfainclaaGreat.Cur
open Go.RowKit Mem
set_option linter.unusedVariables false
end Go.Proofs.YtmiimjgfainclaaGreat.Cur
