/- The contracts of package varint: Size, Bytes, Put; the document's Bytes. -/
import Derived.Test.YtkedmhopajpkhaaVarM
import Derived.Test.YtkedmhopajpkhaaPenB
import Derived.Test.YtkedmhopajpkhaaSame
import Derived.Test.YtkedmhopajpkhaaShelf
import Derived.Outline
namespace Go.Proofs.Ytkedmhopajpkhaa.Cur
open Go.RowKit Mem
set_option linter.unusedVariables false

theorem bitLen_64 (x : Int) (h0 : 0 ≤ x) (h1 : x < 18446744073709551616) : Lib.bitLen x.toNat ≤ 64 := by
  obtain ⟨_, h3, h4⟩ := bitLen_spec 64 x.toNat (by omega) (Nat.le_refl _)
  rcases h3 with h3 | h3
  · rw [h4 h3]; omega
  · rcases Nat.lt_or_ge 64 (Lib.bitLen x.toNat) with k | k
    · have := Nat.pow_le_pow_right (show 0 < 2 by omega) (show 64 ≤ Lib.bitLen x.toNat - 1 by omega)
      omega
    · exact k

set_option maxHeartbeats 400000 in
theorem vsize_any (x : Int) (w : World) (h0 : 0 ≤ x) (h1 : x < 18446744073709551616) :
    Calls Try.prog 34 #[.int .u64 x] w fun e w' => e = .returned (.int .i64 (vsz x)) ∧ w = w' := by
  have hb := vsz_bits x h0 h1
  have hl := bitLen_64 x h0 h1
  have hc := fun w => Try.bits_Len64 x w h0 (by omega)
  have hm : max 1 (((Lib.bitLen x.toNat : Int) + 7 - 1) / 7) = (vsz x : Int) := by rw [hb]; split <;> omega
  clear hb
  generalize Lib.bitLen x.toNat = l at *
  clear h0 h1
  have l0 : (0 : Int) ≤ l := by omega
  have l1 : (l : Int) ≤ 64 := by omega
  have HM := Lib.hid hm
  clear hm
  go_enter Try.func34, Try.ntmps34
  go_wp2_with (go_at_call 46; refine (hc _).mono ?_; rintro e w1 ⟨rfl, rfl⟩)
  go_ret
  exact ⟨by rw [← HM.out]; rfl, rfl⟩

/-- The row when j of s bytes are laid (the last one is not among them). -/
def varRow (x : Int) (s j : Nat) : Array Value := (((List.range j).map (fun i => 128 + x / 128 ^ i % 128) ++ List.replicate (s - j) 0).map (Value.int .u8)).toArray
theorem varRow_zero (x : Int) (s : Nat) : varRow x s 0 = madeCells #[.int .u8 0] s := by
  unfold varRow madeCells
  apply Array.ext
  · simp
  · intro i h1 h2
    simp [Nat.mod_one]
theorem varRow_at (x : Int) (s j : Nat) (h : j < s) : (varRow x s j)[j]? = some (.int .u8 0) := by
  have hl : (((List.range j).map (fun i => 128 + x / 128 ^ i % 128)).map (Value.int .u8)).length = j := by simp
  have hk : 0 < s - j := by omega
  unfold varRow
  rw [List.map_append, List.getElem?_toArray, List.getElem?_append_right (by omega), hl, Nat.sub_self]
  simp [hk]
theorem varRow_set (x : Int) (s j : Nat) (h : j < s) (b : Int) : (varRow x s j).setIfInBounds j (.int .u8 b) = (((List.range j).map (fun i => 128 + x / 128 ^ i % 128) ++ b :: List.replicate (s - (j + 1)) 0).map (Value.int .u8)).toArray := by
  unfold varRow
  rw [show s - j = (s - (j + 1)) + 1 by omega, List.replicate_succ]
  simp only [List.setIfInBounds_toArray, List.map_append, List.map_cons]
  congr 1
  rw [List.set_append_right _ _ (by simp)]
  simp
theorem varRow_next (x : Int) (s j : Nat) (h : j < s) : (varRow x s j).setIfInBounds j (.int .u8 (128 + x / 128 ^ j % 128)) = varRow x s (j + 1) := by
  rw [varRow_set x s j h, varRow, List.range_succ]
  simp
theorem varRow_last (x : Int) (s : Nat) (h : 1 ≤ s) : (varRow x s (s - 1)).setIfInBounds (s - 1) (.int .u8 (x / 128 ^ (s - 1))) = ((vzL s x).map (Value.int .u8)).toArray := by
  rw [varRow_set x s (s - 1) (by omega), vzL, show s - (s - 1 + 1) = 0 by omega]
  simp

theorem or_128' : ∀ n : Fin 256, bits BinOp.or IntKind.u8 (n.val : Int) 128 = 128 + (n.val : Int) % 128 := by decide +kernel
theorem or_128 (X : Int) (h0 : 0 ≤ X) : bits BinOp.or IntKind.u8 (X % 256) 128 = 128 + X % 128 := by
  have := or_128' ⟨(X % 256).toNat, by omega⟩
  simp only at this
  rw [Int.toNat_of_nonneg (by omega)] at this
  rw [this]; omega
theorem vz_last (x : Int) (h0 : 0 ≤ x) (h1 : x < 18446744073709551616) : 0 ≤ x / 128 ^ (vsz x - 1) ∧ x / 128 ^ (vsz x - 1) < 128 := by
  obtain ⟨h2, _⟩ := vsz_spec x h0 h1
  have hp := vsz_pos x
  obtain ⟨t, ht⟩ : ∃ t, vsz x = t + 1 := ⟨vsz x - 1, by omega⟩
  rw [ht] at h2 ⊢
  rw [Nat.add_sub_cancel]
  rw [Int.pow_succ] at h2
  have hP := pow128_pos t
  generalize (128 : Int) ^ t = P at *
  exact ⟨Int.ediv_nonneg h0 (by omega), Int.ediv_lt_of_lt_mul hP (by rw [Int.mul_comm]; exact h2)⟩

def VBytesPost (x : Int) (w : World) (e : Ending) (w' : World) : Prop :=
  ∃ g, e = .returned (.slice (some ⟨g, 0, none⟩) (vsz x) (vsz x)) ∧ w.heap.size ≤ g ∧ Below w.heap.size w w' ∧ Blk w' g ((vz x).map (Value.int .u8)).toArray 5

set_option maxHeartbeats 800000 in
theorem vbytes_any (x : Int) (w : World) (h0 : 0 ≤ x) (h1 : x < 18446744073709551616) :
    Calls Try.prog 45 #[.int .u64 x] w (VBytesPost x w) := by
  obtain ⟨i0, hi, hz0, hz1, hz2⟩ := info_parts info5
  have hs1 := vsz_pos x
  have hs2 := vsz_le x
  have hvz : vz x = vzL (vsz x) x := rfl
  have hsz := vsize_any x w h0 h1
  have hla := vz_last x h0 h1
  unfold VBytesPost
  rw [hvz]
  clear hvz
  generalize vsz x = s at *
  have hmk := fun w => run_make (P := Try.prog) w 22 5 i0 (.int .u8 0) Try.underlying22 hi hz0 .i64 .i64 (s : Int) (s : Int) (by omega) (by omega) (by rw [hz2]; omega) (by omega)
  go_enter Try.func45, Try.ntmps45
  go_wp2_with fail
  refine hsz.mono ?_
  rintro e w1 ⟨rfl, rfl⟩
  go_wp2_with fail
  have hB0 := Blk.new w (madeCells #[.int .u8 0] s) 5
  rw [← varRow_zero x] at hB0
  have HB0 := Lib.hid hB0
  have b0 := below_one w (.cells (madeCells #[.int .u8 0] s) 5)
  rw [← varRow_zero x s] at b0
  rw [← varRow_zero x s]
  clear hmk hB0
  generalize hg : w.heap.size = g at HB0
  have HG := Lib.hid hg
  clear hg
  go_loopw [0, 13] (fun v0 v13 wr => ∃ j : Nat, j + 1 ≤ s ∧ v13 = .int .i64 j ∧ v0 = .int .u64 (x / 128 ^ j) ∧ Blk wr g (varRow x s j) 5 ∧ Below w.heap.size w wr) (fun _ i _ => s - (intOf i).toNat)
  case atStart => exact ⟨0, by omega, rfl, by simp, HB0.out, b0⟩
  case round =>
    obtain ⟨j, hj, rfl, rfl, hB, hbd⟩ := hrel
    have j1 : (0 : Int) ≤ j := by omega
    have X0 : 0 ≤ x / 128 ^ j := Int.ediv_nonneg h0 (Int.le_of_lt (pow128_pos j))
    have X1 : x / 128 ^ j < 18446744073709551616 := Int.lt_of_le_of_lt (Int.ediv_le_self _ h0) h1
    have hf := hB.free j
    by_cases hlt : (j : Int) < s - 1
    · have hc := hB.cell j (varRow_at x s j (by omega))
      have hnx := varRow_next x s j (by omega)
      have hset := hB.set j (.int .u8 (128 + x / 128 ^ j % 128))
      rw [hnx, ← or_128 _ X0] at hset
      have hdn := div128' x j
      have HS := Lib.hid hset
      have HL := Lib.hid hla
      clear hset hnx hla
      generalize x / 128 ^ j = X at *
      have HD := Lib.hid hdn
      clear hdn hB
      have j2 : (j : Int) < s := by omega
      go_wp2
      go_roundw
      case rel => exact ⟨j + 1, by omega, by go_num, by rw [← HD.out], HS.out, Below.setCell hbd (by rw [← HG.out]; exact Nat.le_refl _) _⟩
      case measure => simp [intOf]; omega
    · have hjs : s - 1 = j := by omega
      have hc := hB.cell j (varRow_at x s j (by omega))
      have hset := hB.set j (.int .u8 (x / 128 ^ j))
      have hl := varRow_last x s hs1
      rw [hjs] at hl hla
      rw [hl] at hset
      have he : (s : Int) - 1 = j := by omega
      have hm : x / 128 ^ j % 256 = x / 128 ^ j := by omega
      rw [← hm] at hset
      have HS := Lib.hid hset
      have j2 : (j : Int) < s := by omega
      rw [he]
      clear hset he hm hlt hl hjs hB hla
      have hge : ¬ (j : Int) < j := by omega
      generalize x / 128 ^ j = X at *
      go_wp2
      go_ret
      exact ⟨g, rfl, by rw [HG.out]; exact Nat.le_refl _, Below.setCell hbd (by rw [← HG.out]; exact Nat.le_refl _) _, HS.out⟩
end Go.Proofs.Ytkedmhopajpkhaa.Cur
