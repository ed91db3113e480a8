/- The contracts of the writer's functions (package pen), third part: the lowest bytes of a number (Fixed). -/
import Derived.Test.YtkedmhopajpkhaaPenB
namespace Go.Proofs.Ytkedmhopajpkhaa.Cur
open Go.RowKit Mem
set_option linter.unusedVariables false

/-- The k lowest bytes of a number, the lowest first. -/
def fixZ (x : Int) (k : Nat) : List Int := (List.range k).map fun i => x / 256 ^ i % 256
/-- How many bytes: none below 0, at most 8. -/
def fixN (n : Int) : Nat := (if n < 0 then 0 else if n < 8 then n else 8).toNat
theorem fixN_le (n : Int) : fixN n ≤ 8 := by unfold fixN; repeat' split <;> omega
theorem fixZ_length (x : Int) (k : Nat) : (fixZ x k).length = k := by simp [fixZ]
theorem fixZ_succ (x : Int) (k : Nat) : fixZ x (k + 1) = fixZ x k ++ [x / 256 ^ k % 256] := by simp [fixZ, List.range_succ]
theorem fixZ_byte (x : Int) (k : Nat) : ∀ y ∈ fixZ x k, 0 ≤ y ∧ y < 256 := by
  intro y hy
  simp only [fixZ, List.mem_map] at hy
  obtain ⟨i, _, rfl⟩ := hy
  exact ⟨Int.emod_nonneg _ (by omega), Int.emod_lt_of_pos _ (by omega)⟩
/-- The row when j of k bytes are laid. -/
def fixRow (x : Int) (k j : Nat) : Array Value := ((fixZ x j ++ List.replicate (k - j) 0).map (Value.int .u8)).toArray
theorem fixRow_zero (x : Int) (k : Nat) : fixRow x k 0 = madeCells #[.int .u8 0] k := by
  unfold fixRow madeCells
  apply Array.ext
  · simp [fixZ]
  · intro i h1 h2
    simp [fixZ, Nat.mod_one]
theorem fixRow_full (x : Int) (k : Nat) : fixRow x k k = ((fixZ x k).map (Value.int .u8)).toArray := by
  simp [fixRow]
theorem fixRow_at (x : Int) (k j : Nat) (h : j < k) : (fixRow x k j)[j]? = some (.int .u8 0) := by
  have hl : ((fixZ x j).map (Value.int .u8)).length = j := by rw [List.length_map, fixZ_length]
  have hk : 0 < k - j := by omega
  unfold fixRow
  rw [List.map_append, List.getElem?_toArray, List.getElem?_append_right (by omega), hl, Nat.sub_self]
  simp [hk]
theorem fixRow_next (x : Int) (k j : Nat) (h : j < k) : (fixRow x k j).setIfInBounds j (.int .u8 (x / 256 ^ j % 256)) = fixRow x k (j + 1) := by
  unfold fixRow
  rw [show k - j = (k - (j + 1)) + 1 by omega, List.replicate_succ, fixZ_succ]
  simp only [List.setIfInBounds_toArray, List.map_append, List.map_cons]
  congr 1
  rw [List.set_append_right _ _ (by simp [fixZ_length])]
  simp [fixZ_length]

def FixPost (x : Int) (k : Nat) (w : World) (e : Ending) (w' : World) : Prop :=
  ∃ g, e = .returned (.slice (some ⟨g, 0, none⟩) k k) ∧ w.heap.size ≤ g ∧ Below w.heap.size w w' ∧ Blk w' g ((fixZ x k).map (Value.int .u8)).toArray 5

theorem div_next (x : Int) (j : Nat) : x / 256 ^ j / 256 = x / 256 ^ (j + 1) := by
  rw [Int.ediv_ediv_of_nonneg (by exact Int.pow_nonneg (by omega)), Int.pow_succ]
theorem div_bd (x : Int) (j : Nat) (h0 : 0 ≤ x) (h1 : x < 18446744073709551616) : 0 ≤ x / 256 ^ j ∧ x / 256 ^ j < 18446744073709551616 :=
  ⟨Int.ediv_nonneg h0 (Int.pow_nonneg (by omega)), Int.lt_of_le_of_lt (Int.ediv_le_self _ h0) h1⟩


set_option maxHeartbeats 800000 in
theorem pfixed_lo (x : Int) (n : Int) (w : World) (h0 : 0 ≤ x) (h1 : x < 18446744073709551616) (hn : n < 0) :
    Calls Try.prog 42 #[.int .u64 x, .int .i64 n] w (FixPost x 0 w) := by
  obtain ⟨i0, hi, hz0, hz1, hz2⟩ := info_parts info5
  have hmk := fun w => run_make (P := Try.prog) w 22 5 i0 (.int .u8 0) Try.underlying22 hi hz0 .i64 .i64 0 0 (by omega) (by omega) (by rw [hz2]; omega) (by omega)
  go_enter Try.func42, Try.ntmps42
  go_wp2
  have hB0 := Blk.new w (madeCells #[.int .u8 0] 0) 5
  rw [← fixRow_zero x] at hB0
  have HB0 := Lib.hid hB0
  have b0 := below_one w (.cells (madeCells #[.int .u8 0] 0) 5)
  rw [← fixRow_zero x 0] at b0
  rw [← fixRow_zero x 0]
  clear hmk hB0
  generalize hg : w.heap.size = g at HB0
  have HG := Lib.hid hg
  clear hg
  go_loopw [0, 13] (fun v0 v13 wr => ∃ j : Nat, j ≤ 0 ∧ v13 = .int .i64 j ∧ v0 = .int .u64 (x / 256 ^ j) ∧ Blk wr g (fixRow x 0 j) 5 ∧ Below w.heap.size w wr) (fun _ i _ => 0 - (intOf i).toNat)
  case atStart => exact ⟨0, Nat.zero_le _, rfl, by simp, HB0.out, b0⟩
  case round =>
    obtain ⟨j, hj, rfl, rfl, hB, hbd⟩ := hrel
    by_cases hlt : j < 0
    · exfalso; omega
    · have hjk : j = 0 := by omega
      have hge : ¬ (j : Int) < 0 := by omega
      have hB' : Blk wr g (((fixZ x 0).map (Value.int .u8)).toArray) 5 := by have h := hB; rw [hjk, fixRow_full] at h; exact h
      have HB := Lib.hid hB'
      clear hB' hB hjk hlt
      go_wp2
      go_ret
      exact ⟨g, rfl, by rw [HG.out]; exact Nat.le_refl _, hbd, HB.out⟩

set_option maxHeartbeats 800000 in
theorem pfixed_mid (x : Int) (k : Nat) (w : World) (h0 : 0 ≤ x) (h1 : x < 18446744073709551616) (hn : (k : Int) < 8) :
    Calls Try.prog 42 #[.int .u64 x, .int .i64 k] w (FixPost x k w) := by
  have hk0 : (0 : Int) ≤ k := by omega
  obtain ⟨i0, hi, hz0, hz1, hz2⟩ := info_parts info5
  have hmk := fun w => run_make (P := Try.prog) w 22 5 i0 (.int .u8 0) Try.underlying22 hi hz0 .i64 .i64 (k : Int) (k : Int) (by omega) (by omega) (by rw [hz2]; omega) (by omega)
  go_enter Try.func42, Try.ntmps42
  go_wp2
  have hB0 := Blk.new w (madeCells #[.int .u8 0] k) 5
  rw [← fixRow_zero x] at hB0
  have HB0 := Lib.hid hB0
  have b0 := below_one w (.cells (madeCells #[.int .u8 0] k) 5)
  rw [← fixRow_zero x k] at b0
  rw [← fixRow_zero x k]
  clear hmk hB0
  generalize hg : w.heap.size = g at HB0
  have HG := Lib.hid hg
  clear hg
  go_loopw [0, 13] (fun v0 v13 wr => ∃ j : Nat, j ≤ k ∧ v13 = .int .i64 j ∧ v0 = .int .u64 (x / 256 ^ j) ∧ Blk wr g (fixRow x k j) 5 ∧ Below w.heap.size w wr) (fun _ i _ => k - (intOf i).toNat)
  case atStart => exact ⟨0, Nat.zero_le _, rfl, by simp, HB0.out, b0⟩
  case round =>
    obtain ⟨j, hj, rfl, rfl, hB, hbd⟩ := hrel
    by_cases hlt : j < k
    · have hc := hB.cell j (fixRow_at x k j hlt)
      have hf := hB.free j
      have hnx := fixRow_next x k j hlt
      have hset := hB.set j (.int .u8 (x / 256 ^ j % 256))
      rw [hnx] at hset
      obtain ⟨X0, X1⟩ := div_bd x j h0 h1
      have hdn := div_next x j
      have j0 : (j : Int) < k := by omega
      have j1 : (0 : Int) ≤ j := by omega
      have HS := Lib.hid hset
      clear hset hnx
      generalize x / 256 ^ j = X at *
      have HD := Lib.hid hdn
      clear hdn hB
      go_wp2
      go_roundw
      case rel => exact ⟨j + 1, by omega, by go_num, by rw [← HD.out], HS.out, Below.setCell hbd (by rw [← HG.out]; exact Nat.le_refl _) _⟩
      case measure => simp [intOf]; omega
    · have hjk : j = k := by omega
      have hge : ¬ (j : Int) < k := by omega
      have hB' : Blk wr g (((fixZ x k).map (Value.int .u8)).toArray) 5 := by have h := hB; rw [hjk, fixRow_full] at h; exact h
      have HB := Lib.hid hB'
      clear hB' hB hjk hlt
      go_wp2
      go_ret
      exact ⟨g, rfl, by rw [HG.out]; exact Nat.le_refl _, hbd, HB.out⟩

set_option maxHeartbeats 800000 in
theorem pfixed_8 (x : Int) (w : World) (h0 : 0 ≤ x) (h1 : x < 18446744073709551616) :
    Calls Try.prog 42 #[.int .u64 x, .int .i64 8] w (FixPost x 8 w) := by
  obtain ⟨i0, hi, hz0, hz1, hz2⟩ := info_parts info5
  have hmk := fun w => run_make (P := Try.prog) w 22 5 i0 (.int .u8 0) Try.underlying22 hi hz0 .i64 .i64 8 8 (by omega) (by omega) (by rw [hz2]; omega) (by omega)
  go_enter Try.func42, Try.ntmps42
  go_wp2
  have hB0 := Blk.new w (madeCells #[.int .u8 0] 8) 5
  rw [← fixRow_zero x] at hB0
  have HB0 := Lib.hid hB0
  have b0 := below_one w (.cells (madeCells #[.int .u8 0] 8) 5)
  rw [← fixRow_zero x 8] at b0
  rw [← fixRow_zero x 8]
  clear hmk hB0
  generalize hg : w.heap.size = g at HB0
  have HG := Lib.hid hg
  clear hg
  go_loopw [0, 13] (fun v0 v13 wr => ∃ j : Nat, j ≤ 8 ∧ v13 = .int .i64 j ∧ v0 = .int .u64 (x / 256 ^ j) ∧ Blk wr g (fixRow x 8 j) 5 ∧ Below w.heap.size w wr) (fun _ i _ => 8 - (intOf i).toNat)
  case atStart => exact ⟨0, Nat.zero_le _, rfl, by simp, HB0.out, b0⟩
  case round =>
    obtain ⟨j, hj, rfl, rfl, hB, hbd⟩ := hrel
    by_cases hlt : j < 8
    · have hc := hB.cell j (fixRow_at x 8 j hlt)
      have hf := hB.free j
      have hnx := fixRow_next x 8 j hlt
      have hset := hB.set j (.int .u8 (x / 256 ^ j % 256))
      rw [hnx] at hset
      obtain ⟨X0, X1⟩ := div_bd x j h0 h1
      have hdn := div_next x j
      have j0 : (j : Int) < 8 := by omega
      have j1 : (0 : Int) ≤ j := by omega
      have HS := Lib.hid hset
      clear hset hnx
      generalize x / 256 ^ j = X at *
      have HD := Lib.hid hdn
      clear hdn hB
      go_wp2
      go_roundw
      case rel => exact ⟨j + 1, by omega, by go_num, by rw [← HD.out], HS.out, Below.setCell hbd (by rw [← HG.out]; exact Nat.le_refl _) _⟩
      case measure => simp [intOf]; omega
    · have hjk : j = 8 := by omega
      have hge : ¬ (j : Int) < 8 := by omega
      have hB' : Blk wr g (((fixZ x 8).map (Value.int .u8)).toArray) 5 := by have h := hB; rw [hjk, fixRow_full] at h; exact h
      have HB := Lib.hid hB'
      clear hB' hB hjk hlt
      go_wp2
      go_ret
      exact ⟨g, rfl, by rw [HG.out]; exact Nat.le_refl _, hbd, HB.out⟩

set_option maxHeartbeats 800000 in
theorem pfixed_hi (x : Int) (n : Int) (w : World) (h0 : 0 ≤ x) (h1 : x < 18446744073709551616) (hn : 8 < n) :
    Calls Try.prog 42 #[.int .u64 x, .int .i64 n] w (FixPost x 8 w) := by
  have hk0 : (0 : Int) ≤ n := by omega
  have hn' : ¬ n ≤ 8 := by omega
  obtain ⟨i0, hi, hz0, hz1, hz2⟩ := info_parts info5
  have hmk := fun w => run_make (P := Try.prog) w 22 5 i0 (.int .u8 0) Try.underlying22 hi hz0 .i64 .i64 8 8 (by omega) (by omega) (by rw [hz2]; omega) (by omega)
  go_enter Try.func42, Try.ntmps42
  go_wp2
  have hB0 := Blk.new w (madeCells #[.int .u8 0] 8) 5
  rw [← fixRow_zero x] at hB0
  have HB0 := Lib.hid hB0
  have b0 := below_one w (.cells (madeCells #[.int .u8 0] 8) 5)
  rw [← fixRow_zero x 8] at b0
  rw [← fixRow_zero x 8]
  clear hmk hB0
  generalize hg : w.heap.size = g at HB0
  have HG := Lib.hid hg
  clear hg
  go_loopw [0, 13] (fun v0 v13 wr => ∃ j : Nat, j ≤ 8 ∧ v13 = .int .i64 j ∧ v0 = .int .u64 (x / 256 ^ j) ∧ Blk wr g (fixRow x 8 j) 5 ∧ Below w.heap.size w wr) (fun _ i _ => 8 - (intOf i).toNat)
  case atStart => exact ⟨0, Nat.zero_le _, rfl, by simp, HB0.out, b0⟩
  case round =>
    obtain ⟨j, hj, rfl, rfl, hB, hbd⟩ := hrel
    by_cases hlt : j < 8
    · have hc := hB.cell j (fixRow_at x 8 j hlt)
      have hf := hB.free j
      have hnx := fixRow_next x 8 j hlt
      have hset := hB.set j (.int .u8 (x / 256 ^ j % 256))
      rw [hnx] at hset
      obtain ⟨X0, X1⟩ := div_bd x j h0 h1
      have hdn := div_next x j
      have j0 : (j : Int) < 8 := by omega
      have j1 : (0 : Int) ≤ j := by omega
      have HS := Lib.hid hset
      clear hset hnx
      generalize x / 256 ^ j = X at *
      have HD := Lib.hid hdn
      clear hdn hB
      go_wp2
      go_roundw
      case rel => exact ⟨j + 1, by omega, by go_num, by rw [← HD.out], HS.out, Below.setCell hbd (by rw [← HG.out]; exact Nat.le_refl _) _⟩
      case measure => simp [intOf]; omega
    · have hjk : j = 8 := by omega
      have hge : ¬ (j : Int) < 8 := by omega
      have hB' : Blk wr g (((fixZ x 8).map (Value.int .u8)).toArray) 5 := by have h := hB; rw [hjk, fixRow_full] at h; exact h
      have HB := Lib.hid hB'
      clear hB' hB hjk hlt
      go_wp2
      go_ret
      exact ⟨g, rfl, by rw [HG.out]; exact Nat.le_refl _, hbd, HB.out⟩

theorem pfixed_any (x n : Int) (w : World) (h0 : 0 ≤ x) (h1 : x < 18446744073709551616) :
    Calls Try.prog 42 #[.int .u64 x, .int .i64 n] w (FixPost x (fixN n) w) := by
  unfold fixN
  by_cases a : n < 0
  · rw [if_pos a]; exact pfixed_lo x n w h0 h1 a
  · rw [if_neg a]
    by_cases b : n < 8
    · rw [if_pos b]
      obtain ⟨k, rfl⟩ := Int.eq_ofNat_of_zero_le (show 0 ≤ n by omega)
      exact pfixed_mid x k w h0 h1 b
    · rw [if_neg b]
      by_cases c : n = 8
      · subst c; exact pfixed_8 x w h0 h1
      · exact pfixed_hi x n w h0 h1 (by omega)

def WFixedPost (B b : Nat) (r : Option Nat) (z : List Int) (M c x n : Int) (w : World) (e : Ending) (w' : World) : Prop := WPutPost B b r z (fixZ x (fixN n)) M c w e w'
set_option maxHeartbeats 400000 in
theorem wfixed_any {w : World} {B b : Nat} {r : Option Nat} {z : List Int} {M c : Int} (x n : Int) (h : Wr w B b r z M c) (h0 : 0 ≤ x) (h1 : x < 18446744073709551616) (hsz : z.length ≤ 900000) (hBw : B ≤ w.heap.size) :
    Calls Try.prog 27 #[.pointer (some ⟨b, 0, none⟩), .int .u64 x, .int .i64 n] w (WFixedPost B b r z M c x n w) := by
  have hk := fixN_le n
  go_enter Try.func27, Try.ntmps27
  go_wp2_with fail
  refine (pfixed_any _ _ _ h0 h1).mono ?_
  rintro e w1 ⟨g, rfl, hg, hb, hblk⟩
  have h2 := h.below hb
  have hbs : Bs w1 (some ⟨g, 0, none⟩) (fixN n) (fixZ x (fixN n)) := by
    have := Bs.of_block hblk
    rw [fixZ_length] at this
    exact this
  have hoff : 0 < fixN n → ∀ a, some (⟨g, 0, none⟩ : Addr) = some a → ¬ WS b r a.block := by
    rintro _ a ha
    injection ha with ha
    subst ha
    obtain ⟨v, rfl, hbb, ho, _⟩ := h
    rintro (e | e)
    · have := hbb.lt; simp at e; omega
    · have := ho.lt _ e; simp at this; omega
  go_wp2_with fail
  refine (wput_any _ _ _ h2 hbs (by simp) hoff (by omega) (Nat.le_trans hBw hb.size)).mono ?_
  rintro e w2 ⟨r', rfl, hks, hgr, hw⟩
  go_wp2
  go_end0
  refine ⟨r', rfl, (Ks.of_below hb).trans hks, ?_, hw⟩
  rcases hgr with e | ⟨g, e, hg⟩
  · exact .inl e
  · exact .inr ⟨g, e, Nat.le_trans hb.size hg⟩

set_option maxHeartbeats 400000 in
theorem wfixed_none (x n : Int) (w : World) (h0 : 0 ≤ x) (h1 : x < 18446744073709551616) :
    Calls Try.prog 27 #[.pointer none, .int .u64 x, .int .i64 n] w fun e w' => e = .returned (.tuple #[]) ∧ Below w.heap.size w w' := by
  go_enter Try.func27, Try.ntmps27
  go_wp2_with fail
  refine (pfixed_any _ _ _ h0 h1).mono ?_
  rintro e w1 ⟨g, rfl, hg, hb, hblk⟩
  go_wp2_with fail
  refine (wput_none _ _ _ _).mono ?_
  rintro e w2 ⟨rfl, rfl⟩
  go_wp2
  go_end0
  exact ⟨rfl, hb⟩
end Go.Proofs.Ytkedmhopajpkhaa.Cur
