/- The document's example for falling lists is as it says (live). -/
import Derived.Test.YtjcoabgcacaceaaDltC
namespace Go.Proofs.Ytjcoabgcacaceaa.Cur
open Go.RowKit Mem
set_option linter.unusedVariables false

set_option maxHeartbeats 1000000 in
theorem live22_any (w : World) :
    Calls Try.prog 7 #[] w fun e w' => e = .returned (.bool true) ∧ Below w.heap.size w w' := by
  have p1 : flb 100 [99, 90, 0] = true := by decide
  have p2 : puts (litems (dif 100 [99, 90, 0])) [] 9 0 = ([3, 0, 8, 89], 0) := by decide +kernel
  have P1 := Lib.hid p1
  have P2 := Lib.hid p2
  clear p1 p2
  go_enter Try.func7, Try.ntmps7
  go_wp2_with fail
  refine (wnew_any 9 w (by omega)).mono ?_
  rintro e w1 ⟨b, rfl, hbb, hb1, hw1⟩
  rw [if_neg (by omega)] at hw1
  have hus := us_new w1 [99, 90, 0] 22
  have hb2 := hb1.alloc hb1.size (.cells #[.int .u64 99, .int .u64 90, .int .u64 0] 22)
  have hw2 := hw1.below (below_one w1 (.cells #[.int .u64 99, .int .u64 90, .int .u64 0] 22))
  go_wp2_with fail
  refine (dput_yes _ 3 _ 100 [99, 90, 0] hw2 hus (by omega) (by simp) (by omega) (by omega) P1.out (by simp) hb2.size).mono ?_
  rintro e w3 ⟨r', rfl, hk3, hg3, hw3⟩
  have hb3 := hw2.belowOf hb2 (Nat.le_refl _) hk3 (Nat.le_refl _)
  rw [P2.out] at hw3
  clear hus hw2 hk3 hb2 hw1 hb1
  go_wp2_with fail
  refine (wbytes_good hw3 (by simp)).mono ?_
  rintro e w4 ⟨g, rfl, hg, hb4, hblk⟩
  have hb5 := hb3.trans (hb4.mono hb3.size)
  have hs1 := (Bs.of_block (z := [3, 0, 8, 89]) hblk).below (below_one w4 (.cells #[.int .u8 3, .int .u8 0, .int .u8 8, .int .u8 89] 5))
  have hs2 := bs_new w4 [3, 0, 8, 89] 5
  go_wp2_with fail
  refine (same_any _ _ _ _ _ _ [3, 0, 8, 89] _ hs1 hs2).mono ?_
  rintro e w6 ⟨rfl, rfl⟩
  go_wp2
  go_ret
  exact ⟨rfl, hb5.alloc hb5.size _⟩
end Go.Proofs.Ytjcoabgcacaceaa.Cur
