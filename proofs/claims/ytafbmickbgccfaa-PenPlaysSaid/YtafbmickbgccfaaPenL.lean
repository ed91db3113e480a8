/- The document's example for the writer is as it says (live). -/
import Derived.Test.YtafbmickbgccfaaPenS
namespace Go.Proofs.Ytafbmickbgccfaa.Cur
open Go.RowKit Mem
set_option linter.unusedVariables false

theorem Wr.off_new {w : World} {B b : Nat} {r : Option Nat} {z : List Int} {M c : Int} (h : Wr w B b r z M c) {g : Nat} (hg : w.heap.size ≤ g) : ¬ WS b r g := by
  obtain ⟨v, rfl, hb, ho, _⟩ := h
  rintro (e | e)
  · have := hb.lt; omega
  · have := ho.lt _ e; omega

set_option maxHeartbeats 1000000 in
theorem live3_any (w : World) :
    Calls Try.prog 8 #[] w fun e w' => e = .returned (.bool true) ∧ Below w.heap.size w w' := by
  have p1 : putZ [] [1, 2] 3 0 = [1, 2] := by decide
  have p2 : putC [] [1, 2] 3 0 = 0 := by decide
  have p3 : putZ [1, 2] [3, 4] 3 0 = [1, 2] := by decide
  have p4 : putC [1, 2] [3, 4] 3 0 = 2 := by decide
  have p5 : fixZ 258 (fixN 4) = [2, 1, 0, 0] := by decide
  have p6 : fixN 4 = 4 := by decide
  have P1 := Lib.hid p1
  have P2 := Lib.hid p2
  have P3 := Lib.hid p3
  have P4 := Lib.hid p4
  have P5 := Lib.hid p5
  have P6 := Lib.hid p6
  clear p1 p2 p3 p4 p5 p6
  go_enter Try.func8, Try.ntmps8
  go_wp2_with fail
  refine (wnew_any _ _ (by omega)).mono ?_
  rintro e w1 ⟨b, rfl, hb, hb1, hw1⟩
  rw [if_neg (by omega)] at hw1
  have hs1 := hb1.size
  go_wp2_with fail
  refine (wput_any (y := [1, 2]) _ _ _ (hw1.below (below_one _ _)) (Bs.of_block (z := [1, 2]) (heap_alloc_new _ _)) (by simp) (by rintro _ a ha; injection ha with ha; subst ha; exact (hw1.off_new (Nat.le_refl _))) (by simp) (by simp; omega)).mono ?_
  rintro e w2 ⟨r2, rfl, hk2, hg2, hw2⟩
  rw [P1.out, P2.out] at hw2
  have hb2 := (hw1.below (below_one _ _)).belowOf (hb1.alloc hs1 _) (Nat.le_refl _) hk2 (Nat.le_refl _)
  have hs2 := hb2.size
  clear hw1 hk2 hg2 hb1
  go_wp2_with fail
  refine (wput_any (y := [3, 4]) _ _ _ (hw2.below (below_one _ _)) (Bs.of_block (z := [3, 4]) (heap_alloc_new _ _)) (by simp) (by rintro _ a ha; injection ha with ha; subst ha; exact (hw2.off_new (Nat.le_refl _))) (by simp) (by simp; omega)).mono ?_
  rintro e w3 ⟨r3, rfl, hk3, hg3, hw3⟩
  rw [P3.out, P4.out] at hw3
  have hb3 := (hw2.below (below_one _ _)).belowOf (hb2.alloc hs2 _) (Nat.le_refl _) hk3 (Nat.le_refl _)
  clear hw2 hk3 hg3 hb2
  go_wp2_with fail
  refine (wbytes_bad hw3 rfl).mono ?_
  rintro e w4 ⟨rfl, rfl⟩
  go_wp2_with fail
  refine (wlen_any hw3).mono ?_
  rintro e w4 ⟨rfl, rfl⟩
  go_wp2_with fail
  refine (pfixed_any _ _ _ (by omega) (by omega)).mono ?_
  rintro e w5 ⟨g, rfl, hg, hb5, hblk⟩
  rw [P5.out] at hblk
  rw [P6.out]
  have hb6 := hb3.trans (hb5.mono hb3.size)
  have hs : Bs (w5.alloc (.cells #[.int .u8 2, .int .u8 1, .int .u8 0, .int .u8 0] 5)) (some ⟨g, 0, none⟩) 4 [2, 1, 0, 0] := (Bs.of_block (z := [2, 1, 0, 0]) hblk).below (below_one _ _)
  go_wp2_with fail
  refine (same_any _ _ _ _ _ _ [2, 1, 0, 0] _ hs (Bs.of_block (z := [2, 1, 0, 0]) (heap_alloc_new _ _))).mono ?_
  rintro e w6 ⟨rfl, rfl⟩
  go_wp2
  go_ret
  exact ⟨rfl, hb6.alloc hb6.size _⟩
end Go.Proofs.Ytafbmickbgccfaa.Cur
