/- The document's example for rising lists is as it says (live). -/
import Derived.Test.YtccbgoddalbbaaaZigH
import Derived.Test.YtccbgoddalbbaaaZigM
namespace Go.Proofs.Ytccbgoddalbbaaa.Cur
open Go.RowKit Mem
set_option linter.unusedVariables false

theorem bs_new (w : World) (z : List Int) (t : Nat) : Bs (w.alloc (.cells (z.map (Value.int .u8)).toArray t)) (some ⟨w.heap.size, 0, none⟩) z.length z := Bs.of_block (heap_alloc_new _ _)
theorem us_new (w : World) (z : List Int) (t : Nat) : Us (w.alloc (.cells (uv z).toArray t)) (some ⟨w.heap.size, 0, none⟩) z.length z := ⟨rfl, rw_new w (uv z) t⟩
set_option maxHeartbeats 1000000 in
theorem live5_any (w : World) :
    Calls Try.prog 7 #[] w fun e w' => e = .returned (.bool true) ∧ Below w.heap.size w w' := by
  have p1 : risesB [5, 6, 300] = true := by decide
  have p2 : rz [5, 6, 300] = [5, 0, 165, 2] := by decide +kernel
  have p3 : zg (-2) = 3 := by decide
  have P1 := Lib.hid p1
  have P2 := Lib.hid p2
  have P3 := Lib.hid p3
  clear p1 p2 p3
  go_enter Try.func7, Try.ntmps7
  go_wp2_with fail
  refine (wnew_any 9 w (by omega)).mono ?_
  rintro e w1 ⟨b, rfl, hbb, hb1, hw1⟩
  rw [if_neg (by omega)] at hw1
  have hus := us_new w1 [5, 6, 300] 22
  have hb2 := hb1.alloc hb1.size (.cells #[.int .u64 5, .int .u64 6, .int .u64 300] 22)
  have hw2 := hw1.below (below_one w1 (.cells #[.int .u64 5, .int .u64 6, .int .u64 300] 22))
  have hlt := hw1.lt
  go_wp2_with fail
  refine (putrising_yes _ 3 _ [5, 6, 300] hw2 hus (fun _ a ha => by injection ha with ha; subst ha; rintro (e | e) <;> first | (have e : w1.heap.size = b := e; omega) | (cases e)) (by omega) (by simp) P1.out (by rw [P2.out]; simp) (by simp) hb2.size).mono ?_
  rintro e w3 ⟨r', rfl, hk3, hg3, hw3⟩
  have hb3 := hw2.belowOf hb2 (Nat.le_refl _) hk3 (Nat.le_refl _)
  rw [P2.out, List.nil_append] at hw3
  clear hus hw2 hk3 hb2 hw1 hb1
  go_wp2_with fail
  refine (wbytes_good hw3 (by simp)).mono ?_
  rintro e w4 ⟨g, rfl, hg, hb4, hblk⟩
  have hb5 := hb3.trans (hb4.mono hb3.size)
  go_wp2_with fail
  refine (zig_any (-2) _ (by omega) (by omega)).mono ?_
  rintro e w5 ⟨rfl, rfl⟩
  rw [P3.out]
  have hs1 := (Bs.of_block (z := [5, 0, 165, 2]) hblk).below (below_one w4 (.cells #[.int .u8 5, .int .u8 0, .int .u8 165, .int .u8 2] 5))
  have hs2 := bs_new w4 [5, 0, 165, 2] 5
  go_wp2_with fail
  refine (same_any _ _ _ _ _ _ [5, 0, 165, 2] _ hs1 hs2).mono ?_
  rintro e w6 ⟨rfl, rfl⟩
  go_wp2
  go_ret
  exact ⟨rfl, hb5.alloc hb5.size _⟩
end Go.Proofs.Ytccbgoddalbbaaa.Cur
