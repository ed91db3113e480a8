/- Blocks: the document's example. -/
import Derived.Test.YtckpngofnohdjaaBlkA
namespace Go.Proofs.Ytckpngofnohdjaa.Cur
open Go.RowKit Go.Shelf Mem
attribute [local go_sem] Oper.semAt_some
set_option linter.unusedVariables false
set_option maxRecDepth 100000

abbrev z16 : List Int := [97, 98, 99]
abbrev y16 : List Int := [97, 97, 97, 97, 97, 97, 97, 97, 97, 97, 97, 97, 97, 97, 97, 97, 97, 97, 97, 97, 97, 97, 97, 97, 97, 97, 97, 97, 97, 97, 97, 97, 97, 97, 97, 97, 97, 97, 97, 97]
theorem z16_by : ∀ x ∈ z16, 0 ≤ x ∧ x < 256 := by decide
theorem y16_by : ∀ x ∈ y16, 0 ≤ x ∧ x < 256 := by decide
theorem z16_is : bkb z16 = [3, 0, 97, 98, 99] := by decide +kernel
theorem y16_is : bkb y16 = [40, 1, 4, 0, 97, 71, 0] := by decide +kernel
set_option maxHeartbeats 4000000 in
theorem live16_any (w : World) : Calls Try.prog 6 #[] w (BPost (.bool true) w) := by
  unfold BPost
  have hcv := Go.Joins.run_convert_bytes_const_at (P := Try.prog) w 22 5 #[.int .u8 97, .int .u8 98, .int .u8 99] 3 3 w.heap.size rfl Try.underlying22 Try.underlying5
  have hbs : Bs (w.alloc (.cells #[.int .u8 97, .int .u8 98, .int .u8 99] 5 (3, 4))) (some ⟨w.heap.size, 0, none⟩) 3 z16 := bs_mark w z16 5 (3, 4)
  have hb0 := below_one w (.cells #[.int .u8 97, .int .u8 98, .int .u8 99] 5 (3, 4))
  have hK := kbytes_any (some ⟨w.heap.size, 0, none⟩) 3 3 hbs (by simp) z16_by (by omega) (by omega)
  unfold KBPost at hK
  rw [z16_is] at hK
  clear hbs
  go_enter Try.func6, Try.ntmps6
  go_wp2_with fail
  with_reducible refine hK.mono ?_
  rintro e w2 ⟨g2, rfl, hg2, hb2, hblk2⟩
  have hbd := hb0.trans (hb2.mono hb0.size)
  have hs2 := Bs.of_block hblk2
  clear hcv hK hb0 hb2 hblk2 hg2
  have hcv := Go.Joins.run_convert_bytes_const_at (P := Try.prog) w2 22 5 (y16.map (Value.int .u8)).toArray 40 40 w2.heap.size rfl Try.underlying22 Try.underlying5
  have hbs : Bs (w2.alloc (.cells (y16.map (Value.int .u8)).toArray 5 (40, 41))) (some ⟨w2.heap.size, 0, none⟩) 40 y16 := bs_mark w2 y16 5 (40, 41)
  have hb0 := below_one w2 (.cells (y16.map (Value.int .u8)).toArray 5 (40, 41))
  have hK := kbytes_any (some ⟨w2.heap.size, 0, none⟩) 40 40 hbs (by simp) y16_by (by omega) (by omega)
  unfold KBPost at hK
  rw [y16_is] at hK
  replace hs2 := hs2.below hb0
  replace hbd := hbd.trans (hb0.mono hbd.size)
  simp only [y16, List.map_cons, List.map_nil] at hcv hK hs2 hbd
  clear hbs hb0
  go_wp2_with fail
  refine hK.mono ?_
  rintro e w3 ⟨g3, rfl, hg3, hb3, hblk3⟩
  have hs3 : Bs w3 (some ⟨g3, 0, none⟩) 7 [40, 1, 4, 0, 97, 71, 0] := Bs.of_block (z := [40, 1, 4, 0, 97, 71, 0]) hblk3
  replace hbd := hbd.trans (hb3.mono hbd.size)
  replace hs2 := hs2.below hb3
  have hbA := below_one w3 (.cells #[.int .u8 3, .int .u8 0, .int .u8 97, .int .u8 98, .int .u8 99] 5)
  have hsA : Bs (w3.alloc (.cells #[.int .u8 3, .int .u8 0, .int .u8 97, .int .u8 98, .int .u8 99] 5)) (some ⟨w3.heap.size, 0, none⟩) 5 [3, 0, 97, 98, 99] := bs_new w3 [3, 0, 97, 98, 99] 5
  replace hbd := hbd.trans (hbA.mono hbd.size)
  replace hs2 := hs2.below hbA
  replace hs3 := hs3.below hbA
  clear hcv hK hb3 hblk3 hg3 hbA
  go_wp2_with fail
  refine (same_any _ _ _ _ _ _ [3, 0, 97, 98, 99] _ hs2 hsA).mono ?_
  rintro e w4 ⟨rfl, rfl⟩
  have hbB := below_one (w3.alloc (.cells #[.int .u8 3, .int .u8 0, .int .u8 97, .int .u8 98, .int .u8 99] 5)) (.cells #[.int .u8 40, .int .u8 1, .int .u8 4, .int .u8 0, .int .u8 97, .int .u8 71, .int .u8 0] 5)
  have hsB : Bs ((w3.alloc (.cells #[.int .u8 3, .int .u8 0, .int .u8 97, .int .u8 98, .int .u8 99] 5)).alloc (.cells #[.int .u8 40, .int .u8 1, .int .u8 4, .int .u8 0, .int .u8 97, .int .u8 71, .int .u8 0] 5)) (some ⟨(w3.alloc (.cells #[.int .u8 3, .int .u8 0, .int .u8 97, .int .u8 98, .int .u8 99] 5)).heap.size, 0, none⟩) 7 [40, 1, 4, 0, 97, 71, 0] := bs_new _ [40, 1, 4, 0, 97, 71, 0] 5
  rw [World.size_alloc] at hsB
  replace hbd := hbd.trans (hbB.mono hbd.size)
  replace hs3 := hs3.below hbB
  clear hs2 hsA hbB
  go_wp2_with fail
  refine (same_any _ _ _ _ _ _ [40, 1, 4, 0, 97, 71, 0] _ hs3 hsB).mono ?_
  rintro e w5 ⟨rfl, rfl⟩
  have HB := Lib.hid hbd
  clear hbd hs3 hsB
  go_wp2
  go_ret
  exact ⟨rfl, HB.out⟩
end Go.Proofs.Ytckpngofnohdjaa.Cur
