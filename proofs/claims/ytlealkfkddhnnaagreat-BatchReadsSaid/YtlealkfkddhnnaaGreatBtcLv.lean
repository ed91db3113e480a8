/- As the seat's text, without what nothing here names. -/
import Derived.Test.YtlealkfkddhnnaaGreatBtcKv
namespace Go.Proofs.YtlealkfkddhnnaaGreat.Cur
open Go.RowKit Mem
set_option linter.unusedVariables false
set_option maxRecDepth 100000
set_option maxHeartbeats 2000000 in
theorem live25_any (w : World) : Calls Tryz.prog 8 #[] w fun e w' => e = .returned (.bool true) ∧ Below w.heap.size w w' := by
  have P1 : Hid (btk (3, 10, [([], [7, 8])]) = true) := Lib.hid (by decide +kernel)
  have P2 : Hid (btb (3, 10, [([], [7, 8])]) = [3, 10, 1, 0, 2, 2, 0, 7, 8]) := Lib.hid (by decide +kernel)
  have hu1 := bs_new w [7, 8] 5
  have hb1 := below_one w (.cells #[.int .u8 7, .int .u8 8] 5)
  have hs1 : (w.alloc (.cells #[.int .u8 7, .int .u8 8] 5)).heap.size = w.heap.size + 1 := by simp
  have hX2 := Blk.new (w.alloc (.cells #[.int .u8 7, .int .u8 8] 5)) (enc' none 0 0 (some ⟨w.heap.size, 0, none⟩) 2 2) 62
  have hb2 := below_one (w.alloc (.cells #[.int .u8 7, .int .u8 8] 5)) (.cells (enc' none 0 0 (some ⟨w.heap.size, 0, none⟩) 2 2) 62)
  have hs2 : ((w.alloc (.cells #[.int .u8 7, .int .u8 8] 5)).alloc (.cells (enc' none 0 0 (some ⟨w.heap.size, 0, none⟩) 2 2) 62)).heap.size = w.heap.size + 2 := by simp
  rw [hs1] at hX2
  have hu2 := hu1.below hb2
  have hbd2 := hb1.trans (hb2.mono hb1.size)
  clear hu1 hb1 hb2 hs1
  go_enter Tryz.func8, Tryz.ntmps8
  go_wp2_with fail
  generalize (w.alloc (.cells #[.int .u8 7, .int .u8 8] 5)).alloc (.cells (enc' none 0 0 (some ⟨w.heap.size, 0, none⟩) 2 2) 62) = w2 at *
  have hen : Ens w2 (fun b' => b' < w2.heap.size) (some ⟨w.heap.size + 1, 0, none⟩) 1 [([], [7, 8])] := ens_of_cells rfl (by omega) fun i hi => by
    obtain rfl : i = 0 := by omega
    exact ⟨_, _, ⟨hX2.cell 0 rfl, hX2.cell 1 rfl⟩, EnE.mk ⟨rfl, Sq.nil _ _ _ _⟩ (Nat.le_refl _) (fun _ => rfl) rfl (Nat.le_refl _) (fun e => by cases e) (Bs.sq hu2 (by decide) fun _ ad ha => by injection ha with ha; subst ha; show w.heap.size < w2.heap.size; omega)⟩
  have hsm : esm [(([], [7, 8]) : En)] := fun k => by
    rcases k with _ | k
    · exact ⟨by decide, fun s h => by simp at h, by decide⟩
    · exact ⟨by simp [en0], fun s h => by simp [en0] at h, by simp [en0]⟩
  refine (bbytes_any _ 3 10 (some ⟨w.heap.size + 1, 0, none⟩) 1 1 [([], [7, 8])] w2 hen (fun _ h => h) (by omega) hsm (by omega) (by omega) (by omega) (by omega) (by decide)).mono ?_
  rintro e w3 ⟨hb3, ⟨_, g, rfl, hg, hbs⟩ | ⟨hf, _⟩⟩
  case inr => exact absurd hf (by rw [P1.out]; decide)
  rw [P2.out] at hbs
  rw [P2.out]
  have hbd3 := hbd2.trans (hb3.mono hbd2.size)
  have hq1 := hbs.below (below_one w3 (.cells #[.int .u8 3, .int .u8 10, .int .u8 1, .int .u8 0, .int .u8 2, .int .u8 2, .int .u8 0, .int .u8 7, .int .u8 8] 5))
  have hq2 := bs_new w3 [3, 10, 1, 0, 2, 2, 0, 7, 8] 5
  have hb7 := below_one w3 (.cells #[.int .u8 3, .int .u8 10, .int .u8 1, .int .u8 0, .int .u8 2, .int .u8 2, .int .u8 0, .int .u8 7, .int .u8 8] 5)
  have hbd7 := hbd3.trans (hb7.mono hbd3.size)
  clear hen hsm hu2 hX2 hb3 hbs hb7 hbd3
  go_wp2_with fail
  refine (same_any _ _ _ _ _ _ [3, 10, 1, 0, 2, 2, 0, 7, 8] _ hq1 hq2).mono ?_
  rintro e w6 ⟨rfl, rfl⟩
  go_wp2
  go_ret
  exact ⟨rfl, hbd7⟩
end Go.Proofs.YtlealkfkddhnnaaGreat.Cur
