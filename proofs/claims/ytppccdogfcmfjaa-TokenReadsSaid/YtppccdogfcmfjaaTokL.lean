/- The document's example for tokens is as it says (live). -/
import Derived.Test.YtppccdogfcmfjaaTokK
import Derived.Test.YtppccdogfcmfjaaTokD
namespace Go.Proofs.Ytppccdogfcmfjaa.Cur
open Go.RowKit Mem
set_option linter.unusedVariables false

def T11 : List Tk := [([7, 8], 0, 0), ([], 1, 4)]
theorem t11_all : tall T11 T11.length = true := by decide +kernel
theorem t11_bs : tbs T11 T11.length = [2, 7, 8, 1, 0] := by decide +kernel
theorem t11_bs2 : (tbs T11 2).length = 5 := by decide +kernel
theorem t11_lit (i : Nat) : (T11.getD i tk0).1.length ≤ 100000 := by
  match i with
  | 0 => exact (by decide : 2 ≤ 100000)
  | 1 => exact Nat.zero_le _
  | i + 2 => exact Nat.zero_le _
theorem t11_at (w : World) (g : Nat) (hg : Bs w (some ⟨g, 0, none⟩) 2 [7, 8]) :
    TksL (w.alloc (.cells #[.slice (some ⟨g, 0, none⟩) 2 2, .int .i64 0, .int .i64 0, .slice none 0 0, .int .i64 1, .int .i64 4] 28)) (some ⟨w.heap.size, 0, none⟩) 2 T11 := by
  have hX := Blk.new w #[.slice (some ⟨g, 0, none⟩) 2 2, .int .i64 0, .int .i64 0, .slice none 0 0, .int .i64 1, .int .i64 4] 28
  have hb2 := below_one w (.cells #[.slice (some ⟨g, 0, none⟩) 2 2, .int .i64 0, .int .i64 0, .slice none 0 0, .int .i64 1, .int .i64 4] 28)
  have hbs1 := hg.below hb2
  generalize w.alloc (.cells #[.slice (some ⟨g, 0, none⟩) 2 2, .int .i64 0, .int .i64 0, .slice none 0 0, .int .i64 1, .int .i64 4] 28) = w2 at *
  refine ⟨rfl, fun i hi => ?_⟩
  rcases (show i = 0 ∨ i = 1 by omega) with h | h
  · subst h
    exact ⟨w.heap.size, 0, some ⟨g, 0, none⟩, 2, 2, rfl, ⟨hX.cell 0 rfl, hX.cell 1 rfl, hX.cell 2 rfl, hbs1⟩, fun h => (by cases h), Nat.le_refl _⟩
  · subst h
    exact ⟨w.heap.size, 0, none, 0, 0, rfl, ⟨hX.cell 3 rfl, hX.cell 4 rfl, hX.cell 5 rfl, Bs.none _⟩, fun _ => rfl, Nat.le_refl _⟩

set_option maxHeartbeats 1000000 in
theorem live11_any (w : World) : Calls Try.prog 8 #[] w (BPost (.bool true) w) := by
  have hbs : Bs (w.alloc (.cells #[.int .u8 7, .int .u8 8] 5)) (some ⟨w.heap.size, 0, none⟩) 2 [7, 8] := bs_new w [7, 8] 5
  have hb1 := below_one w (.cells #[.int .u8 7, .int .u8 8] 5)
  have hTk := t11_at _ _ hbs
  have hb2 := below_one (w.alloc (.cells #[.int .u8 7, .int .u8 8] 5)) (.cells #[.slice (some ⟨w.heap.size, 0, none⟩) 2 2, .int .i64 0, .int .i64 0, .slice none 0 0, .int .i64 1, .int .i64 4] 28)
  have hbd := hb1.trans (hb2.mono hb1.size)
  rw [show (w.alloc (.cells #[.int .u8 7, .int .u8 8] 5)).heap.size = w.heap.size + 1 by simp] at hTk
  clear hbs hb1 hb2
  go_enter Try.func8, Try.ntmps8
  go_wp2_with fail
  refine (tbytes_any _ _ _ _ _ hTk (by omega) (by rw [t11_bs2]; decide) t11_lit).mono ?_
  rintro e w2 ⟨A, n, m, rfl, hb3, hbs, _⟩
  rw [t11_all, if_pos rfl, t11_bs] at hbs
  rw [t11_all, if_pos rfl]
  have hbd2 := hbd.trans (hb3.mono hbd.size)
  have hs1 := hbs.below (below_one w2 (.cells #[.int .u8 2, .int .u8 7, .int .u8 8, .int .u8 1, .int .u8 0] 5))
  have hs2 := bs_new w2 [2, 7, 8, 1, 0] 5
  clear hTk hbd hb3 hbs
  go_wp2_with fail
  refine (same_any _ _ _ _ _ _ [2, 7, 8, 1, 0] _ hs1 hs2).mono ?_
  rintro e w8 ⟨rfl, rfl⟩
  go_wp2
  go_ret
  exact ⟨rfl, hbd2.alloc hbd2.size _⟩
end Go.Proofs.Ytppccdogfcmfjaa.Cur
