/- The contracts of the reader's own functions (package cursor), third part: cut, Take, Byte, Since, Part. -/
import Derived.Test.YtkedmhopajpkhaaCurB
import Derived.Laws.CopyOwn
import Derived.Deep.RegionLaw
namespace Go.Proofs.Ytkedmhopajpkhaa.Cur
open Go.RowKit
set_option linter.unusedVariables false

/-- A new row of bytes at block g, which did not lie in w. -/
def CutPost (z : List Int) (f k : Nat) (w : World) (e : Ending) (w' : World) : Prop :=
  ∃ g, e = .returned (.slice (some ⟨g, 0, none⟩) (k - f) (k - f)) ∧ w.heap.size ≤ g ∧ Below w.heap.size w w' ∧ w'.heap[g]? = some (.cells ((piece z f k).map (Value.int .u8)).toArray 5 (0, 0))

set_option maxHeartbeats 400000 in
theorem cut_some (b : Nat) (a : Option Addr) (n m : Nat) (z : List Int) (c q : Int) (f k : Nat) (w : World) (h : IsRd w b (.slice a n m) k c q) (hz : Bs w a n z) (hf : f < k) (h1 : k ≤ n) (hm : n ≤ m) (hn : n ≤ 1000000) :
    Calls Try.prog 54 #[.pointer (some ⟨b, 0, none⟩), .int .i64 f] w (CutPost z f k w) := by
  obtain ⟨i0, hi, hz0, hz1, hz2⟩ := info_parts info5
  have hmk := fun w => run_make (P := Try.prog) w 22 5 i0 (.int .u8 0) Try.underlying22 hi hz0 .i64 .i64 ((k : Int) - f) ((k : Int) - f) (by omega) (by omega) (by rw [hz2]; omega) (by omega)
  obtain ⟨c0, c1, c2, c3⟩ := h.cells
  clear c2 c3
  have hb := h.lt
  have hne : ¬ k = f := by omega
  have f0 : (0 : Int) ≤ f := by omega
  have f1 : (f : Int) ≤ k := by omega
  have f2 : (k : Int) ≤ m := by omega
  obtain ⟨C, hC⟩ : ∃ C, C = (piece z f k).map (Value.int .u8) := ⟨_, rfl⟩
  have l1 : C.length = Nat.min (k - f) (k - f) := by rw [hC, List.length_map, length_piece hz.1 h1]; simp
  have l2 : 0 + C.length ≤ (madeCells #[.int .u8 0] (k - f)).toList.length := by rw [hC, List.length_map, length_piece hz.1 h1]; simp [size_madeCells]
  have l3 : ∀ v ∈ C, v.oneCell' = true := by
    rw [hC]; intro v hv; obtain ⟨x, _, rfl⟩ := List.mem_map.1 hv; rfl
  have l4 : ∃ ad, Option.map (fun x => x.add f) a = some ad ∧ ∀ j v, C[j]? = some v → ((w.alloc (Obj.cells (madeCells #[Value.int IntKind.u8 0] (k - f)) 5)).drew).cell? (ad.add j) = some v := by
    rw [hC]
    exact piece_cells (w := (w.alloc (Obj.cells (madeCells #[Value.int IntKind.u8 0] (k - f)) 5)).drew) (hz.below ((Below.refl _ _).alloc (Nat.le_refl _) _).drew) hf h1
  have hsp : splice (madeCells #[.int .u8 0] (k - f)).toList 0 C = C := by
    have : C.length = (madeCells #[.int .u8 0] (k - f)).toList.length := by rw [hC, List.length_map, length_piece hz.1 h1]; simp [size_madeCells]
    simp [splice, this]
  have L1 := Lib.hid l1
  have L2 := Lib.hid l2
  have L3 := Lib.hid l3
  have L4 := Lib.hid l4
  have HS := Lib.hid hsp
  have HC := Lib.hid hC
  clear l1 l2 l3 l4 hC hsp
  go_enter Try.func54, Try.ntmps54
  go_wp2
  go_region_law (refine step_copy_splice rfl (.tmp 13) (.tmp 27) 22 22 rfl 5 Try.underlying22 size5 _ _ _ _ _ _ rfl rfl w.heap.size 0 (madeCells #[.int .u8 0] (k - f)).toList 5 (heap_alloc_new _ _) C L1.out (fun _ => ⟨rfl, L4.out⟩) L2.out L3.out w.heap.size w ((Below.refl _ _).alloc (Nat.le_refl _) _).drew (Nat.le_refl _) ?_; intro w4 hg4 hb4)
  all_goals
    go_wp2
    go_ret
    exact ⟨w.heap.size, rfl, Nat.le_refl _, hb4, by have := hg4.out; rw [HS.out, HC.out] at this; exact this⟩

set_option maxHeartbeats 400000 in
theorem cut_nil (b : Nat) (a : Option Addr) (n m : Nat) (z : List Int) (c q : Int) (k : Nat) (w : World) (h : IsRd w b (.slice a n m) k c q) (h1 : k ≤ n) (hm : n ≤ m) :
    Calls Try.prog 54 #[.pointer (some ⟨b, 0, none⟩), .int .i64 k] w (CutPost z k k w) := by
  obtain ⟨i0, hi, hz0, hz1, hz2⟩ := info_parts info5
  have hmk := fun w => run_make (P := Try.prog) w 22 5 i0 (.int .u8 0) Try.underlying22 hi hz0 .i64 .i64 0 0 (by omega) (by omega) (by rw [hz2]; omega) (by omega)
  obtain ⟨c0, c1, c2, c3⟩ := h.cells
  clear c2 c3
  have hb := h.lt
  have f2 : (k : Int) ≤ m := by omega
  have hsub : (k : Int) - k = 0 := by omega
  have L2 : Hid (0 + ([] : List Value).length ≤ (madeCells #[.int .u8 0] 0).toList.length) := by unfold Hid; simp
  go_enter Try.func54, Try.ntmps54
  go_wp2
  go_region_law (refine step_copy_splice rfl (.tmp 13) (.tmp 27) 22 22 rfl 5 Try.underlying22 size5 _ _ _ _ _ _ rfl rfl w.heap.size 0 (madeCells #[.int .u8 0] 0).toList 5 (heap_alloc_new _ _) [] (by simp) (fun h => absurd h (by simp)) (by simp) (by simp) w.heap.size w ((Below.refl _ _).alloc (Nat.le_refl _) _).drew (Nat.le_refl _) ?_; intro w4 hg4 hb4)
  all_goals
    go_wp2
    go_ret
    refine ⟨w.heap.size, by rw [Nat.sub_self]; rfl, Nat.le_refl _, hb4, ?_⟩
    have := hg4.out
    simpa [piece, splice, madeCells] using this

theorem cut_any (b : Nat) (a : Option Addr) (n m : Nat) (z : List Int) (p c q f : Int) (w : World) (h : IsRd w b (.slice a n m) p c q) (hz : Bs w a n z) (h0 : 0 ≤ f) (hf : f ≤ p) (h1 : p ≤ n) (hm : n ≤ m) (hn : n ≤ 1000000) :
    Calls Try.prog 54 #[.pointer (some ⟨b, 0, none⟩), .int .i64 f] w (CutPost z f.toNat p.toNat w) := by
  obtain ⟨f, rfl⟩ := Int.eq_ofNat_of_zero_le h0
  obtain ⟨k, rfl⟩ := Int.eq_ofNat_of_zero_le (Int.le_trans h0 hf)
  rw [Int.toNat_natCast, Int.toNat_natCast]
  by_cases hk : f = k
  · subst hk
    exact cut_nil b a n m z c q f w h (by omega) hm
  · exact cut_some b a n m z c q f k w h hz (by omega) (by omega) hm hn
end Go.Proofs.Ytkedmhopajpkhaa.Cur
