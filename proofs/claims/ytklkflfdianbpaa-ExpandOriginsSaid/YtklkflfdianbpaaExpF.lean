/- Tokens expanded: how many elements; live. -/
import Derived.Test.YtklkflfdianbpaaExpE
import Derived.Test.YtklkflfdianbpaaK1
import Derived.Test.YtklkflfdianbpaaTokK
import Derived.Test.YtklkflfdianbpaaTokC
namespace Go.Proofs.Ytklkflfdianbpaa.Cur
open Go.RowKit Mem
set_option linter.unusedVariables false

section
variable {α : Type} {own : Nat → List α} {d : α} {f : α → α} {T : List Tk} {bound : Int}
theorem xp_nil {k : Nat} (h : (xp own d f T bound k).2.1 ≠ 0) : (xp own d f T bound k).1 = [] := by
  induction k with
  | zero => exact absurd rfl h
  | succ k ih =>
    rw [xp] at h ⊢
    split
    · rename_i h1; exact ih h1
    · rename_i h1
      rw [if_neg h1] at h
      split
      · rfl
      · rename_i h2; rw [if_neg h2] at h; exact absurd rfl h
theorem xp_shape {k : Nat} (h : (xp own d f T bound k).2.1 = 0) : xp own d f T bound k = ((xp own d f T bound k).1, 0, 0) := by
  cases k with
  | zero => rfl
  | succ k =>
    rw [xp] at h ⊢
    split
    · rename_i h1; rw [if_pos h1] at h; exact absurd h h1
    · rename_i h1
      rw [if_neg h1] at h
      split
      · rename_i h2; rw [if_pos h2] at h; exact absurd h h2
      · rfl
theorem xp_tot (hown : ∀ k, (own k).length = (T.getD k tk0).1.length) {k : Nat} (h : (xp own d f T bound k).2.1 = 0) :
    ((xp own d f T bound k).1.length : Int) = ttot T k ∧ ((xp own d f T bound k).1.length : Int) ≤ max bound 0 := by
  induction k with
  | zero => exact ⟨rfl, by show (0 : Int) ≤ _; omega⟩
  | succ k ih =>
    rw [xp] at h ⊢
    by_cases h1 : (xp own d f T bound k).2.1 ≠ 0
    · rw [if_pos h1] at h; exact absurd h h1
    · rw [if_neg h1] at h ⊢
      by_cases h2 : chk (T.getD k tk0).1.length (T.getD k tk0).2.1 (T.getD k tk0).2.2 ((xp own d f T bound k).1.length) bound ≠ 0
      · rw [if_pos h2] at h; exact absurd h h2
      · rw [if_neg h2]
        obtain ⟨i1, _⟩ := ih (by simpa using h1)
        obtain ⟨l0, l1, l2, l3, l4⟩ := chk_run (n := (T.getD k tk0).1.length) (o := (T.getD k tk0).2.1) (l := (T.getD k tk0).2.2) (by simpa using h2)
        show ((agn _ _ _ _ _).length : Int) = ttot T k + tln _ ∧ ((agn _ _ _ _ _).length : Int) ≤ _
        unfold tln
        rw [agn_length, List.length_append, hown, l4]
        omega
end
theorem t12_bs : xpb [([7, 8], 0, 0), ([], 2, 5)] 9 2 = ([7, 8, 7, 8, 7, 8, 7], 0, 0) := by decide +kernel
theorem t12_at (w : World) (g : Nat) (hg : Bs w (some ⟨g, 0, none⟩) 2 [7, 8]) :
    TksL (w.alloc (.cells #[.slice (some ⟨g, 0, none⟩) 2 2, .int .i64 0, .int .i64 0, .slice none 0 0, .int .i64 2, .int .i64 5] 34)) (some ⟨w.heap.size, 0, none⟩) 2 [([7, 8], 0, 0), ([], 2, 5)] := by
  have hX := Blk.new w #[.slice (some ⟨g, 0, none⟩) 2 2, .int .i64 0, .int .i64 0, .slice none 0 0, .int .i64 2, .int .i64 5] 34
  have hb2 := below_one w (.cells #[.slice (some ⟨g, 0, none⟩) 2 2, .int .i64 0, .int .i64 0, .slice none 0 0, .int .i64 2, .int .i64 5] 34)
  have hbs1 := hg.below hb2
  generalize w.alloc (.cells #[.slice (some ⟨g, 0, none⟩) 2 2, .int .i64 0, .int .i64 0, .slice none 0 0, .int .i64 2, .int .i64 5] 34) = w2 at *
  refine ⟨rfl, fun i hi => ?_⟩
  rcases (show i = 0 ∨ i = 1 by omega) with h | h
  · subst h
    exact ⟨w.heap.size, 0, some ⟨g, 0, none⟩, 2, 2, rfl, ⟨hX.cell 0 rfl, hX.cell 1 rfl, hX.cell 2 rfl, hbs1⟩, fun h => (by cases h), Nat.le_refl _⟩
  · subst h
    exact ⟨w.heap.size, 0, none, 0, 0, rfl, ⟨hX.cell 3 rfl, hX.cell 4 rfl, hX.cell 5 rfl, Bs.none _⟩, fun _ => rfl, Nat.le_refl _⟩
theorem t12_ok : ∀ t ∈ ([([7, 8], 0, 0), ([], 2, 5)] : List Tk), tkok t := by
  intro t ht
  simp only [List.mem_cons, List.not_mem_nil, or_false] at ht
  rcases ht with rfl | rfl
  · refine ⟨fun x hx => ?_, by decide, by decide⟩
    simp only [List.mem_cons, List.not_mem_nil, or_false] at hx
    omega
  · exact ⟨fun x hx => absurd hx (by simp), by decide, by decide⟩

set_option maxHeartbeats 1000000 in
theorem live12_any (w : World) : Calls Try.prog 8 #[] w (BPost (.bool true) w) := by
  have hbs : Bs (w.alloc (.cells #[.int .u8 7, .int .u8 8] 5)) (some ⟨w.heap.size, 0, none⟩) 2 [7, 8] := bs_new w [7, 8] 5
  have hb1 := below_one w (.cells #[.int .u8 7, .int .u8 8] 5)
  have hTk := t12_at _ _ hbs
  have hb2 := below_one (w.alloc (.cells #[.int .u8 7, .int .u8 8] 5)) (.cells #[.slice (some ⟨w.heap.size, 0, none⟩) 2 2, .int .i64 0, .int .i64 0, .slice none 0 0, .int .i64 2, .int .i64 5] 34)
  have hbd := hb1.trans (hb2.mono hb1.size)
  rw [show (w.alloc (.cells #[.int .u8 7, .int .u8 8] 5)).heap.size = w.heap.size + 1 by simp] at hTk
  clear hbs hb1 hb2
  have hc := etokens_any _ _ 2 _ 9 _ hTk t12_ok (by omega) (by omega)
  rw [t12_bs] at hc
  go_enter Try.func8, Try.ntmps8
  go_wp2_with fail
  refine hc.mono ?_
  rintro e w2 ⟨v, rfl, ho, hb3⟩
  obtain ⟨Av, cv, rfl⟩ := ho.slice
  have hbs := ho.bs.2
  have hbF := below_one w2 (.cells #[.int .i64 0, .int .i64 0] 28)
  obtain ⟨x0, x1⟩ := (Blk.new w2 #[.int .i64 0, .int .i64 0] 28).c2
  have hbd2 := (hbd.trans (hb3.mono hbd.size))
  replace hbd2 := hbd2.trans (hbF.mono hbd2.size)
  replace hbs := hbs.below hbF
  clear hTk hbd hb3 ho hbF hc
  have hbS := below_one (w2.alloc (.cells #[.int .i64 0, .int .i64 0] 28)) (.cells #[.int .u8 7, .int .u8 8, .int .u8 7, .int .u8 8, .int .u8 7, .int .u8 8, .int .u8 7] 5)
  have hs2 := bs_new (w2.alloc (.cells #[.int .i64 0, .int .i64 0] 28)) [7, 8, 7, 8, 7, 8, 7] 5
  rw [show (w2.alloc (.cells #[.int .i64 0, .int .i64 0] 28)).heap.size = w2.heap.size + 1 by simp] at hs2
  have hs1 := hbs.below hbS
  go_wp2_with fail
  refine (same_any _ _ _ _ _ _ [7, 8, 7, 8, 7, 8, 7] _ hs1 hs2).mono ?_
  rintro e w8 ⟨rfl, rfl⟩
  go_wp2
  go_ret
  exact ⟨rfl, hbd2.trans (hbS.mono hbd2.size)⟩
end Go.Proofs.Ytklkflfdianbpaa.Cur
