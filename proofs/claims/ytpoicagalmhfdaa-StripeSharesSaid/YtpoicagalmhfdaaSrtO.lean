/- slices.Grow at numbers of 64 digits: an empty row with room. -/
import Derived.Test.YtpoicagalmhfdaaSrtM
import Derived.Lib.AppendZerosOnto
namespace Go.Proofs.Ytpoicagalmhfdaa.Cur
open Go.RowKit Mem
set_option linter.unusedVariables false
set_option maxRecDepth 100000

theorem sgrow_any (n : Nat) (h1 : 1 ≤ n) (hn : n ≤ 1000000) (w : World) : Calls Try.prog 72 #[.slice none 0 0, .int .i64 n] w (URowPost [] w) := by
  obtain ⟨i, hi, hz, hs, hb⟩ : ∃ i, Try.prog.info? 22 = some i ∧ i.zero = some (.int .u64 0) ∧ i.size = 1 ∧ i.bytes = 8 := by
    have h := kindU.info
    cases e : Try.prog.info? 22 with
    | none => rw [e] at h; cases h
    | some i => rw [e] at h; simp at h; exact ⟨i, rfl, h.1, h.2.1, h.2.2⟩
  obtain ⟨G, hG⟩ : ∃ G, G = grownCap w (0 + n) 0 22 := ⟨_, rfl⟩
  have hGn : n ≤ G := by have := grownCap_ge w (0 + n) 0 22; omega
  have hGm : G ≤ maxLen := by rw [hG]; exact grownCap_le_maxLen w (0 + n) 0 _ (by unfold maxLen; omega)
  obtain ⟨C, hC⟩ : ∃ C : Array Value, C = ([] : List Value).toArray ++ Builtin.zeroCells (Value.int .u64 0).cells n ++ Builtin.zeroCells (Value.int .u64 0).cells (G - (0 + n)) := ⟨_, rfl⟩
  have hCs : C.size = G * 1 := by
    rw [hC]
    simp [Builtin.zeroCells, Value.cells]
    omega
  have hrun : ∀ ty, (Builtin.append_ #[58, 3] ty #[.slice none 0 0, .int .i64 n]).run Try.prog w = .ok (.slice (some ⟨w.heap.size, 0, none⟩) n G) (w.drew.alloc (.cells C 22)) := fun ty => by
    have h := Lib.run_append_grow_zeros w 58 3 ty 22 i (.int .u64 0) .i64 .i64 kindU.und Try.underlying3 hi hz none 0 0 [] (run_firstCells_none _ _ _ _ _) n (by omega) (by omega) (by omega) (by omega) (by rw [hb]; omega) (growslice_fits (by omega) (by rw [hb]; omega))
    rw [← hG, ← hC, Nat.zero_add] at h
    exact h
  have hB : Below w.heap.size w (w.drew.alloc (.cells C 22)) := (below_one' w).trans (below_one w.drew _)
  have hO : OwnU (w.drew.alloc (.cells C 22)) w.heap.size (.slice (some ⟨w.heap.size, 0, none⟩) 0 G) [] :=
    ⟨rfl, .inr ⟨w.heap.size, G, C, rfl, Nat.le_refl _, heap_alloc_new w.drew _, Nat.zero_le _, hGm, hCs, by simp [uv]⟩⟩
  have HE := Lib.hid (And.intro hO hB)
  have e1 : IntKind.i64.wrap (n : Int) = (n : Int) := IntWalk.i64_in _ (by omega)
  have e2 : (0 : Int) < n := by omega
  have e3 : ¬ (n : Int) < 0 := by omega
  have e4 : (n : Int) ≤ G := by omega
  clear hO hB hi hz hs hb hG hC hCs hGn hGm
  go_enter Try.func72, Try.ntmps72
  go_wp2_with (at_builtin; refine Lib.wpList_append_run _ rfl _ _ _ _ rfl _ _ rfl rfl _ _ (hrun _) ?_)
  all_goals (go_ret; exact ⟨_, rfl, HE.out.1, HE.out.2⟩)
end Go.Proofs.Ytpoicagalmhfdaa.Cur
