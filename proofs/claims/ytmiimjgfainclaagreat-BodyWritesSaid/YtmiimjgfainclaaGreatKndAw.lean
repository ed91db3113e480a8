/- As the seat's text, without what nothing here names. -/
import Derived.Test.YtmiimjgfainclaaGreatK1w
import Derived.Great.BuildSlice
import Derived.Deep.WholeRow
import Derived.LoopTactic
namespace Go.Proofs.YtmiimjgfainclaaGreat.Cur
open Go.RowKit Mem
set_option linter.unusedVariables false
set_option linter.unusedSimpArgs false
set_option maxRecDepth 100000
def ktl : List (ByteArray × Int × Int) := [
  (⟨#[]⟩, 0, 0),
  (⟨#[114, 101, 97, 100]⟩, 1, 9),
  (⟨#[119, 114, 105, 116, 101]⟩, 33, 10),
  (⟨#[115, 101, 97, 108]⟩, 0, 11),
  (⟨#[116, 114, 105, 109]⟩, 1, 10),
  (⟨#[102, 105, 108, 108]⟩, 1, 10),
  (⟨#[116, 97, 107, 101]⟩, 10, 12),
  (⟨#[103, 101, 116]⟩, 0, 13),
  (⟨#[112, 117, 116]⟩, 128, 10),
  (⟨#[118, 97, 108, 117, 101]⟩, 36, 0),
  (⟨#[100, 111, 110, 101]⟩, 0, 0),
  (⟨#[115, 101, 97, 108, 101, 100]⟩, 64, 0),
  (⟨#[116, 97, 107, 101, 110]⟩, 17, 0),
  (⟨#[112, 114, 111, 106]⟩, 128, 0),
  (⟨#[102, 97, 105, 108, 101, 100]⟩, 4, 0)]
def kof (k : Int) : ByteArray × Int × Int := if 1 ≤ k ∧ k ≤ 14 then ktl.getD k.toNat (⟨#[]⟩, 0, 0) else (⟨#[]⟩, 0, 0)
def kagg (k : Int) : Value := .agg #[.string (kof k).1, .int .i64 (kof k).2.1, .int .i64 (kof k).2.2]
theorem cases14 {k : Int} (h0 : 1 ≤ k) (h1 : k ≤ 14) : k = 1 ∨ k = 2 ∨ k = 3 ∨ k = 4 ∨ k = 5 ∨ k = 6 ∨ k = 7 ∨ k = 8 ∨ k = 9 ∨ k = 10 ∨ k = 11 ∨ k = 12 ∨ k = 13 ∨ k = 14 := by omega
theorem kof_out {k : Int} (h : ¬ (1 ≤ k ∧ k ≤ 14)) : kof k = (⟨#[]⟩, 0, 0) := if_neg h
def kav : Array Value := #[.string ⟨#[]⟩, .int .i64 0, .int .i64 0, .string ⟨#[114, 101, 97, 100]⟩, .int .i64 1, .int .i64 9, .string ⟨#[119, 114, 105, 116, 101]⟩, .int .i64 33, .int .i64 10, .string ⟨#[115, 101, 97, 108]⟩, .int .i64 0, .int .i64 11, .string ⟨#[116, 114, 105, 109]⟩, .int .i64 1, .int .i64 10, .string ⟨#[102, 105, 108, 108]⟩, .int .i64 1, .int .i64 10, .string ⟨#[116, 97, 107, 101]⟩, .int .i64 10, .int .i64 12, .string ⟨#[103, 101, 116]⟩, .int .i64 0, .int .i64 13, .string ⟨#[112, 117, 116]⟩, .int .i64 128, .int .i64 10, .string ⟨#[118, 97, 108, 117, 101]⟩, .int .i64 36, .int .i64 0, .string ⟨#[100, 111, 110, 101]⟩, .int .i64 0, .int .i64 0, .string ⟨#[115, 101, 97, 108, 101, 100]⟩, .int .i64 64, .int .i64 0, .string ⟨#[116, 97, 107, 101, 110]⟩, .int .i64 17, .int .i64 0, .string ⟨#[112, 114, 111, 106]⟩, .int .i64 128, .int .i64 0, .string ⟨#[102, 97, 105, 108, 101, 100]⟩, .int .i64 4, .int .i64 0]
def kaz : Array Value := #[.string ⟨#[]⟩, .int .i64 0, .int .i64 0, .string ⟨#[]⟩, .int .i64 0, .int .i64 0, .string ⟨#[]⟩, .int .i64 0, .int .i64 0, .string ⟨#[]⟩, .int .i64 0, .int .i64 0, .string ⟨#[]⟩, .int .i64 0, .int .i64 0, .string ⟨#[]⟩, .int .i64 0, .int .i64 0, .string ⟨#[]⟩, .int .i64 0, .int .i64 0, .string ⟨#[]⟩, .int .i64 0, .int .i64 0, .string ⟨#[]⟩, .int .i64 0, .int .i64 0, .string ⟨#[]⟩, .int .i64 0, .int .i64 0, .string ⟨#[]⟩, .int .i64 0, .int .i64 0, .string ⟨#[]⟩, .int .i64 0, .int .i64 0, .string ⟨#[]⟩, .int .i64 0, .int .i64 0, .string ⟨#[]⟩, .int .i64 0, .int .i64 0, .string ⟨#[]⟩, .int .i64 0, .int .i64 0]
theorem ksize : (Tryz.prog.info? 207).map (·.size) = some 45 := by kernel_rfl
set_option maxHeartbeats 1000000 in
theorem ktable_any (w : World) : Calls Tryz.prog 199 #[] w fun e w' => e = .returned (.agg kav) ∧ Below w.heap.size w w' := by
  go_enter Tryz.func199, Tryz.ntmps199
  go_wp2_with (first
    | (refine wpList_buildTo rfl 207 _ rfl (some 15) rfl kav (by as_aux_lemma => kernel_rfl) ?_)
    | (refine wpList_store_rowTo rfl 207 (.tmp 0) (.tmp 15) rfl rfl w.heap.size kav rfl rfl 207 kaz (heap_alloc_new _ _) ksize rfl (by as_aux_lemma => kernel_rfl) ?_; rw [World.setRow_alloc_new]))
  refine bodyPost_ret (v := .agg kav) (results_cell_row Tryz.results199 _ _ w.heap.size 207 kav (0, 0) _ rfl (heap_alloc_new _ _) Tryz.underlying207 rfl ksize) rfl ⟨rfl, below_one _ _⟩
def kri (k : Int) : Bool := decide (1 ≤ k ∧ k ≤ 14)
theorem kright_any (k : Int) (w : World) : Calls Tryz.prog 59 #[.int .i64 k] w fun e w' => e = .returned (.bool (kri k)) ∧ w' = w := by
  by_cases h1 : 1 ≤ k
  · by_cases h2 : k ≤ 14
    · have e : kri k = true := decide_eq_true ⟨h1, h2⟩
      go_enter Tryz.func59, Tryz.ntmps59
      go_wp2
      go_ret
      simp [e]
    · have e : kri k = false := decide_eq_false fun h => h2 h.2
      go_enter Tryz.func59, Tryz.ntmps59
      go_wp2
      go_ret
      simp [e]
  · have e : kri k = false := decide_eq_false fun h => h1 h.1
    go_enter Tryz.func59, Tryz.ntmps59
    go_wp2
    go_ret
    simp [e]
theorem kfield (a : ByteArray) (b c : Int) (w : World) : (Instr.field 177 (.agg #[.string a, .int .i64 b, .int .i64 c]) 0).run Tryz.prog w = .ok (.string a) w ∧ (Instr.field 177 (.agg #[.string a, .int .i64 b, .int .i64 c]) 1).run Tryz.prog w = .ok (.int .i64 b) w ∧ (Instr.field 177 (.agg #[.string a, .int .i64 b, .int .i64 c]) 2).run Tryz.prog w = .ok (.int .i64 c) w := by
  refine ⟨?_, ?_, ?_⟩ <;> kernel_rfl
theorem kindex {k : Int} {w : World} (h : 1 ≤ k ∧ k ≤ 14) : (Instr.index 207 (.agg kav) (.int .i64 k)).run Tryz.prog w = .ok (kagg k) w := by
  rcases cases14 h.1 h.2 with rfl | rfl | rfl | rfl | rfl | rfl | rfl | rfl | rfl | rfl | rfl | rfl | rfl | rfl <;> kernel_rfl
set_option maxHeartbeats 4000000 in
theorem kof_any (k : Int) (w : World) : Calls Tryz.prog 169 #[.int .i64 k] w (BPost (kagg k) w) := by
  unfold BPost
  by_cases hk : 1 ≤ k ∧ k ≤ 14
  · have e : kri k = true := decide_eq_true hk
    have HK := Lib.hid hk
    clear hk
    go_enter Tryz.func169, Tryz.ntmps169
    go_wp2_with fail
    refine (kright_any k _).mono ?_
    rintro en w1 ⟨rfl, rfl⟩
    rw [e]
    go_wp2_with fail
    refine (ktable_any _).mono ?_
    rintro en w1 ⟨rfl, hb⟩
    go_wp2_with fail
    rw [kindex HK.out]
    have hY := (Blk.new w #[.string ⟨#[]⟩, .int .i64 0, .int .i64 0] 177).below hb
    have hb1 := (below_one w (.cells #[.string ⟨#[]⟩, .int .i64 0, .int .i64 0] 177)).trans (hb.mono (by simp))
    obtain ⟨c0, c1, c2⟩ := hY.c3
    have f0 := hY.free 0
    have f1 := hY.free 1
    have f2 := hY.free 2
    have HB := Lib.hid hb1
    have HY := Lib.hid hY
    clear hb hb1 hY
    unfold kagg
    go_wp2
    have h9 := ((HY.out.set 0 (.string (kof k).1)).set 1 (.int .i64 (kof k).2.1)).set 2 (.int .i64 (kof k).2.2)
    obtain ⟨d0, d1, d2⟩ := Blk.c3 h9
    exact bodyPost_ret (v := .agg #[.string (kof k).1, .int .i64 (kof k).2.1, .int .i64 (kof k).2.2]) (by simp [results, Tryz.results169, go_sem, d0, d1, d2]) rfl ⟨rfl, ((HB.out.setCell (Nat.le_refl _) _).setCell (Nat.le_refl _) _).setCell (Nat.le_refl _) _⟩
  · have e : kri k = false := decide_eq_false hk
    have HK := Lib.hid (kof_out hk)
    clear hk
    go_enter Tryz.func169, Tryz.ntmps169
    go_wp2_with fail
    refine (kright_any k _).mono ?_
    rintro en w1 ⟨rfl, rfl⟩
    rw [e]
    go_wp2
    unfold kagg
    rw [HK.out]
    obtain ⟨d0, d1, d2⟩ := (Blk.new w #[.string ⟨#[]⟩, .int .i64 0, .int .i64 0] 177).c3
    exact bodyPost_ret (v := .agg #[.string ⟨#[]⟩, .int .i64 0, .int .i64 0]) (by simp [results, Tryz.results169, go_sem, d0, d1, d2]) rfl ⟨rfl, below_one _ _⟩
end Go.Proofs.YtmiimjgfainclaaGreat.Cur
