/- As the seat's text, without what nothing here names. -/
import Derived.Test.YtmiimjgfainclaaGreatKndAw
import Derived.Deep.Cut
namespace Go.Proofs.YtmiimjgfainclaaGreat.Cur
open Go.RowKit Mem
set_option linter.unusedVariables false
set_option maxRecDepth 100000
def kdv : Array Value := #[Value.string ⟨#[114, 101, 97, 100]⟩, Value.int .i64 1, Value.int .i64 9, Value.string ⟨#[119, 114, 105, 116, 101]⟩, Value.int .i64 33, Value.int .i64 10, Value.string ⟨#[115, 101, 97, 108]⟩, Value.int .i64 0, Value.int .i64 11, Value.string ⟨#[116, 114, 105, 109]⟩, Value.int .i64 1, Value.int .i64 10, Value.string ⟨#[102, 105, 108, 108]⟩, Value.int .i64 1, Value.int .i64 10, Value.string ⟨#[116, 97, 107, 101]⟩, Value.int .i64 10, Value.int .i64 12, Value.string ⟨#[103, 101, 116]⟩, Value.int .i64 0, Value.int .i64 13, Value.string ⟨#[112, 117, 116]⟩, Value.int .i64 128, Value.int .i64 10, Value.string ⟨#[118, 97, 108, 117, 101]⟩, Value.int .i64 36, Value.int .i64 0, Value.string ⟨#[100, 111, 110, 101]⟩, Value.int .i64 0, Value.int .i64 0, Value.string ⟨#[115, 101, 97, 108, 101, 100]⟩, Value.int .i64 64, Value.int .i64 0, Value.string ⟨#[116, 97, 107, 101, 110]⟩, Value.int .i64 17, Value.int .i64 0, Value.string ⟨#[112, 114, 111, 106]⟩, Value.int .i64 128, Value.int .i64 0, Value.string ⟨#[102, 97, 105, 108, 101, 100]⟩, Value.int .i64 4, Value.int .i64 0]
theorem kdcell {k : Int} (h : 1 ≤ k ∧ k ≤ 14) {w : World} {b t : Nat} (hb : Blk w b kdv t) : w.cell? ⟨b, (k.toNat - 1) * 3, none⟩ = some (.string (kof k).1) ∧ w.cell? ⟨b, (k.toNat - 1) * 3 + 1, none⟩ = some (.int .i64 (kof k).2.1) ∧ w.cell? ⟨b, (k.toNat - 1) * 3 + 2, none⟩ = some (.int .i64 (kof k).2.2) := by
  rcases cases14 h.1 h.2 with rfl | rfl | rfl | rfl | rfl | rfl | rfl | rfl | rfl | rfl | rfl | rfl | rfl | rfl <;> exact ⟨hb.cell _ rfl, hb.cell _ rfl, hb.cell _ rfl⟩
set_option maxHeartbeats 4000000 in
theorem rkof_any (k : Int) (w : World) : Calls Tryz.prog 170 #[.int .i64 k] w (BPost (kagg k) w) := by
  unfold BPost
  go_enter Tryz.func170, Tryz.ntmps170
  go_upto_region 2 with (fail)
  rw [show (#[Value.string ⟨#[114, 101, 97, 100]⟩, Value.int .i64 1, Value.int .i64 9, Value.string ⟨#[119, 114, 105, 116, 101]⟩, Value.int .i64 33, Value.int .i64 10, Value.string ⟨#[115, 101, 97, 108]⟩, Value.int .i64 0, Value.int .i64 11, Value.string ⟨#[116, 114, 105, 109]⟩, Value.int .i64 1, Value.int .i64 10, Value.string ⟨#[102, 105, 108, 108]⟩, Value.int .i64 1, Value.int .i64 10, Value.string ⟨#[116, 97, 107, 101]⟩, Value.int .i64 10, Value.int .i64 12, Value.string ⟨#[103, 101, 116]⟩, Value.int .i64 0, Value.int .i64 13, Value.string ⟨#[112, 117, 116]⟩, Value.int .i64 128, Value.int .i64 10, Value.string ⟨#[118, 97, 108, 117, 101]⟩, Value.int .i64 36, Value.int .i64 0, Value.string ⟨#[100, 111, 110, 101]⟩, Value.int .i64 0, Value.int .i64 0, Value.string ⟨#[115, 101, 97, 108, 101, 100]⟩, Value.int .i64 64, Value.int .i64 0, Value.string ⟨#[116, 97, 107, 101, 110]⟩, Value.int .i64 17, Value.int .i64 0, Value.string ⟨#[112, 114, 111, 106]⟩, Value.int .i64 128, Value.int .i64 0, Value.string ⟨#[102, 97, 105, 108, 101, 100]⟩, Value.int .i64 4, Value.int .i64 0] : Array Value) = kdv from rfl]
  have hY := (Blk.new w #[.string ⟨#[]⟩, .int .i64 0, .int .i64 0] 180).alloc (.cells kdv 180)
  have hD := Blk.new (w.alloc (.cells #[.string ⟨#[]⟩, .int .i64 0, .int .i64 0] 180)) kdv 180
  rw [World.size_alloc] at hD
  have hb := below_two w (.cells #[.string ⟨#[]⟩, .int .i64 0, .int .i64 0] 180) (.cells kdv 180)
  generalize (w.alloc (.cells #[.string ⟨#[]⟩, .int .i64 0, .int .i64 0] 180)).alloc (.cells kdv 180) = w1 at *
  have HB := Lib.hid hb
  have HY := Lib.hid hY
  obtain ⟨c0, c1, c2⟩ := hY.c3
  have f0 := hY.free 0
  have f1 := hY.free 1
  have f2 := hY.free 2
  clear hb hY
  by_cases h1 : k < 1
  · have HK := Lib.hid (kof_out (k := k) (by omega))
    clear hD
    go_wp2
    unfold kagg
    rw [HK.out]
    have h9 := ((HY.out.set 0 (.string ⟨#[]⟩)).set 1 (.int .i64 0)).set 2 (.int .i64 0)
    obtain ⟨d0, d1, d2⟩ := Blk.c3 h9
    exact bodyPost_ret (v := .agg #[.string ⟨#[]⟩, .int .i64 0, .int .i64 0]) (by simp [results, Tryz.results170, go_sem, d0, d1, d2]) rfl ⟨rfl, ((HB.out.setCell (Nat.le_refl _) _).setCell (Nat.le_refl _) _).setCell (Nat.le_refl _) _⟩
  · by_cases h2 : 14 < k
    · have HK := Lib.hid (kof_out (k := k) (by omega))
      clear hD
      go_wp2
      unfold kagg
      rw [HK.out]
      have h9 := ((HY.out.set 0 (.string ⟨#[]⟩)).set 1 (.int .i64 0)).set 2 (.int .i64 0)
      obtain ⟨d0, d1, d2⟩ := Blk.c3 h9
      exact bodyPost_ret (v := .agg #[.string ⟨#[]⟩, .int .i64 0, .int .i64 0]) (by simp [results, Tryz.results170, go_sem, d0, d1, d2]) rfl ⟨rfl, ((HB.out.setCell (Nat.le_refl _) _).setCell (Nat.le_refl _) _).setCell (Nat.le_refl _) _⟩
    · obtain ⟨e0, e1, e2⟩ := kdcell (k := k) ⟨by omega, by omega⟩ hD
      have e4 : wrap64 (k - 1) = k - 1 := by unfold wrap64; omega
      have e5 : k - 1 < 14 := by omega
      have e6 : 0 ≤ k - 1 := by omega
      clear hD
      go_wp2
      unfold kagg
      have h9 := ((HY.out.set 0 (.string (kof k).1)).set 1 (.int .i64 (kof k).2.1)).set 2 (.int .i64 (kof k).2.2)
      obtain ⟨d0, d1, d2⟩ := Blk.c3 h9
      exact bodyPost_ret (v := .agg #[.string (kof k).1, .int .i64 (kof k).2.1, .int .i64 (kof k).2.2]) (by simp [results, Tryz.results170, go_sem, d0, d1, d2]) rfl ⟨rfl, ((HB.out.setCell (Nat.le_refl _) _).setCell (Nat.le_refl _) _).setCell (Nat.le_refl _) _⟩
theorem rkfield (a : ByteArray) (b c : Int) (w : World) : (Instr.field 180 (.agg #[.string a, .int .i64 b, .int .i64 c]) 0).run Tryz.prog w = .ok (.string a) w ∧ (Instr.field 180 (.agg #[.string a, .int .i64 b, .int .i64 c]) 1).run Tryz.prog w = .ok (.int .i64 b) w ∧ (Instr.field 180 (.agg #[.string a, .int .i64 b, .int .i64 c]) 2).run Tryz.prog w = .ok (.int .i64 c) w := by
  refine ⟨?_, ?_, ?_⟩ <;> kernel_rfl
end Go.Proofs.YtmiimjgfainclaaGreat.Cur
