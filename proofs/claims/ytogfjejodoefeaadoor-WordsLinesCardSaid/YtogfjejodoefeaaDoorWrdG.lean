/- strings.IndexRune over the sixteen signs: a rune that is no ASCII sign is not among them. -/
import Derived.Test.YtogfjejodoefeaaDoorWrdF
import Derived.Laws.Runes
import Derived.BigQuiet
import Derived.Shelf.Small.Utf8
import Derived.Shelf.Small.Strs
namespace Go.Proofs.YtogfjejodoefeaaDoor.Cur
open Go.RowKit Mem
set_option linter.unusedVariables false
set_option maxRecDepth 100000

theorem valid_any (r : Int) (w : World) : Calls Tryd.prog 35 #[.int .i32 r] w fun e w' => e = .returned (.bool (Lib.validRune r)) ∧ w' = w := Any.utf8_ValidRune { Tryd.lays152 with } r w
theorem ibyte_any (s : ByteArray) (c : Int) (w : World) : Calls Tryd.prog 34 #[.string s, .int .u8 c] w fun e w' => e = .returned (.int .i64 (Lib.indexByte s.data.toList c.toNat.toUInt8)) ∧ w' = w := Any.strings_IndexByte { Tryd.lays152 with } s c w
theorem dig_size : DIG.size = 16 := rfl
theorem dig_low : ∀ b ∈ DIG.data.toList, b.toNat < 128 := by decide

set_option maxHeartbeats 4000000 in
theorem idx_fffd (w : World) : Calls Tryd.prog 29 #[.string DIG, .int .i32 65533] w fun e w' => e = .returned (.int .i64 (-1)) ∧ Below w.heap.size w w' := by
  go_enter Tryd.func29, Tryd.ntmps29
  go_wp2
  go_loopw [4] (fun v4 wr => ∃ pos : Nat, wr = w.iter DIG pos ∧ v4 = .int .i64 0) (fun _ wr => 16 - wr.iterPos w.heap.size)
  case atStart => exact ⟨0, rfl, rfl⟩
  case round =>
    obtain ⟨pos, rfl, rfl⟩ := hrel
    by_cases hp : pos < 16
    · have hlow : (DIG[pos]'(by rw [dig_size]; exact hp)).toNat < 128 := dig_low _ (Array.getElem_mem_toList (xs := DIG.data) (by exact hp))
      have hnx : ∀ ty, (Instr.next (.pointer (some ⟨w.heap.size, 0, none⟩)) true ty).run Tryd.prog (w.iter DIG pos) = _ := fun ty => run_next_ascii w DIG pos ty (by rw [dig_size]; exact hp) hlow
      generalize (DIG[pos]'(by rw [dig_size]; exact hp)).toNat = c at *
      go_wp2
      go_roundw
      case rel => exact ⟨pos + 1, rfl, rfl⟩
      case measure => simp; omega
    · have hnx : ∀ ty, (Instr.next (.pointer (some ⟨w.heap.size, 0, none⟩)) true ty).run Tryd.prog (w.iter DIG pos) = _ := fun ty => run_next_end w DIG pos ty (by rw [dig_size]; exact hp)
      go_wp2
      go_ret
      exact ⟨rfl, below_iter w DIG pos⟩

set_option maxHeartbeats 4000000 in
theorem idx_bad (r : Int) (h0 : 128 ≤ r) (h1 : r ≤ 2147483647) (hr : r ≠ 65533) (hv : Lib.validRune r = false) (w : World) : Calls Tryd.prog 29 #[.string DIG, .int .i32 r] w fun e w' => e = .returned (.int .i64 (-1)) ∧ w' = w := by
  have HC := valid_any r w
  rw [hv] at HC
  have HC := Lib.hid HC
  clear hv
  go_enter Tryd.func29, Tryd.ntmps29
  go_wp2_with fail
  with_reducible refine HC.out.mono ?_
  rintro e w2 ⟨rfl, rfl⟩
  go_wp2
  go_ret
  exact ⟨rfl, rfl⟩

end Go.Proofs.YtogfjejodoefeaaDoor.Cur
