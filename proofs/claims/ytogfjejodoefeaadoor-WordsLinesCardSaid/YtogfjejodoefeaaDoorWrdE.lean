/- Numbers read: ReadNum, whatever the text: it answers a number whose word the text is, or none. -/
import Derived.Test.YtogfjejodoefeaaDoorWrdD
namespace Go.Proofs.YtogfjejodoefeaaDoor.Cur
open Go.RowKit Mem
set_option linter.unusedVariables false
set_option maxRecDepth 100000

theorem width_pos (s : ByteArray) (pos : Nat) (h : pos < s.size) : 1 ≤ (Utf8.decode s pos).2 := by
  by_cases ha : (s[pos]'h).toNat < 128
  · rw [decode_ascii s pos h ha]
    exact Nat.le_refl _
  · exact (decode_high s pos h (by omega)).2
/-- The number behind a text, from a place on. -/
def rnx (s : ByteArray) : Nat → Nat → Int → Int
  | 0, _, x => x
  | b + 1, pos, x => if pos < s.size then rnx s b (pos + (Utf8.decode s pos).2) (IntKind.u64.wrap (IntKind.u64.wrap (10 * x) + IntKind.u64.wrap (wrap32 ((Utf8.decode s pos).1 - 48)))) else x
theorem rnx_step (s : ByteArray) (b pos : Nat) (x : Int) (h : pos < s.size) : rnx s (b + 1) pos x = rnx s b (pos + (Utf8.decode s pos).2) (IntKind.u64.wrap (IntKind.u64.wrap (10 * x) + IntKind.u64.wrap (wrap32 ((Utf8.decode s pos).1 - 48)))) := by
  rw [rnx, if_pos h]
theorem text_ne {a b : ByteArray} (h : ¬ a = b) : (a.toList == b.toList) = false := by
  rw [beq_eq_false_iff_ne]
  intro e
  rw [ByteArray.toList_eq, ByteArray.toList_eq] at e
  exact h (ByteArray.ext (Array.toList_inj.1 e))
theorem rnx_end (s : ByteArray) (b pos : Nat) (x : Int) (h : ¬ pos < s.size) : rnx s b pos x = x := by
  cases b with
  | zero => rfl
  | succ b => simp [rnx, h]
theorem rnx_bd (s : ByteArray) : ∀ (b pos : Nat) (x : Int), 0 ≤ x → x < 18446744073709551616 → 0 ≤ rnx s b pos x ∧ rnx s b pos x < 18446744073709551616
  | 0, pos, x, h0, h1 => ⟨h0, h1⟩
  | b + 1, pos, x, h0, h1 => by
    unfold rnx
    split
    · refine rnx_bd s b _ _ ?_ ?_ <;> (rw [IntKind.wrap_u64]; omega)
    · exact ⟨h0, h1⟩
/-- What ReadNum answers. -/
def rnv (s : ByteArray) : Value := if su (Lib.decDigits (rnx s s.size 0 0).toNat) = s then .tuple #[.int .u64 (rnx s s.size 0 0), .bool true] else .tuple #[.int .u64 0, .bool false]

set_option maxHeartbeats 4000000 in
theorem readnum_any (s : ByteArray) (w : World) (hT : Tbs w) : Calls Tryd.prog 21 #[.string s] w fun e w' => e = .returned (rnv s) ∧ Below w.heap.size w w' := by
  have HT := Lib.hid hT
  clear hT
  go_enter Tryd.func21, Tryd.ntmps21
  go_wp2
  go_loopw [4] (fun v4 wr => ∃ (pos b : Nat) (x : Int), wr = w.iter s pos ∧ v4 = .int .u64 x ∧ Hid (rnx s b pos x = rnx s s.size 0 0 ∧ s.size ≤ pos + b ∧ 0 ≤ x ∧ x < 18446744073709551616)) (fun _ wr => s.size - wr.iterPos w.heap.size)
  case atStart => exact ⟨0, s.size, 0, rfl, rfl, Lib.hid ⟨rfl, by omega, by omega, by omega⟩⟩
  case round =>
    obtain ⟨pos, b, x, rfl, rfl, HX⟩ := hrel
    by_cases hp : pos < s.size
    · have hnx : ∀ ty, (Instr.next (.pointer (some ⟨w.heap.size, 0, none⟩)) true ty).run Tryd.prog (w.iter s pos) = _ := fun ty => run_next_any w s pos ty hp
      have hwd := width_pos s pos hp
      obtain ⟨b', hb'⟩ : ∃ b', b = b' + 1 := ⟨b - 1, by have := HX.out; omega⟩
      have HY : Hid (rnx s b' (pos + (Utf8.decode s pos).2) (IntKind.u64.wrap (IntKind.u64.wrap (10 * x) + IntKind.u64.wrap (wrap32 ((Utf8.decode s pos).1 - 48)))) = rnx s s.size 0 0 ∧ s.size ≤ pos + (Utf8.decode s pos).2 + b') := Lib.hid (by
        have h := HX.out
        rw [hb', rnx_step s b' pos x hp] at h
        exact ⟨h.1, by omega⟩)
      clear hb'
      generalize (Utf8.decode s pos).2 = wd at *
      generalize (Utf8.decode s pos).1 = rc at *
      go_wp2
      go_roundw
      case rel => exact ⟨pos + wd, b', _, by first | rfl | trivial, rfl, Lib.hid ⟨HY.out.1, HY.out.2, by rw [IntKind.wrap_u64]; omega, by rw [IntKind.wrap_u64]; omega⟩⟩
      case measure => simp; omega
    · have hnx : ∀ ty, (Instr.next (.pointer (some ⟨w.heap.size, 0, none⟩)) true ty).run Tryd.prog (w.iter s pos) = _ := fun ty => run_next_end w s pos ty hp
      have hx := HX.out
      rw [rnx_end s b pos x hp] at hx
      obtain ⟨hx0, _, hx1, hx2⟩ := hx
      have HV : Hid (rnv s = if su (Lib.decDigits x.toNat) = s then .tuple #[.int .u64 x, .bool true] else .tuple #[.int .u64 0, .bool false]) := Lib.hid (by unfold rnv; rw [← hx0])
      obtain ⟨u, rfl⟩ := Int.eq_ofNat_of_zero_le hx1
      rw [Int.toNat_natCast] at HV
      have hb := below_iter w s pos
      have hn : Calls Tryd.prog 15 #[.int .u64 (u : Int)] (w.iter s pos) fun e w' => e = .returned (.string (su (Lib.decDigits u))) ∧ Below (w.iter s pos).heap.size (w.iter s pos) w' := num_any u (w.iter s pos) (by omega) (HT.out.below hb)
      have HB := Lib.hid hb
      have HN := Lib.hid hn
      clear hb hn hx0 hx1 hx2 HX
      generalize su (Lib.decDigits u) = D at *
      go_wp2_with fail
      with_reducible refine HN.out.mono ?_
      rintro e w2 ⟨rfl, hb2⟩
      have HB2 := Lib.hid (HB.out.trans (hb2.mono HB.out.size))
      clear hb2 hnx
      by_cases hd : D = s
      · rw [if_pos hd] at HV
        subst hd
        go_wp2
        go_ret2
        exact ⟨by rw [HV.out]; rfl, HB2.out⟩
      · rw [if_neg hd] at HV
        have hdd := text_ne hd
        go_wp2
        go_ret2
        exact ⟨by rw [HV.out]; rfl, HB2.out⟩
end Go.Proofs.YtogfjejodoefeaaDoor.Cur
