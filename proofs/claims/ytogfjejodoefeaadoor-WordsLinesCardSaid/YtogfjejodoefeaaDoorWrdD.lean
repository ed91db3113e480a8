/- What the law's example asks: one text that is no word of bytes, one that is none of a list. -/
import Derived.Test.YtogfjejodoefeaaDoorWrdC
import Derived.Laws.RangeString
import Derived.Laws.RangeAny
import Derived.Lib.OthersKept
import Derived.LoopTactic
namespace Go.Proofs.YtogfjejodoefeaaDoor.Cur
open Go.RowKit Mem
set_option linter.unusedVariables false
set_option maxRecDepth 100000


set_option maxHeartbeats 4000000 in
theorem unhex3 (w : World) : Calls Tryd.prog 22 #[.string ⟨#[48, 65, 66]⟩] w fun e w' => e = .returned (.tuple #[.slice none 0 0, .bool false]) ∧ w = w' := by
  go_enter Tryd.func22, Tryd.ntmps22
  go_wp2
  go_ret2
  exact ⟨rfl, rfl⟩

theorem below_iter (w : World) (s : ByteArray) (p : Nat) : Below w.heap.size w (w.iter s p) := (Below.refl _ _).alloc (Nat.le_refl _) _
theorem below_iterAt {B : Nat} {a w : World} (h : Below B a w) {k : Nat} (hk : B ≤ k) (s : ByteArray) (p : Nat) : Below B a (Go.World.iterAt w k s p) :=
  ⟨h.os, h.tape, h.output, by show _ ≤ (w.heap.setIfInBounds k _).size; simp; exact h.size, fun i hi => by
    show (w.heap.setIfInBounds k _)[i]? = _
    rw [Array.getElem?_setIfInBounds_ne (by omega)]
    exact h.block i hi⟩

set_option maxHeartbeats 4000000 in
theorem readnum0 (w : World) (hT : Tbs w) : Calls Tryd.prog 21 #[.string ⟨#[]⟩] w fun e w' => e = .returned (.tuple #[.int .u64 0, .bool false]) ∧ Below w.heap.size w w' := by
  have hb := below_iter w ⟨#[]⟩ 0
  have hn := num_any 0 (w.iter ⟨#[]⟩ 0) (by omega) (hT.below hb)
  rw [show ((0 : Nat) : Int) = 0 from rfl] at hn
  have HN := Lib.hid hn
  clear hn
  have HB := Lib.hid hb
  clear hb
  go_enter Tryd.func21, Tryd.ntmps21
  go_wp2
  go_loopw [4] (fun v4 wr => v4 = .int .u64 0 ∧ wr = w.iter ⟨#[]⟩ 0) (fun _ _ => 0)
  case atStart => exact ⟨rfl, rfl⟩
  case round =>
    obtain ⟨rfl, rfl⟩ := hrel
    have hnx : ∀ ty, (Instr.next (.pointer (some ⟨w.heap.size, 0, none⟩)) true ty).run Tryd.prog (w.iter ⟨#[]⟩ 0) = _ := fun ty => run_next_end w ⟨#[]⟩ 0 ty (by decide)
    go_wp2_with fail
    with_reducible refine HN.out.mono ?_
    rintro e w2 ⟨rfl, hb2⟩
    have HB2 := Lib.hid (HB.out.trans (hb2.mono HB.out.size))
    have hd : (⟨(Lib.decDigits 0).toArray⟩ : ByteArray) = ⟨#[48]⟩ := by rw [dec_small (by omega)]; rfl
    rw [hd]
    clear hb2 hd hnx
    go_wp2
    go_ret2
    exact ⟨rfl, HB2.out⟩

set_option maxHeartbeats 4000000 in
theorem readnum1 (w : World) (hT : Tbs w) : Calls Tryd.prog 21 #[.string ⟨#[49]⟩] w fun e w' => e = .returned (.tuple #[.int .u64 1, .bool true]) ∧ Below w.heap.size w w' := by
  have hb := below_iter w ⟨#[49]⟩ 1
  have hn := num_any 1 (w.iter ⟨#[49]⟩ 1) (by omega) (hT.below hb)
  rw [show ((1 : Nat) : Int) = 1 from rfl] at hn
  have HN := Lib.hid hn
  clear hn
  have HB := Lib.hid hb
  clear hb
  go_enter Tryd.func21, Tryd.ntmps21
  go_wp2
  go_loopw [4] (fun v4 wr => (v4 = .int .u64 0 ∧ wr = w.iter ⟨#[49]⟩ 0) ∨ (v4 = .int .u64 1 ∧ wr = w.iter ⟨#[49]⟩ 1)) (fun _ wr => 1 - wr.iterPos w.heap.size)
  case atStart => exact .inl ⟨rfl, rfl⟩
  case round =>
    rcases hrel with ⟨rfl, rfl⟩ | ⟨rfl, rfl⟩
    · have hnx : ∀ ty, (Instr.next (.pointer (some ⟨w.heap.size, 0, none⟩)) true ty).run Tryd.prog (w.iter ⟨#[49]⟩ 0) = .ok (.tuple #[.bool true, .int .i64 0, .int .i32 49]) (w.iter ⟨#[49]⟩ 1) := fun ty => run_next_ascii w ⟨#[49]⟩ 0 ty (by decide) (by decide)
      go_wp2
      go_roundw
      case rel => first | exact .inr ⟨by rfl, rfl⟩ | exact .inr ⟨by rfl, trivial⟩
      case measure => simp
    · have hnx : ∀ ty, (Instr.next (.pointer (some ⟨w.heap.size, 0, none⟩)) true ty).run Tryd.prog (w.iter ⟨#[49]⟩ 1) = _ := fun ty => run_next_end w ⟨#[49]⟩ 1 ty (by decide)
      go_wp2_with fail
      with_reducible refine HN.out.mono ?_
      rintro e w2 ⟨rfl, hb2⟩
      have HB2 := Lib.hid (HB.out.trans (hb2.mono HB.out.size))
      have hd : (⟨(Lib.decDigits 1).toArray⟩ : ByteArray) = ⟨#[49]⟩ := by rw [dec_small (by omega)]; rfl
      rw [hd]
      clear hb2 hd hnx
      go_wp2
      go_ret2
      exact ⟨rfl, HB2.out⟩

theorem rw_newv (w : World) (xs : List Value) (t : Nat) : Rw (w.alloc (.cells xs.toArray t)) (some ⟨w.heap.size, 0, none⟩) xs := fun _ =>
  ⟨_, _, rfl, fun i v hi => by
    rw [Nat.zero_add]
    exact (Blk.new w xs.toArray t).cell i (by simpa using hi)⟩
def RLX : ByteArray := ⟨#[49, 44, 44, 50, 44]⟩
theorem kindV : Kind 35 33 (.int .u64 0) 1 8 := ⟨Tryd.underlying35, by kernel_rfl, rfl, by decide⟩
set_option maxHeartbeats 4000000 in
theorem readlist_live (w : World) (hT : Tbs w) : Calls Tryd.prog 23 #[.string ⟨#[49, 44, 44, 50]⟩] w fun e w' => e = .returned (.tuple #[.slice none 0 0, .bool false]) ∧ Below w.heap.size w w' := by
  have HT := Lib.hid hT
  clear hT
  have hcat : (⟨#[49, 44, 44, 50]⟩ : ByteArray) ++ ⟨#[44]⟩ = RLX := ba_append [49, 44, 44, 50] [44]
  have hm : ¬ 9223372036854775807 < (⟨#[49, 44, 44, 50]⟩ : ByteArray).size + (⟨#[44]⟩ : ByteArray).size := by decide
  go_enter Tryd.func23, Tryd.ntmps23
  go_wp2
  have HI : Hid ((w.iter RLX 0).heap[w.heap.size]? = some (.stringIter RLX 0)) := Lib.hid (heap_alloc_new _ _)
  have HBI := Lib.hid (below_iter w RLX 0)
  generalize w.iter RLX 0 = w0 at *
  obtain ⟨bk, hbk⟩ : ∃ bk, w.heap.size = bk := ⟨_, rfl⟩
  have HBK := Lib.hid hbk
  rw [hbk] at HI
  simp only [hbk]
  clear hbk hcat hm
  go_loopw [4, 5] (fun v4 v5 wr => ∃ p : Nat, wr.heap[bk]? = some (.stringIter RLX p) ∧ Below w.heap.size w wr ∧ ((p = 0 ∧ v4 = .slice none 0 0 ∧ v5 = .int .i64 0) ∨ (p = 1 ∧ v4 = .slice none 0 0 ∧ v5 = .int .i64 0) ∨ (p = 2 ∧ v5 = .int .i64 2))) (fun _ _ wr => 5 - wr.iterPos bk)
  case atStart => exact ⟨0, HI.out, HBI.out, .inl ⟨rfl, rfl, rfl⟩⟩
  case round =>
    obtain ⟨p, hi, hb, ⟨rfl, rfl, rfl⟩ | ⟨rfl, rfl, rfl⟩ | ⟨rfl, rfl⟩⟩ := hrel
    · have hnx : ∀ ty, (Instr.next (.pointer (some ⟨bk, 0, none⟩)) true ty).run Tryd.prog wr = .ok (.tuple #[.bool true, .int .i64 0, .int .i32 49]) (wr.iterAt bk RLX 1) := fun ty => Lib.run_next_ascii_at wr bk RLX 0 ty hi (by decide) (by decide)
      have H1 := Lib.hid (Lib.iterAt_heap wr bk RLX 0 1 hi)
      have H2 := Lib.hid (below_iterAt hb (k := bk) (by rw [HBK.out]; exact Nat.le_refl _) RLX 1)
      have H3 := Lib.hid hi
      clear hi hb
      go_wp2
      go_roundw
      case rel => exact ⟨1, H1.out, H2.out, .inr (.inl ⟨rfl, rfl, rfl⟩)⟩
      case measure => simp [World.iterPos, H1.out, H3.out]
    · have hnx : ∀ ty, (Instr.next (.pointer (some ⟨bk, 0, none⟩)) true ty).run Tryd.prog wr = .ok (.tuple #[.bool true, .int .i64 1, .int .i32 44]) (wr.iterAt bk RLX 2) := fun ty => Lib.run_next_ascii_at wr bk RLX 1 ty hi (by decide) (by decide)
      have H1 := Lib.hid (Lib.iterAt_heap wr bk RLX 1 2 hi)
      have hb2 := below_iterAt hb (k := bk) (by rw [HBK.out]; exact Nat.le_refl _) RLX 2
      have H2 := Lib.hid hb2
      have H3 := Lib.hid hi
      have hr := readnum1 (wr.iterAt bk RLX 2) (HT.out.below hb2)
      have hsl : ∀ w, (Instr.slice 9 (.string ⟨#[49, 44, 44, 50]⟩) (some (.int .i64 0)) (some (.int .i64 1)) none).run Tryd.prog w = .ok (.string ⟨#[49]⟩) w := fun w => by rw [run_slice_string_if w _ _ _ _ _ _ Tryd.underlying9]; rfl
      clear hi hb hb2
      go_wp2_with fail
      with_reducible refine hr.mono ?_
      rintro e w2 ⟨rfl, hb3⟩
      have H4 : Hid (w2.heap[bk]? = some (.stringIter RLX 2)) := Lib.hid ((hb3.block bk (Array.getElem?_eq_some_iff.1 H1.out).1).trans H1.out)
      have hbd := H2.out.trans (hb3.mono H2.out.size)
      have hA := below_one w2 (.cells #[.int .u64 1] 33)
      have hbA := hbd.trans (hA.mono hbd.size)
      have hrwA := rw_newv w2 [.int .u64 1] 33
      have hbs := hbA.size
      have hown : (w2.alloc (.cells #[.int .u64 1] 33)).ownsRow w.heap.size 33 1 (.slice none 0 0) 0 [] := ⟨rfl, .inl ⟨rfl, rfl⟩⟩
      have H5 : Hid ((w2.alloc (.cells #[.int .u64 1] 33)).heap[bk]? = some (.stringIter RLX 2)) := Lib.hid ((hA.block bk (Array.getElem?_eq_some_iff.1 H4.out).1).trans H4.out)
      have HBA := Lib.hid hbA
      clear hr hnx hb3 hbd hA hbA hsl
      go_wp2_with (at_builtin; go_must (refine list_append_rw kindV rfl (.tmp 31) (.tmp 33) rfl w.heap.size (.slice none 0 0) 0 [] rfl hown _ 1 _ [.int .u64 1] rfl rfl hrwA (by simp) (by simp [Value.oneCell']) (by omega) (by omega) hbs ?_; intro v' w10 ho' hg' hgr'; have hg2 : (w2.alloc (.cells #[.int .u64 1] 33)).grownBy w10 none := hg'; have hbl := (hg2.block bk (Array.getElem?_eq_some_iff.1 H5.out).1 (by simp)).trans H5.out; have H6 := Lib.hid hbl; have H7 := Lib.hid ((Ks.of_grown (S := fun _ => False) hg2 (fun k hk => (by cases hk))).below HBA.out (Nat.le_refl _) (fun k hk => hk.elim)); clear ho' hg' hg2 hgr' hbl hrwA hown hbs))
      go_roundw
      case rel => exact ⟨2, H6.out, H7.out, .inr (.inr ⟨rfl, rfl⟩)⟩
      case measure => simp [World.iterPos, H6.out, H3.out]
    · have hnx : ∀ ty, (Instr.next (.pointer (some ⟨bk, 0, none⟩)) true ty).run Tryd.prog wr = .ok (.tuple #[.bool true, .int .i64 2, .int .i32 44]) (wr.iterAt bk RLX 3) := fun ty => Lib.run_next_ascii_at wr bk RLX 2 ty hi (by decide) (by decide)
      have hb2 := below_iterAt hb (k := bk) (by rw [HBK.out]; exact Nat.le_refl _) RLX 3
      have H2 := Lib.hid hb2
      have hr := readnum0 (wr.iterAt bk RLX 3) (HT.out.below hb2)
      have hsl : ∀ w, (Instr.slice 9 (.string ⟨#[49, 44, 44, 50]⟩) (some (.int .i64 2)) (some (.int .i64 2)) none).run Tryd.prog w = .ok (.string ⟨#[]⟩) w := fun w => by rw [run_slice_string_if w _ _ _ _ _ _ Tryd.underlying9]; rfl
      clear hi hb hb2
      go_wp2_with fail
      with_reducible refine hr.mono ?_
      rintro e w2 ⟨rfl, hb3⟩
      have H8 := Lib.hid (H2.out.trans (hb3.mono H2.out.size))
      clear hr hnx hb3 hsl
      go_wp2
      go_ret2
      exact ⟨rfl, H8.out⟩

theorem live10_any (w : World) (hT : Tbs w) : Calls Tryd.prog 7 #[] w fun e w' => e = .returned (.bool true) ∧ Below w.heap.size w w' := by
  have hl := readlist_live w hT
  have HT := Lib.hid hT
  clear hT
  go_enter Tryd.func7, Tryd.ntmps7
  go_wp2_with fail
  refine (unhex3 _).mono ?_
  rintro e w' ⟨rfl, rfl⟩
  go_wp2_with fail
  refine hl.mono ?_
  rintro e w2 ⟨rfl, hb2⟩
  have hA := below_one w2 (.cells #[.int .u8 0, .int .u8 171] 5)
  have hbA := hb2.trans (hA.mono hb2.size)
  have hh := hex_any (some ⟨w2.heap.size, 0, none⟩) 2 2 [0, 171] (w2.alloc (.cells #[.int .u8 0, .int .u8 171] 5)) (Bs.of_block (z := [0, 171]) (heap_alloc_new _ _)) (by omega) (by intro x hx; simp at hx; rcases hx with rfl | rfl <;> omega)
  have he : hxw [0, 171] = ⟨#[48, 48, 97, 98]⟩ := by decide
  rw [he] at hh
  have HBA := Lib.hid hbA
  clear hl hb2 hA hbA he
  go_wp2_with fail
  refine hh.mono ?_
  rintro e w3 ⟨rfl, hb3⟩
  have HB3 := Lib.hid (HBA.out.trans (hb3.mono HBA.out.size))
  clear hb3 hh
  go_wp2
  go_ret
  exact ⟨rfl, HB3.out⟩
end Go.Proofs.YtogfjejodoefeaaDoor.Cur
