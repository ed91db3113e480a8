/- slices.Sort at numbers of 64 digits: a row of the call's own, two of its numbers exchanged, compared; reversed; the insertion sort. -/
import Derived.Test.YtpoicagalmhfdaaK1
import Derived.Sort.Defs
import Derived.BigRegion
import Derived.BigQuiet
import Derived.Deep.QuietTactic
namespace Go.Proofs.Ytpoicagalmhfdaa.Cur
open Go.RowKit Mem Go.Sort
set_option linter.unusedVariables false
set_option maxRecDepth 100000

theorem isnans_any (x : Int) (w : World) : Calls Try.prog 101 #[.int .u64 x] w fun e w' => e = .returned (.bool false) ∧ w = w' := by
  go_enter Try.func101, Try.ntmps101
  go_wp2
  go_ret
  exact ⟨rfl, rfl⟩
theorem lessu_any (x y : Int) (w : World) : Calls Try.prog 88 #[.int .u64 x, .int .u64 y] w fun e w' => e = .returned (.bool (ltInt x y)) ∧ w = w' := by
  unfold ltInt
  go_enter Try.func88, Try.ntmps88
  go_wp2_with fail
  refine (isnans_any _ _).mono ?_
  rintro e w' ⟨rfl, rfl⟩
  go_wp2
  go_ret
  exact ⟨rfl, rfl⟩

/-- A row of the call's own, as an array. -/
def OwnA (w : World) (B g n cap : Nat) (d : Array Int) : Prop := d.size = n ∧ w.ownsRow B 22 1 (.slice (some ⟨g, 0, none⟩) n cap) n (uv d.toList)
theorem OwnA.cell {w : World} {B g n cap : Nat} {d : Array Int} (h : OwnA w B g n cap d) {i : Nat} (hi : i < n) : w.cell? ⟨g, i, none⟩ = some (.int .u64 d[i]!) := by
  have hd : i < d.size := by rw [h.1]; exact hi
  refine (World.ownsRow.cellAt h.2 i (by omega)).trans ?_
  rw [List.getElem?_map, Array.getElem?_toList, Array.getElem?_eq_getElem hd, getElem!_pos d i hd]; rfl
theorem OwnA.free {w : World} {B g n cap : Nat} {d : Array Int} (h : OwnA w B g n cap d) (i : Nat) : w.frozen? ⟨g, i, none⟩ = false := World.ownsRow.frozenAt h.2 i
theorem OwnA.keep {w w' : World} {B g n cap : Nat} {d : Array Int} (h : OwnA w B g n cap d) (hk : w'.heap[g]? = w.heap[g]?) : OwnA w' B g n cap d := ⟨h.1, own_block h.2 fun k hk' => by
  injection hk' with e
  have e2 : g = k := e
  subst e2
  exact hk⟩
theorem OwnA.drew {w : World} {B g n cap : Nat} {d : Array Int} (h : OwnA w B g n cap d) : OwnA w.drew B g n cap d := h
theorem OwnA.lt {w : World} {B g n cap : Nat} {d : Array Int} (h : OwnA w B g n cap d) : g < w.heap.size := (World.ownsRow.lt h.2 g rfl).2
theorem OwnA.below {w w' : World} {B g n cap : Nat} {d : Array Int} (h : OwnA w B g n cap d) (hb : Below w.heap.size w w') : OwnA w' B g n cap d := h.keep (hb.block g h.lt)
theorem swp_size (d : Array Int) (i j : Nat) : (swp d i j).size = d.size := by unfold swp; simp
theorem OwnA.swp {w : World} {B g n cap : Nat} {d : Array Int} (h : OwnA w B g n cap d) (i j : Nat) : OwnA ((w.setCell ⟨g, i, none⟩ (.int .u64 d[j]!)).setCell ⟨g, j, none⟩ (.int .u64 d[i]!)) B g n cap (Go.Sort.swp d i j) := by
  refine ⟨by rw [swp_size]; exact h.1, ?_⟩
  have h1 := (World.ownsRow.stored (World.ownsRow.stored h.2 i (.int .u64 d[j]!)).1 j (.int .u64 d[i]!)).1
  have e : uv (Go.Sort.swp d i j).toList = ((uv d.toList).set i (.int .u64 d[j]!)).set j (.int .u64 d[i]!) := by
    unfold Go.Sort.swp
    rw [Array.toList_setIfInBounds, Array.toList_setIfInBounds]
    show List.map _ _ = _
    rw [List.map_set, List.map_set]
  rw [e]
  exact h1
/-- What a part of the sort leaves: the row, changed so, and no other old block. -/
def SrP (B g n cap : Nat) (d : Array Int) (w : World) (e : Ending) (w' : World) : Prop := e = .returned (.tuple #[]) ∧ OwnA w' B g n cap d ∧ Ks (fun x => x = g) w w'
theorem Ks.two {w0 w : World} {g i j : Nat} {u v : Value} (h : Ks (fun x => x = g) w0 w) : Ks (fun x => x = g) w0 ((w.setCell ⟨g, i, none⟩ u).setCell ⟨g, j, none⟩ v) := (h.trans (Ks.setCell _ _ _ _ rfl)).trans (Ks.setCell _ _ _ _ rfl)

set_option maxHeartbeats 2000000 in
theorem sreverse_any (B g n cap a b : Nat) (d : Array Int) (w : World) (h : OwnA w B g n cap d) (hn : n ≤ 1000) (hab : a < b) (hb : b ≤ n) :
    Calls Try.prog 86 #[.slice (some ⟨g, 0, none⟩) n cap, .int .i64 a, .int .i64 b] w (SrP B g n cap (reverseRange d a b) w) := by
  unfold reverseRange
  obtain ⟨F, hF⟩ : ∃ F, F = reverseLoop a (b - 1) d := ⟨_, rfl⟩
  rw [← hF]
  have H0 : Hid (OwnA w B g n cap d ∧ reverseLoop a (b - 1) d = F ∧ Ks (fun x => x = g) w w) := Lib.hid ⟨h, hF.symm, Ks.refl _ _⟩
  have e0 : IntKind.i64.wrap ((b : Int) - 1) = ((b - 1 : Nat) : Int) := by rw [IntWalk.i64_in _ (by omega)]; omega
  clear h hF
  go_enter Try.func86, Try.ntmps86
  go_wp2
  go_loopw [6, 7] (fun x y wr => ∃ (i j : Nat) (d : Array Int), i ≤ b ∧ j < b ∧ a ≤ i ∧ x = .int .i64 i ∧ y = .int .i64 j ∧ Hid (OwnA wr B g n cap d ∧ reverseLoop i j d = F ∧ Ks (fun x => x = g) w wr)) (fun x y _ => (intOf y).toNat + 1 - (intOf x).toNat)
  case atStart => exact ⟨a, b - 1, d, by omega, by omega, by omega, rfl, rfl, H0⟩
  case round =>
    clear H0
    obtain ⟨i, j, d, hib, hjb, hai, rfl, rfl, HR⟩ := hrel
    obtain ⟨ho, hF, hk⟩ := HR.out
    by_cases hij : i < j
    · have e1 : (i : Int) < j := by omega
      have c0 := ho.cell (i := i) (by omega)
      have c1 := ho.cell (i := j) (by omega)
      have f0 := ho.free i
      have f1 := ho.free j
      have b0 : (i : Int) < n := by omega
      have b1 : (j : Int) < n := by omega
      have e2 : IntKind.i64.wrap ((i : Int) + 1) = ((i + 1 : Nat) : Int) := IntWalk.i64_in _ (by omega)
      have e3 : IntKind.i64.wrap ((j : Int) - 1) = ((j - 1 : Nat) : Int) := by rw [IntWalk.i64_in _ (by omega)]; omega
      have HEND : Hid (OwnA (((wr.setCell ⟨g, i, none⟩ (.int .u64 d[j]!)).setCell ⟨g, j, none⟩ (.int .u64 d[i]!)).drew) B g n cap (Go.Sort.swp d i j) ∧ reverseLoop (i + 1) (j - 1) (Go.Sort.swp d i j) = F ∧ Ks (fun x => x = g) w (((wr.setCell ⟨g, i, none⟩ (.int .u64 d[j]!)).setCell ⟨g, j, none⟩ (.int .u64 d[i]!)).drew)) :=
        Lib.hid ⟨(ho.swp i j).drew, by rw [← hF]; conv => rhs; unfold reverseLoop; rw [if_pos hij], (Ks.two hk).trans (Ks.of_below (below_one' _))⟩
      obtain ⟨x, hx⟩ : ∃ x, x = d[i]! := ⟨_, rfl⟩
      obtain ⟨y, hy⟩ : ∃ y, y = d[j]! := ⟨_, rfl⟩
      rw [← hx, ← hy] at HEND
      rw [← hx] at c0
      rw [← hy] at c1
      clear hx hy ho hF hk HR
      go_wp2
      go_region
      go_wp2
      go_roundw
      case rel => exact ⟨i + 1, j - 1, _, by omega, by omega, by omega, by go_num, by go_num, HEND⟩
      case measure => simp [intOf]; omega
    · have HEND : Hid (OwnA wr B g n cap F ∧ Ks (fun x => x = g) w wr) := Lib.hid ⟨by rw [← hF]; unfold reverseLoop; rw [if_neg hij]; exact ho, hk⟩
      have e1 : ¬ (i : Int) < j := by omega
      clear ho hF hk HR
      go_wp2
      go_end0
      exact ⟨rfl, HEND.out.1, HEND.out.2⟩
end Go.Proofs.Ytpoicagalmhfdaa.Cur
