/- K28: SrtA SrtB SrtC SrtD SrtE SrtF -/
import Derived.Test.YthpgandifeiejaaK1
import Derived.Sort.Defs
import Derived.BigRegion
import Derived.BigQuiet
import Derived.Deep.QuietTactic
/- slices.Sort at numbers of 64 digits: a row of the call's own, two of its numbers exchanged, compared; reversed; the insertion sort. -/
/- slices.Sort at numbers of 64 digits: the insertion sort, the heap sort. -/
/- slices.Sort at numbers of 64 digits: the heap sort. -/
/- slices.Sort at numbers of 64 digits: the heap sort, whole. -/
/- slices.Sort at numbers of 64 digits: the choice of the pivot. -/
/- slices.Sort at numbers of 64 digits: the pivot. -/
namespace Go.Proofs.Ythpgandifeiejaa.Cur
open Go.RowKit Mem Go.Sort
set_option linter.unusedVariables false
set_option maxRecDepth 100000

/-- A row of the call's own, as an array. -/
def OwnA (w : World) (B g n cap : Nat) (d : Array Int) : Prop := d.size = n ∧ w.ownsRow B 22 1 (.slice (some ⟨g, 0, none⟩) n cap) n (uv d.toList)
theorem OwnA.cell {w : World} {B g n cap : Nat} {d : Array Int} (h : OwnA w B g n cap d) {i : Nat} (hi : i < n) : w.cell? ⟨g, i, none⟩ = some (.int .u64 d[i]!) := by
  have hd : i < d.size := by rw [h.1]; exact hi
  refine (World.ownsRow.cellAt h.2 i (by omega)).trans ?_
  rw [List.getElem?_map, Array.getElem?_toList, Array.getElem?_eq_getElem hd, getElem!_pos d i hd]; rfl
theorem OwnA.free {w : World} {B g n cap : Nat} {d : Array Int} (h : OwnA w B g n cap d) (i : Nat) : w.frozen? ⟨g, i, none⟩ = false := World.ownsRow.frozenAt h.2 i
theorem OwnA.keep {w w' : World} {B g n cap : Nat} {d : Array Int} (h : OwnA w B g n cap d) (hk : w'.heap[g]? = w.heap[g]?) : OwnA w' B g n cap d := ⟨h.1, own_block h.2 fun k hk' => by
  injection hk' with e
  have e2 : g = k := e
  subst e2
  exact hk⟩
theorem OwnA.drew {w : World} {B g n cap : Nat} {d : Array Int} (h : OwnA w B g n cap d) : OwnA w.drew B g n cap d := h
theorem OwnA.lt {w : World} {B g n cap : Nat} {d : Array Int} (h : OwnA w B g n cap d) : g < w.heap.size := (World.ownsRow.lt h.2 g rfl).2
theorem OwnA.below {w w' : World} {B g n cap : Nat} {d : Array Int} (h : OwnA w B g n cap d) (hb : Below w.heap.size w w') : OwnA w' B g n cap d := h.keep (hb.block g h.lt)
theorem swp_size (d : Array Int) (i j : Nat) : (swp d i j).size = d.size := by unfold swp; simp
theorem OwnA.swp {w : World} {B g n cap : Nat} {d : Array Int} (h : OwnA w B g n cap d) (i j : Nat) : OwnA ((w.setCell ⟨g, i, none⟩ (.int .u64 d[j]!)).setCell ⟨g, j, none⟩ (.int .u64 d[i]!)) B g n cap (Go.Sort.swp d i j) := by
  refine ⟨by rw [swp_size]; exact h.1, ?_⟩
  have h1 := (World.ownsRow.stored (World.ownsRow.stored h.2 i (.int .u64 d[j]!)).1 j (.int .u64 d[i]!)).1
  have e : uv (Go.Sort.swp d i j).toList = ((uv d.toList).set i (.int .u64 d[j]!)).set j (.int .u64 d[i]!) := by
    unfold Go.Sort.swp
    rw [Array.toList_setIfInBounds, Array.toList_setIfInBounds]
    show List.map _ _ = _
    rw [List.map_set, List.map_set]
  rw [e]
  exact h1
/-- What a part of the sort leaves: the row, changed so, and no other old block. -/
def SrP (B g n cap : Nat) (d : Array Int) (w : World) (e : Ending) (w' : World) : Prop := e = .returned (.tuple #[]) ∧ OwnA w' B g n cap d ∧ Ks (fun x => x = g) w w'
theorem Ks.two {w0 w : World} {g i j : Nat} {u v : Value} (h : Ks (fun x => x = g) w0 w) : Ks (fun x => x = g) w0 ((w.setCell ⟨g, i, none⟩ u).setCell ⟨g, j, none⟩ v) := (h.trans (Ks.setCell _ _ _ _ rfl)).trans (Ks.setCell _ _ _ _ rfl)

end Go.Proofs.Ythpgandifeiejaa.Cur

namespace Go.Proofs.Ythpgandifeiejaa.Cur
open Go.RowKit Mem Go.Sort
set_option linter.unusedVariables false
set_option maxRecDepth 100000


end Go.Proofs.Ythpgandifeiejaa.Cur

namespace Go.Proofs.Ythpgandifeiejaa.Cur
open Go.RowKit Mem Go.Sort
set_option linter.unusedVariables false
set_option maxRecDepth 100000


theorem sd_done {hi first r : Nat} {d : Array Int} (h : 2 * r + 1 ≥ hi) : siftDown ltInt hi first r d = d := by rw [siftDown, dif_pos h]
theorem sd_step {hi first r c : Nat} {d : Array Int} (h : 2 * r + 1 < hi) (hc : c = if 2 * r + 2 < hi ∧ ltInt d[first + (2 * r + 1)]! d[first + (2 * r + 1) + 1]! = true then 2 * r + 2 else 2 * r + 1) :
    siftDown ltInt hi first r d = if ltInt d[first + r]! d[first + c]! = true then siftDown ltInt hi first c (Go.Sort.swp d (first + r) (first + c)) else d := by
  subst hc
  rw [siftDown, dif_neg (by omega)]
  by_cases h2 : 2 * r + 2 < hi ∧ ltInt d[first + (2 * r + 1)]! d[first + (2 * r + 1) + 1]! = true
  · rw [if_pos (by simp only [Bool.and_eq_true, decide_eq_true_eq]; exact h2), if_pos h2]
    by_cases h3 : ltInt d[first + r]! d[first + (2 * r + 2)]! = true
    · rw [if_neg (by simp [h3]), dif_pos h2.1, if_pos h3]
    · rw [if_pos (by simpa using h3), if_neg h3]
  · rw [if_neg (by simp only [Bool.and_eq_true, decide_eq_true_eq]; exact h2), if_neg h2]
    by_cases h3 : ltInt d[first + r]! d[first + (2 * r + 1)]! = true
    · rw [if_neg (by simp [h3]), if_pos h3]
    · rw [if_pos (by simpa using h3), if_neg h3]
end Go.Proofs.Ythpgandifeiejaa.Cur

namespace Go.Proofs.Ythpgandifeiejaa.Cur
open Go.RowKit Mem Go.Sort
set_option linter.unusedVariables false
set_option maxRecDepth 100000


theorem SrP.get {B g n cap : Nat} {d : Array Int} {w w' : World} {e : Ending} (h : SrP B g n cap d w e w') : e = .returned (.tuple #[]) ∧ OwnA w' B g n cap d ∧ Ks (fun x => x = g) w w' := h
end Go.Proofs.Ythpgandifeiejaa.Cur

namespace Go.Proofs.Ythpgandifeiejaa.Cur
open Go.RowKit Mem Go.Sort
set_option linter.unusedVariables false
set_option maxRecDepth 100000


def SwS (B g n cap : Nat) (d : Array Int) (sb s : Nat) (w : World) : Prop := OwnA w B g n cap d ∧ Blk w sb #[.int .i64 (s : Int)] 3
theorem SwS.drew {B g n cap : Nat} {d : Array Int} {sb s : Nat} {w : World} (h : SwS B g n cap d sb s w) : SwS B g n cap d sb s w.drew := h
theorem OwnA.ne {w : World} {B g n cap : Nat} {d : Array Int} (h : OwnA w B g n cap d) {b : Nat} {c : Array Value} {t : Nat} (hb : Blk w b c t) (ht : t ≠ 22) : g ≠ b := fun e => by
  subst e
  rcases h.2.2 with ⟨e, _⟩ | ⟨g', _, cur, e, _, hh, _⟩
  · cases e
  · injection e with e
    injection e with e
    injection e with e
    subst e
    have h2 : some (Obj.cells cur 22 (0, 0)) = some (Obj.cells c t (0, 0)) := (show w.heap[g]? = _ from hh).symm.trans hb
    injection h2 with h2
    injection h2 with _ h2 _
    exact ht h2.symm
def O2P (B g n cap : Nat) (d : Array Int) (sb s : Nat) (v : Value) (w : World) (e : Ending) (w' : World) : Prop := e = .returned v ∧ SwS B g n cap d sb s w' ∧ Ks (fun x => x = sb) w w'
theorem order2_bd {d : Array Int} {a b s : Nat} {n : Nat} (ha : a < n) (hb : b < n) : (order2 ltInt d a b s).1 < n ∧ (order2 ltInt d a b s).2.1 < n ∧ (order2 ltInt d a b s).2.2 ≤ s + 1 := by
  unfold order2
  split
  · exact ⟨hb, ha, by simp⟩
  · exact ⟨ha, hb, by simp⟩
end Go.Proofs.Ythpgandifeiejaa.Cur

namespace Go.Proofs.Ythpgandifeiejaa.Cur
open Go.RowKit Mem Go.Sort
set_option linter.unusedVariables false
set_option maxRecDepth 100000


def hintv : Hint → Int
  | .unknown => 0
  | .increasing => 1
  | .decreasing => 2
def hints (s : Nat) : Hint := if s = 0 then .increasing else if s = 12 then .decreasing else .unknown
def CpvP (B g n cap : Nat) (d : Array Int) (r : Nat × Hint) (w : World) (e : Ending) (w' : World) : Prop := e = .returned (.tuple #[.int .i64 r.1, .int .i64 (hintv r.2)]) ∧ OwnA w' B g n cap d ∧ Below w.heap.size w w' ∧ r.1 < n
end Go.Proofs.Ythpgandifeiejaa.Cur
