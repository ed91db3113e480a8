/- A row of numbers of the call's own behind slices.SortFunc (one cell). -/
import Derived.Test.YtghlediibhnloaaK1
import Derived.Shelf.SlSortCmp.NoneTotal
namespace Go.Proofs.Ytghlediibhnloaa.Cur
open Go.RowKit Mem Go.Sort
set_option linter.unusedVariables false
set_option maxRecDepth 100000

abbrev eu (x : Int) : Value := .int .u64 x
theorem arr_getU (z : List Int) (i : Nat) : z.toArray[i]! = z.getD i 0 := by
  rw [List.getD_eq_getElem?_getD]
  simp [getElem!_def]
  cases z[i]? <;> rfl
theorem uv_at (z : List Int) (j : Nat) (hj : j < z.length) : (uv z)[j]? = some (eu (z.toArray[j]!)) := by
  rw [arr_getU, List.getElem?_map, List.getElem?_eq_getElem hj, List.getD_eq_getElem?_getD, List.getElem?_eq_getElem hj]; rfl
theorem holds_ownU {w : World} {B g c n : Nat} {z : List Int} (ho : w.ownsRow B 22 1 (.slice (some ⟨g, 0, none⟩) n c) z.length (uv z)) : Holds eu w g 0 z.toArray := by
  intro j hj
  have hj' : j < z.length := by simpa using hj
  have hc := World.ownsRow.cells ho (g := g) rfl j _ (uv_at z j hj')
  refine ⟨?_, ?_⟩
  · rw [← hc]
    congr 1
    unfold Addr.add
    by_cases h0 : j = 0 <;> simp [h0]
  · rcases ho.2 with ⟨e, _⟩ | ⟨g', cap, cur, e, _, hh, _⟩
    · cases e
    · injection e with e
      injection e with e
      injection e with e
      subst e
      exact Blk.free (cs := cur) (t := 22) hh _
theorem own_sortedU {w : World} {B g c n m : Nat} {z : List Int} (ho : w.ownsRow B 22 1 (.slice (some ⟨g, 0, none⟩) n c) z.length (uv z)) (z' : List Int) (hl : z'.length = z.length) (os : Array Obj) :
    OwnU (sortWorld eu w g 0 m z'.toArray os) B (.slice (some ⟨g, 0, none⟩) n c) z' := by
  have hH := holds_ownU ho
  rcases ho.2 with ⟨e, _⟩ | ⟨g', cap, cur, e, hB, hh, hcap, hmax, hsz, htk⟩
  · cases e
  · injection e with e e2 e3
    injection e with e
    injection e with e
    subst e e2 e3
    have hg : g < w.heap.size := lt_of_block hh
    have hW := holds_grow eu (putRow eu (Sort.ahead w m) g 0 z'.toArray) os g 0 z'.toArray (by unfold putRow mapBlock; simpa using hg) (holds_putRow eu (Sort.ahead w m) g 0 z.toArray z'.toArray hH (by simp [hl]))
    have hb : (sortWorld eu w g 0 m z'.toArray os).heap[g]? = some (.cells (putCells eu 0 z'.toArray cur) 22 (0, 0)) := by
      show ((w.heap.modify g (onCells (putCells eu 0 z'.toArray))) ++ os)[g]? = _
      rw [Array.getElem?_append_left (by simpa using hg), Array.getElem?_modify, if_pos rfl, hh]
      rfl
    refine ⟨by simp [uv], .inr ⟨g, c, putCells eu 0 z'.toArray cur, by rw [hl], hB, hb, by rw [hl]; exact hcap, hmax, by unfold putCells; rw [Array.size_mapIdx]; exact hsz, ?_⟩⟩
    apply List.ext_getElem?
    intro j
    by_cases hj : j < z'.length
    · rw [List.getElem?_take_of_lt (by omega), uv_at z' j hj, Array.getElem?_toList]
      have h1 := (hW j (by simpa using hj)).1
      have hjs : j < (putCells eu 0 z'.toArray cur).size := by
        unfold putCells; rw [Array.size_mapIdx, hsz]
        omega
      have h2 := Blk.cell (t := 22) hb j (Array.getElem?_eq_getElem hjs)
      rw [Nat.zero_add] at h1
      rw [Array.getElem?_eq_getElem hjs]
      rw [show sortWorld eu w g 0 m z'.toArray os = grow (putRow eu (Sort.ahead w m) g 0 z'.toArray) os from rfl] at h2
      rw [h1] at h2
      exact h2.symm
    · rw [List.getElem?_eq_none (by rw [List.length_take]; omega), List.getElem?_eq_none (by simp [uv]; omega)]
theorem ks_sortedU {w : World} {g m : Nat} {d : Array Int} {os : Array Obj} : Ks (fun k => k = g) w (sortWorld eu w g 0 m d os) := by
  refine ⟨rfl, rfl, rfl, ?_, fun k hk hne => ?_⟩
  · show w.heap.size ≤ ((w.heap.modify g (onCells (putCells eu 0 d))) ++ os).size
    rw [Array.size_append, Array.size_modify]
    omega
  · show ((w.heap.modify g (onCells (putCells eu 0 d))) ++ os)[k]? = _
    rw [Array.getElem?_append_left (by simpa using hk), Array.getElem?_modify, if_neg (fun h => hne h.symm)]
end Go.Proofs.Ytghlediibhnloaa.Cur
