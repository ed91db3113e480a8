/- Seals sorted by their nodes: slices.SortFunc at rows of the call's own. -/
import Derived.Test.YtdljkpmjamegjaaSelA
import Derived.Test.YtdljkpmjamegjaaSortLay
import Derived.Shelf.SlSortCmp.NoneTotal
namespace Go.Proofs.Ytdljkpmjamegjaa.Cur
open Go.RowKit Mem Go.Sort
set_option linter.unusedVariables false
set_option maxRecDepth 100000

theorem isnan_any (x : Int) (w : World) : Calls Try.prog 59 #[.int .u64 x] w fun e w' => e = .returned (.bool false) ∧ w = w' := by
  go_enter Try.func59, Try.ntmps59
  go_wp2
  go_ret
  exact ⟨rfl, rfl⟩
theorem compare_any (x y : Int) (w : World) : Calls Try.prog 46 #[.int .u64 x, .int .u64 y] w fun e w' => e = .returned (.int .i64 (Lib.compareInt x y)) ∧ w = w' := by
  by_cases h1 : x < y
  · have hv : Lib.compareInt x y = -1 := by unfold Lib.compareInt; simp [h1]
    generalize Lib.compareInt x y = v at hv
    go_enter Try.func46, Try.ntmps46
    go_wp2_with fail
    refine (isnan_any _ _).mono ?_
    rintro e w' ⟨rfl, rfl⟩
    go_wp2_with fail
    refine (isnan_any _ _).mono ?_
    rintro e w' ⟨rfl, rfl⟩
    go_wp2
    go_ret
    first | exact ⟨rfl, rfl⟩ | exact ⟨by rw [hv]; rfl, rfl⟩
  · by_cases h2 : y < x
    · have hv : Lib.compareInt x y = 1 := by unfold Lib.compareInt; simp [h1, h2]
      generalize Lib.compareInt x y = v at hv
      go_enter Try.func46, Try.ntmps46
      go_wp2_with fail
      refine (isnan_any _ _).mono ?_
      rintro e w' ⟨rfl, rfl⟩
      go_wp2_with fail
      refine (isnan_any _ _).mono ?_
      rintro e w' ⟨rfl, rfl⟩
      go_wp2
      go_ret
      first | exact ⟨rfl, rfl⟩ | exact ⟨by rw [hv]; rfl, rfl⟩
    · have hv : Lib.compareInt x y = 0 := by unfold Lib.compareInt; simp [h1, h2]
      generalize Lib.compareInt x y = v at hv
      go_enter Try.func46, Try.ntmps46
      go_wp2_with fail
      refine (isnan_any _ _).mono ?_
      rintro e w' ⟨rfl, rfl⟩
      go_wp2_with fail
      refine (isnan_any _ _).mono ?_
      rintro e w' ⟨rfl, rfl⟩
      go_wp2
      go_ret
      first | exact ⟨rfl, rfl⟩ | exact ⟨by rw [hv]; rfl, rfl⟩

/-- The order of the sort. -/
abbrev ncmp (x y : Sl3) : Int := Lib.compareInt x.2.1 y.2.1
theorem nlt (x y : Sl3) : ltOf ncmp x y = decide (x.2.1 < y.2.1) := by
  unfold ltOf ncmp Lib.compareInt
  by_cases h1 : x.2.1 < y.2.1
  · simp [h1]
  · by_cases h2 : y.2.1 < x.2.1 <;> simp [h1, h2]
theorem nswo : SWO (ltOf ncmp) where
  irrefl x := by rw [nlt]; simp
  trans x y z h1 h2 := by rw [nlt] at *; simp at *; omega
  ntrans x y z h1 h2 := by rw [nlt] at *; simp at *; omega
theorem nclos (x y : Sl3) (W : World) : Calls Try.prog 45 #[.agg (sfl x).toArray, .agg (sfl y).toArray] W fun e w' => e = .returned (.int .i64 (ncmp x y)) ∧ ∃ q os', w' = grow (W.drewN q) os' := by
  obtain ⟨x0, x1, x2⟩ := x
  obtain ⟨y0, y1, y2⟩ := y
  have hcon := fun W' => compare_any x1 y1 W'
  show Calls Try.prog 45 _ W fun e w' => e = .returned (.int .i64 (Lib.compareInt x1 y1)) ∧ _
  generalize Lib.compareInt x1 y1 = r at hcon ⊢
  have hX := (Blk.new W #[.int .u64 x0, .int .u64 x1, .int .u64 x2] 24).alloc (.cells #[.int .u64 y0, .int .u64 y1, .int .u64 y2] 24)
  have hY := Blk.new (W.alloc (.cells #[.int .u64 x0, .int .u64 x1, .int .u64 x2] 24)) #[.int .u64 y0, .int .u64 y1, .int .u64 y2] 24
  rw [World.size_alloc] at hY
  obtain ⟨a0, a1, a2⟩ := hX.c3
  obtain ⟨b0, b1, b2⟩ := hY.c3
  clear hX hY
  unfold sfl
  go_enter Try.func45, Try.ntmps45
  go_wp2_with fail
  refine (hcon _).mono ?_
  rintro e w' ⟨rfl, rfl⟩
  go_wp2
  go_ret
  exact ⟨rfl, 0, _, by rw [alloc_eq_grow, alloc_eq_grow, grow_grow]; rfl⟩
theorem nlays (blk off size : Nat) (w : World) : CmpLays Try.prog 45 #[] sfl 3 ncmp blk off size w := fun _ _ _ _ x y => nclos x y _

/-- Rising by their nodes, equal ones let in. -/
def NSorted (l : List Sl3) : Prop := ∀ i j, i < j → j < l.length → (l.getD i (0, 0, 0)).2.1 ≤ (l.getD j (0, 0, 0)).2.1
theorem arr_get (l : List Sl3) (i : Nat) : l.toArray[i]! = l.getD i (0, 0, 0) := by
  rw [List.getD_eq_getElem?_getD]
  simp [getElem!_def]
  cases l[i]? <;> rfl
theorem svs_at (l : List Sl3) (j : Nat) (hj : j < l.length * 3) : (svs l)[j]? = some ((sfl (l.toArray[j / 3]!))[j % 3]!) := by
  rw [arr_get]
  obtain ⟨s0, s1, s2⟩ := svs_get l (j / 3) (by omega)
  have hm : j % 3 = 0 ∨ j % 3 = 1 ∨ j % 3 = 2 := by omega
  rcases hm with hm | hm | hm
  · rw [hm]; rw [show j / 3 * 3 = j by omega] at s0; exact s0
  · rw [hm]; rw [show j / 3 * 3 + 1 = j by omega] at s1; exact s1
  · rw [hm]; rw [show j / 3 * 3 + 2 = j by omega] at s2; exact s2
theorem holds_own {w : World} {B g c n : Nat} {l : List Sl3} (ho : w.ownsRow B 24 3 (.slice (some ⟨g, 0, none⟩) n c) l.length (svs l)) : HoldsK sfl 3 w g 0 l.toArray := by
  intro j hj
  have hj' : j < l.length * 3 := by rw [size_flatK] at hj; simpa using hj
  rw [get_flatK _ _ _ _ (by simpa using hj')]
  have hc := World.ownsRow.cells ho (g := g) rfl j _ (svs_at l j hj')
  refine ⟨?_, ?_⟩
  · show w.cell? ⟨g, 0 + j, none⟩ = some ((sfl (l.toArray[j / 3]!))[j % 3]!)
    rw [← hc]
    congr 1
    unfold Addr.add
    by_cases h0 : j = 0 <;> simp [h0]
  · rcases ho.2 with ⟨e, _⟩ | ⟨g', cap, cur, e, _, hh, _⟩
    · cases e
    · injection e with e
      injection e with e
      injection e with e
      subst e
      exact Blk.free (cs := cur) (t := 24) hh _
/-- A row of the call's own behind the sort. -/
theorem own_sorted {w : World} {B g c n m : Nat} {l : List Sl3} (ho : w.ownsRow B 24 3 (.slice (some ⟨g, 0, none⟩) n c) l.length (svs l)) (l' : List Sl3) (hl : l'.length = l.length) (os : Array Obj) :
    OwnL (sortWorldK sfl 3 w g 0 m l'.toArray os) B (.slice (some ⟨g, 0, none⟩) n c) l' := by
  have hH := holds_own ho
  rcases ho.2 with ⟨e, _⟩ | ⟨g', cap, cur, e, hB, hh, hcap, hmax, hsz, htk⟩
  · cases e
  · injection e with e e2 e3
    injection e with e
    injection e with e
    subst e e2 e3
    have hg : g < w.heap.size := lt_of_block hh
    have hW := holdsK_grow sfl 3 (putRowK sfl 3 (Sort.ahead w m) g 0 l'.toArray) os g 0 l'.toArray (by rw [size_putRowK]; exact hg) (holdsK_putRowK sfl 3 (Sort.ahead w m) g 0 l.toArray l'.toArray (holdsK_ahead sfl 3 w m g 0 l.toArray hH) (by simp [hl]))
    have hb : (sortWorldK sfl 3 w g 0 m l'.toArray os).heap[g]? = some (.cells (putCells id 0 (flatK sfl 3 l'.toArray) cur) 24 (0, 0)) := by
      show ((w.heap.modify g (onCells (putCells id 0 (flatK sfl 3 l'.toArray)))) ++ os)[g]? = _
      rw [Array.getElem?_append_left (by simpa using hg), Array.getElem?_modify, if_pos rfl, hh]
      rfl
    refine ⟨by rw [svs_len], .inr ⟨g, c, putCells id 0 (flatK sfl 3 l'.toArray) cur, by rw [hl], hB, hb, by rw [hl]; exact hcap, hmax, by unfold putCells; rw [Array.size_mapIdx]; exact hsz, ?_⟩⟩
    apply List.ext_getElem?
    intro j
    by_cases hj : j < l'.length * 3
    · rw [List.getElem?_take_of_lt hj, svs_at l' j hj, Array.getElem?_toList]
      have h1 := (hW j (by rw [size_flatK]; simpa using hj)).1
      rw [get_flatK _ _ _ _ (by simpa using hj)] at h1
      have hjs : j < (putCells id 0 (flatK sfl 3 l'.toArray) cur).size := by
        unfold putCells; rw [Array.size_mapIdx, hsz]
        have := Nat.mul_le_mul_right 3 hcap
        omega
      have h2 := Blk.cell (t := 24) hb j (Array.getElem?_eq_getElem hjs)
      rw [Nat.zero_add] at h1
      rw [Array.getElem?_eq_getElem hjs]
      rw [show sortWorldK sfl 3 w g 0 m l'.toArray os = grow (putRowK sfl 3 (Sort.ahead w m) g 0 l'.toArray) os from rfl] at h2
      rw [h1] at h2
      exact h2.symm
    · rw [List.getElem?_eq_none (by rw [List.length_take]; omega), List.getElem?_eq_none (by rw [svs_len]; omega)]
theorem ks_sorted {w : World} {g m : Nat} {d : Array Sl3} {os : Array Obj} : Ks (fun k => k = g) w (sortWorldK sfl 3 w g 0 m d os) := by
  refine ⟨rfl, rfl, rfl, ?_, fun k hk hne => ?_⟩
  · show w.heap.size ≤ ((w.heap.modify g (onCells (putCells id 0 (flatK sfl 3 d)))) ++ os).size
    rw [Array.size_append, Array.size_modify]
    omega
  · show ((w.heap.modify g (onCells (putCells id 0 (flatK sfl 3 d)))) ++ os)[k]? = _
    rw [Array.getElem?_append_left (by simpa using hk), Array.getElem?_modify, if_neg (fun h => hne h.symm)]

def SortPost (B : Nat) (v : Value) (l : List Sl3) (w : World) (e : Ending) (w' : World) : Prop :=
  e = .returned (.tuple #[]) ∧ ∃ l' : List Sl3, l'.Perm l ∧ NSorted l' ∧ OwnL w' B v l' ∧ Ks (fun k => v.ownBlock = some k) w w'
theorem sort_any {w : World} {B : Nat} {v : Value} {l : List Sl3} (ho : OwnL w B v l) (hn : l.length ≤ 1000000) :
    Calls Try.prog 44 #[v, .func (.func 45) #[] #[]] w (SortPost B v l w) := by
  have hcp := ho
  unfold OwnL at hcp
  rcases ho.2 with ⟨rfl, h0⟩ | ⟨g, c, cur, rfl, hB, hh, hcap, hmax, hsz, htk⟩
  · have hl : l = [] := List.eq_nil_of_length_eq_zero h0
    subst hl
    refine (AnyF.slices_SortFunc_none Try.sortSeal none 0 _ w).mono ?_
    rintro e w' ⟨rfl, rfl⟩
    exact ⟨rfl, [], .refl _, fun i j h1 h2 => absurd h2 (by simp), ho, Ks.refl _ _⟩
  · have eg : ∀ args w, (callFunc 45 args).run Try.prog w = .ok (.enter 45 args) w := enters_of Try.func45 (by kernel_rfl) rfl
    have hcon := AnyQ.slices_SortFunc Try.sortSeal 3 Try.isAgg24 Try.sizeOf24 sfl (fun _ => rfl) (fun x u hu => by simp [sfl] at hu; rcases hu with rfl | rfl | rfl <;> rfl) ncmp nswo 45 #[] g 0 c l.toArray w eg (nlays g 0 _ w) (holds_own hcp) (lt_of_block hh) (by simp; omega)
    change Calls Try.prog 44 #[.slice (some ⟨g, 0, none⟩) (l.toArray.size : Nat) c, _] w _ at hcon
    rw [List.size_toArray] at hcon
    refine hcon.mono ?_
    rintro e w' ⟨rfl, d', m, os, hp, hs, rfl⟩
    obtain ⟨p1, _, p2⟩ := hp
    have hlen : d'.toList.length = l.length := by simpa using p1
    have e1 : d'.extract 0 l.length = d' := by rw [show l.length = d'.size by simpa using hlen.symm]; exact Array.extract_size
    have e2 : l.toArray.extract 0 l.length = l.toArray := by have := Array.extract_size (xs := l.toArray); rw [List.size_toArray] at this; exact this
    rw [e1, e2] at p2
    refine ⟨rfl, d'.toList, p2, ?_, ?_, ?_⟩
    · intro i j hij hj
      have := hs i j (Nat.zero_le _) hij (by rw [hlen] at hj; simpa using hj)
      rw [nlt, decide_eq_false_iff_not] at this
      rw [← arr_get, ← arr_get, Array.toArray_toList]
      omega
    · have := own_sorted (m := m) hcp d'.toList hlen os
      rw [Array.toArray_toList] at this
      exact this
    · have := ks_sorted (w := w) (g := g) (m := m) (d := d') (os := os)
      exact ⟨this.os, this.tape, this.output, this.size, fun k hk hne => this.block k hk (fun e => hne (by subst e; rfl))⟩
end Go.Proofs.Ytdljkpmjamegjaa.Cur
