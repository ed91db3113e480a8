/- Words for memory: a block whose cells are known. -/
import Derived.Test.YtkedmhopajpkhaaChecked
import Derived.WalkKit
import Derived.WalkSpells
import Derived.WalkLawsBesides
import Derived.OneCell
import Derived.Lib.Hide
import Derived.Deep.QuietTactic
import Derived.BigQuiet
import Derived.Deep.Draws
namespace Go.Proofs.Ytkedmhopajpkhaa.Mem
open Go.RowKit
set_option linter.unusedVariables false

/-- Block b has these cells. -/
def Blk (w : World) (b : Nat) (cs : Array Value) (t : Nat) : Prop := w.heap[b]? = some (.cells cs t (0, 0))

theorem Blk.new (w : World) (cs : Array Value) (t : Nat) : Blk (w.alloc (.cells cs t)) w.heap.size cs t := heap_alloc_new _ _
theorem Blk.lt {w : World} {b : Nat} {cs : Array Value} {t : Nat} (h : Blk w b cs t) : b < w.heap.size := lt_of_block h
theorem Blk.below {w w' : World} {b : Nat} {cs : Array Value} {t : Nat} (h : Blk w b cs t) (hb : Below w.heap.size w w') : Blk w' b cs t := (hb.block b h.lt).trans h
theorem Blk.drewN {w : World} {b : Nat} {cs : Array Value} {t : Nat} (h : Blk w b cs t) (k : Nat) : Blk (w.drewN k) b cs t := h
theorem Blk.drew {w : World} {b : Nat} {cs : Array Value} {t : Nat} (h : Blk w b cs t) : Blk w.drew b cs t := h
theorem Blk.alloc {w : World} {b : Nat} {cs : Array Value} {t : Nat} (h : Blk w b cs t) (o : Obj) : Blk (w.alloc o) b cs t := h.below ((Below.refl _ _).alloc (Nat.le_refl _) _)
theorem Blk.cell {w : World} {b : Nat} {cs : Array Value} {t : Nat} (h : Blk w b cs t) (i : Nat) {v : Value} (hi : cs[i]? = some v) : w.cell? ⟨b, i, none⟩ = some v := by
  unfold Blk at h
  simp [World.cell?, h, hi]
theorem Blk.free {w : World} {b : Nat} {cs : Array Value} {t : Nat} (h : Blk w b cs t) (o : Nat) : w.frozen? ⟨b, o, none⟩ = false := by
  unfold Blk at h
  simp [World.frozen?, h]
theorem Blk.set {w : World} {b : Nat} {cs : Array Value} {t : Nat} (h : Blk w b cs t) (i : Nat) (v : Value) : Blk (w.setCell ⟨b, i, none⟩ v) b (cs.setIfInBounds i v) t := by
  unfold Blk at h ⊢
  simp [World.setCell, Array.getElem?_modify, h]
theorem Blk.far {w : World} {b : Nat} {cs : Array Value} {t : Nat} (h : Blk w b cs t) {g : Nat} (i : Nat) (v : Value) (hg : b ≠ g) : Blk (w.setCell ⟨g, i, none⟩ v) b cs t :=
  (Below.heap_setCell w ⟨g, i, none⟩ v b hg).trans h
theorem Blk.c1 {w : World} {b : Nat} {v0 : Value} {t : Nat} (h : Blk w b #[v0] t) : w.cell? ⟨b, 0, none⟩ = some v0 := h.cell 0 rfl
theorem Blk.c2 {w : World} {b : Nat} {v0 v1 : Value} {t : Nat} (h : Blk w b #[v0, v1] t) : w.cell? ⟨b, 0, none⟩ = some v0 ∧ w.cell? ⟨b, 1, none⟩ = some v1 := ⟨h.cell 0 rfl, h.cell 1 rfl⟩
theorem Blk.c3 {w : World} {b : Nat} {v0 v1 v2 : Value} {t : Nat} (h : Blk w b #[v0, v1, v2] t) : w.cell? ⟨b, 0, none⟩ = some v0 ∧ w.cell? ⟨b, 1, none⟩ = some v1 ∧ w.cell? ⟨b, 2, none⟩ = some v2 := ⟨h.cell 0 rfl, h.cell 1 rfl, h.cell 2 rfl⟩
theorem Blk.c4 {w : World} {b : Nat} {v0 v1 v2 v3 : Value} {t : Nat} (h : Blk w b #[v0, v1, v2, v3] t) :
    w.cell? ⟨b, 0, none⟩ = some v0 ∧ w.cell? ⟨b, 1, none⟩ = some v1 ∧ w.cell? ⟨b, 2, none⟩ = some v2 ∧ w.cell? ⟨b, 3, none⟩ = some v3 := ⟨h.cell 0 rfl, h.cell 1 rfl, h.cell 2 rfl, h.cell 3 rfl⟩
theorem Blk.ne_of_cell {w : World} {b g o : Nat} {v0 v1 v2 v3 v : Value} {t : Nat} (h : Blk w b #[v0, v1, v2, v3] t) (hc : w.cell? ⟨g, o, none⟩ = some v) (h0 : v0 ≠ v) (h1 : v1 ≠ v) (h2 : v2 ≠ v) (h3 : v3 ≠ v) : g ≠ b := by
  rintro rfl
  unfold Blk at h
  simp only [World.cell?, h] at hc
  match o, hc with
  | 0, hc => exact h0 (by simpa using hc)
  | 1, hc => exact h1 (by simpa using hc)
  | 2, hc => exact h2 (by simpa using hc)
  | 3, hc => exact h3 (by simpa using hc)
  | o + 4, hc => simp at hc
theorem Blk.f2 {w : World} {b : Nat} {cs : Array Value} {t : Nat} (h : Blk w b cs t) : w.frozen? ⟨b, 0, none⟩ = false ∧ w.frozen? ⟨b, 1, none⟩ = false := ⟨h.free 0, h.free 1⟩
theorem Blk.f4 {w : World} {b : Nat} {cs : Array Value} {t : Nat} (h : Blk w b cs t) :
    w.frozen? ⟨b, 0, none⟩ = false ∧ w.frozen? ⟨b, 1, none⟩ = false ∧ w.frozen? ⟨b, 2, none⟩ = false ∧ w.frozen? ⟨b, 3, none⟩ = false := ⟨h.free 0, h.free 1, h.free 2, h.free 3⟩
/-- Facts of one or two new blocks in a later world. -/
theorem one_new {w w1 : World} {cs : Array Value} {t : Nat} (hb : Below (w.alloc (.cells cs t)).heap.size (w.alloc (.cells cs t)) w1) : Blk w1 w.heap.size cs t ∧ Below w.heap.size w w1 :=
  ⟨(Blk.new w cs t).below hb, (Below.refl _ _).alloc (Nat.le_refl _) _ |>.trans (hb.mono (by simp))⟩
theorem two_new {w w1 : World} {cs ds : Array Value} {t u : Nat} (hb : Below ((w.alloc (.cells cs t)).alloc (.cells ds u)).heap.size ((w.alloc (.cells cs t)).alloc (.cells ds u)) w1) :
    Blk w1 w.heap.size cs t ∧ Blk w1 (w.heap.size + 1) ds u ∧ Below w.heap.size w w1 := by
  refine ⟨((Blk.new w cs t).alloc _).below hb, ?_, ((Below.refl _ _).alloc (Nat.le_refl _) _).alloc (by simp) _ |>.trans (hb.mono (by simp; omega))⟩
  have := (Blk.new (w.alloc (.cells cs t)) ds u).below hb
  simpa using this
theorem three_new {w w1 : World} {cs ds es : Array Value} {t u r : Nat} (hb : Below (((w.alloc (.cells cs t)).alloc (.cells ds u)).alloc (.cells es r)).heap.size (((w.alloc (.cells cs t)).alloc (.cells ds u)).alloc (.cells es r)) w1) :
    Blk w1 w.heap.size cs t ∧ Blk w1 (w.heap.size + 1) ds u ∧ Blk w1 (w.heap.size + 1 + 1) es r ∧ Below w.heap.size w w1 := by
  have h1 := (((Blk.new w cs t).alloc (.cells ds u)).alloc (.cells es r)).below hb
  have h2 := ((Blk.new (w.alloc (.cells cs t)) ds u).alloc (.cells es r)).below hb
  have h3 := (Blk.new ((w.alloc (.cells cs t)).alloc (.cells ds u)) es r).below hb
  refine ⟨h1, by simpa using h2, by simpa using h3, (((Below.refl _ _).alloc (Nat.le_refl _) _).alloc (by simp) _).alloc (by simp; omega) _ |>.trans (hb.mono (by simp; omega))⟩
theorem below_three (w : World) (o o' o'' : Obj) : Below w.heap.size w (((w.alloc o).alloc o').alloc o'') := (((Below.refl _ _).alloc (Nat.le_refl _) _).alloc (by simp) _).alloc (by simp; omega) _
theorem below_two (w : World) (o o' : Obj) : Below w.heap.size w ((w.alloc o).alloc o') := ((Below.refl _ _).alloc (Nat.le_refl _) _).alloc (by simp) _
theorem below_one (w : World) (o : Obj) : Below w.heap.size w (w.alloc o) := (Below.refl _ _).alloc (Nat.le_refl _) _
theorem below_of_drew {w w' : World} (h : Below w.drew.heap.size w.drew w') : Below w.heap.size w w' := ⟨h.os, h.tape, h.output, h.size, h.block⟩
theorem below_of_drew_alloc {w w' : World} {o : Obj} (h : Below (w.alloc o).drew.heap.size (w.alloc o).drew w') : Below w.heap.size w w' :=
  (below_one w o).trans ((below_of_drew h).mono (by simp))
end Go.Proofs.Ytkedmhopajpkhaa.Mem
