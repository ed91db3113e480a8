/- Rising lists (package zigzag): the plain mathematics; Rises, the program's and the document's; two lists of numbers are the same. -/
import Derived.Test.YtkedmhopajpkhaaZigA
import Derived.Test.YtkedmhopajpkhaaRw
import Derived.IntWalk
namespace Go.Proofs.Ytkedmhopajpkhaa.Cur
open Go.RowKit Mem
set_option linter.unusedVariables false

/-- A value; all that was there is as it was. -/
def BPost (v : Value) (w : World) (e : Ending) (w' : World) : Prop := e = .returned v ∧ Below w.heap.size w w'

def risesB : List Int → Bool
  | a :: b :: l => decide (a < b) && risesB (b :: l)
  | _ => true
theorem risesB_iff : ∀ z : List Int, risesB z = true ↔ ∀ i, i + 1 < z.length → z.getD i 0 < z.getD (i + 1) 0
  | [] => by simp [risesB]
  | [a] => by simp [risesB]
  | a :: b :: l => by
    rw [risesB, Bool.and_eq_true, risesB_iff (b :: l), decide_eq_true_eq]
    constructor
    · rintro ⟨h1, h2⟩ i hi
      cases i with
      | zero => simpa using h1
      | succ i => have := h2 i (by simp at hi ⊢; omega); simpa using this
    · intro h
      refine ⟨by simpa using h 0 (by simp), fun i hi => ?_⟩
      have := h (i + 1) (by simp at hi ⊢; omega)
      simpa using this
theorem rises_true {z : List Int} {n k : Nat} (hz : z.length = n) (h : ∀ j, j < k → z.getD j 0 < z.getD (j + 1) 0) (hk : n ≤ k + 1) : risesB z = true :=
  (risesB_iff z).2 fun i hi => h i (by omega)
theorem rises_false {z : List Int} {n k : Nat} (hz : z.length = n) (hk : k + 1 < n) (h : ¬ z.getD k 0 < z.getD (k + 1) 0) : risesB z = false := by
  cases e : risesB z with
  | false => rfl
  | true => exact absurd ((risesB_iff z).1 e k (by omega)) h

theorem getD_mem {z : List Int} {k : Nat} (h : k < z.length) : z.getD k 0 ∈ z := by
  rw [List.getD_eq_getElem?_getD, List.getElem?_eq_getElem h]; exact List.getElem_mem _
theorem Us.cells {w : World} {A : Option Addr} {n : Nat} {z : List Int} (h : Us w A n z) (hn : 0 < n) : ∃ g o, A = some ⟨g, o, none⟩ ∧ g < w.heap.size ∧ ∀ w', Below w.heap.size w w' → ∀ k, k < n → w'.cell? ⟨g, o + k, none⟩ = some (.int .u64 (z.getD k 0)) := by
  obtain ⟨g, o, e, h0⟩ := h.at_ hn
  refine ⟨g, o, e, lt_of_cell h0, fun w' hb k hk => ?_⟩
  obtain ⟨g', o', e', hc⟩ := (h.below hb).at_ hk
  rw [e] at e'
  injection e' with e'
  injection e' with e1 e2
  subst e1 e2
  exact hc

end Go.Proofs.Ytkedmhopajpkhaa.Cur
