/- Rows of bytes that came in, as a list. -/
import Derived.Test.YtepebneigehboaaK1
namespace Go.Proofs.Ytepebneigehboaa.Cur
open Go.RowKit Mem
set_option linter.unusedVariables false

def RowAt (w : World) (A : Option Addr) (i : Nat) (z : List Int) : Prop :=
  ∃ b o Ar Lr Cr, A = some ⟨b, o, none⟩ ∧ w.cell? ⟨b, o + i, none⟩ = some (.slice Ar Lr Cr) ∧ Bs w Ar Lr z ∧ (∀ x ∈ z, 0 ≤ x ∧ x < 256) ∧ (Ar = none → Cr = 0) ∧ Lr ≤ Cr
def RowsL (w : World) (A : Option Addr) (n : Nat) (R : List (List Int)) : Prop := R.length = n ∧ ∀ i, i < n → RowAt w A i (R.getD i [])
theorem RowsL.below {w w' : World} {A : Option Addr} {n : Nat} {R : List (List Int)} (h : RowsL w A n R) (hb : Below w.heap.size w w') : RowsL w' A n R :=
  ⟨h.1, fun i hi => by
    obtain ⟨b, o, Ar, Lr, Cr, e, h0, h1, r⟩ := h.2 i hi
    exact ⟨b, o, Ar, Lr, Cr, e, (hb.cell (lt_of_cell h0)).trans h0, h1.below hb, r⟩⟩
theorem rows_list {w : World} {A : Option Addr} {n : Nat} (h : IsRows w A n) : ∃ R, RowsL w A n R := by
  have h2 : ∀ i, i < n → ∃ z, RowAt w A i z := fun i hi => by
    obtain ⟨b, o, Ar, Lr, Cr, z, r⟩ := h i hi
    exact ⟨z, b, o, Ar, Lr, Cr, r⟩
  have h3 : ∀ k, k ≤ n → ∃ R : List (List Int), R.length = k ∧ ∀ i, i < k → RowAt w A i (R.getD i []) := by
    intro k
    induction k with
    | zero => exact fun _ => ⟨[], rfl, fun i hi => absurd hi (by omega)⟩
    | succ k ih =>
      intro hk
      obtain ⟨R, hl, hR⟩ := ih (by omega)
      obtain ⟨z, hz⟩ := h2 k (by omega)
      refine ⟨R ++ [z], by simp [hl], fun i hi => ?_⟩
      by_cases e : i = k
      · subst e
        have : (R ++ [z]).getD i [] = z := by rw [List.getD_eq_getElem?_getD, ← hl, List.getElem?_append_right (Nat.le_refl _)]; simp
        rw [this]; exact hz
      · have : (R ++ [z]).getD i [] = R.getD i [] := by rw [List.getD_eq_getElem?_getD, List.getElem?_append_left (by omega), ← List.getD_eq_getElem?_getD]
        rw [this]; exact hR i (by omega)
  exact h3 n (Nat.le_refl _)
/-- The first k rows, one behind the other. -/
def flat (R : List (List Int)) (k : Nat) : List Int := (R.take k).flatten
theorem flat_succ {R : List (List Int)} {k : Nat} (h : k < R.length) : flat R (k + 1) = flat R k ++ R.getD k [] := by
  unfold flat
  rw [List.take_succ_eq_append_getElem h, List.flatten_append]
  simp [List.getD_eq_getElem?_getD, List.getElem?_eq_getElem h]
end Go.Proofs.Ytepebneigehboaa.Cur
