/- Rows put one behind the other into a writer: what is there, and which code. -/
import Derived.Test.YtkedmhopajpkhaaSpec
namespace Go.Proofs.Ytkedmhopajpkhaa.Cur
open Go.RowKit Mem
set_option linter.unusedVariables false

/-- What a writer has behind these rows, and its code. -/
def puts : List (List Int) → List Int → Int → Int → List Int × Int
  | [], z, _, c => (z, c)
  | y :: ys, z, M, c => puts ys (putZ z y M c) M (putC z y M c)
theorem puts_append (xs ys : List (List Int)) (z : List Int) (M c : Int) : puts (xs ++ ys) z M c = puts ys (puts xs z M c).1 M (puts xs z M c).2 := by
  induction xs generalizing z c with
  | nil => rfl
  | cons x xs ih => exact ih _ _
theorem puts_snoc (xs : List (List Int)) (y z : List Int) (M c : Int) : puts (xs ++ [y]) z M c = (putZ (puts xs z M c).1 y M (puts xs z M c).2, putC (puts xs z M c).1 y M (puts xs z M c).2) := by
  rw [puts_append]; rfl
theorem putZ_le (z y : List Int) (M c : Int) : (putZ z y M c).length ≤ z.length + y.length := by
  unfold putZ; split
  · rw [List.length_append]; exact Nat.le_refl _
  · omega
theorem puts_le (xs : List (List Int)) (z : List Int) (M c : Int) : (puts xs z M c).1.length ≤ z.length + xs.flatten.length := by
  induction xs generalizing z c with
  | nil => simp [puts]
  | cons x xs ih =>
    have h1 := ih (putZ z x M c) (putC z x M c)
    have h2 := putZ_le z x M c
    rw [List.flatten_cons, List.length_append]
    show (puts xs (putZ z x M c) M (putC z x M c)).1.length ≤ _
    omega
theorem putC_bad {z y : List Int} {M c : Int} (hc : c ≠ 0) : putZ z y M c = z ∧ putC z y M c = c := by
  unfold putZ putC fitsC
  rw [if_neg (fun h => hc h.1), if_neg (fun h => hc h.1)]
  exact ⟨rfl, rfl⟩
theorem puts_bad (xs : List (List Int)) {z : List Int} {M c : Int} (hc : c ≠ 0) : puts xs z M c = (z, c) := by
  induction xs with
  | nil => rfl
  | cons x xs ih =>
    obtain ⟨h1, h2⟩ := putC_bad (z := z) (y := x) (M := M) hc
    show puts xs (putZ z x M c) M (putC z x M c) = _
    rw [h1, h2, ih]
theorem puts_fits {xs : List (List Int)} {z : List Int} {M : Int} (h : (z.length : Int) + xs.flatten.length ≤ M) : puts xs z M 0 = (z ++ xs.flatten, 0) := by
  induction xs generalizing z with
  | nil => simp [puts]
  | cons x xs ih =>
    rw [List.flatten_cons, List.length_append] at h
    have h1 : putZ z x M 0 = z ++ x := by unfold putZ; rw [if_pos ⟨rfl, by omega⟩]
    have h2 : putC z x M 0 = 0 := by unfold putC fitsC; rw [if_neg (by omega)]
    show puts xs (putZ z x M 0) M (putC z x M 0) = _
    rw [h1, h2, ih (by rw [List.length_append]; omega), List.flatten_cons, List.append_assoc]
theorem puts_long {xs : List (List Int)} {z : List Int} {M : Int} (h0 : (z.length : Int) ≤ M) (h : M < (z.length : Int) + xs.flatten.length) : (puts xs z M 0).2 = 2 := by
  induction xs generalizing z with
  | nil => simp at h; omega
  | cons x xs ih =>
    rw [List.flatten_cons, List.length_append] at h
    show (puts xs (putZ z x M 0) M (putC z x M 0)).2 = 2
    by_cases hx : (z.length : Int) + x.length ≤ M
    · have h1 : putZ z x M 0 = z ++ x := by unfold putZ; rw [if_pos ⟨rfl, by omega⟩]
      have h2 : putC z x M 0 = 0 := by unfold putC fitsC; rw [if_neg (by omega)]
      rw [h1, h2]
      exact ih (by rw [List.length_append]; omega) (by rw [List.length_append]; omega)
    · have h2 : putC z x M 0 = 2 := by unfold putC fitsC; rw [if_pos ⟨rfl, by omega⟩]
      rw [h2, puts_bad _ (by decide)]
/-- What a call leaves that puts these rows. -/
def WPutsPost (B b : Nat) (r : Option Nat) (z : List Int) (xs : List (List Int)) (M c : Int) (w : World) (e : Ending) (w' : World) : Prop :=
  ∃ r', e = .returned (.tuple #[]) ∧ Ks (WS b r) w w' ∧ Gr r r' w ∧ Wr w' B b r' (puts xs z M c).1 M (puts xs z M c).2
/-- A row that is none of the writer's stays so. -/
theorem off_gr {w : World} {b : Nat} {r r' : Option Nat} {n : Nat} {A : Option Addr} (hlt : 0 < n → ∀ a, A = some a → a.block < w.heap.size) (hoff : 0 < n → ∀ a, A = some a → ¬ WS b r a.block) (hg : Gr r r' w) : 0 < n → ∀ a, A = some a → ¬ WS b r' a.block := by
  intro h0 a ha
  have h1 := hlt h0 a ha
  have h2 := hoff h0 a ha
  rintro (e | e)
  · exact h2 (.inl e)
  · rcases hg with rfl | ⟨g, rfl, hg⟩
    · exact h2 (.inr e)
    · injection e with e; omega
end Go.Proofs.Ytkedmhopajpkhaa.Cur
