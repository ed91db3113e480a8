/- Projections that grow: what the statement asks, plainly. -/
import Derived.Test.YtghlediibhnloaaPrjU
import Derived.Test.YtghlediibhnloaaStpT
namespace Go.Proofs.Ytghlediibhnloaa.Cur
open Go.RowKit Mem
set_option linter.unusedVariables false

theorem grw_cases (e : Int) (L : List Stp) (t : Int) (S : List (List Int)) :
    (grw e L t S = (0, (e + 1, grown L t S)) ∧ prok (e, L) = true ∧ (L.getD (L.length - 1) stp0).1 < t ∧ t < 4611686018427387904 ∧ prok (e + 1, grown L t S) = true) ∨ ((grw e L t S).1 ≠ 0 ∧ (grw e L t S).2 = prj0) := by
  by_cases h1 : prok (e, L) = true
  · by_cases h2 : t ≤ (L.getD (L.length - 1) stp0).1 ∨ 4611686018427387904 ≤ t
    · right; rw [grw_arg h1 h2]; exact ⟨by decide, rfl⟩
    · by_cases h3 : L.length = 64
      · right; rw [grw_long h1 h2 h3]; exact ⟨by decide, rfl⟩
      · rw [grw_end h1 h2 h3]
        by_cases h4 : nxk e = true
        · by_cases h5 : prok (e + 1, grown L t S) = true
          · left
            exact ⟨endv_ok h4 h5, h1, by omega, by omega, h5⟩
          · right; rw [endv_bad h4 (by simpa using h5)]; exact ⟨by decide, rfl⟩
        · right; rw [endv_no (by simpa using h4)]; exact ⟨by decide, rfl⟩
  · right; rw [grw_no (by simpa using h1)]; exact ⟨by decide, rfl⟩
/-- The stripes that were there begin as they did, and have the same sets. -/
theorem grown_at {L : List Stp} {t : Int} {S : List (List Int)} {i : Nat} (hi : i < L.length) : ∃ u, (grown L t S).getD i stp0 = ((L.getD i stp0).1, u, (L.getD i stp0).2.2) ∧ (i + 1 = L.length → u = t) := by
  unfold grown
  have e1 : ∀ (x : Stp) (j : Nat), (L.set j x ++ [(t, 4611686018427387904, S)]).getD i stp0 = if j = i then x else L.getD i stp0 := by
    intro x j
    rw [List.getD_eq_getElem?_getD, List.getElem?_append_left (by rw [List.length_set]; exact hi), List.getElem?_set]
    by_cases h : j = i
    · subst h; rw [if_pos rfl, if_pos hi, if_pos rfl]; rfl
    · rw [if_neg h, if_neg h, List.getD_eq_getElem?_getD]
  rw [e1]
  by_cases h : L.length - 1 = i
  · rw [if_pos h, h]; exact ⟨t, rfl, fun _ => rfl⟩
  · rw [if_neg h]; exact ⟨(L.getD i stp0).2.1, rfl, fun h2 => absurd h2 (by omega)⟩
theorem prok_at {e : Int} {L : List Stp} (h : prok (e, L) = true) {i : Nat} (hi : i < L.length) : stok (L.getD i stp0) = true := ((pch_iff L 0 4611686018427387904).1 (prok_parts h).2.2.2).1 i hi |>.2
/-- Both stripes deal out a position in the same way. -/
theorem deal_same {f t u x : Int} {S : List (List Int)} (h1 : stok (f, t, S) = true) (h2 : stok (f, u, S) = true) (hx : f ≤ x) (hxt : x < t) (hxu : x < u) :
    ∃ a b, dlv (f, t, S) x = .tuple #[.int .i64 a, .int .u64 b, .bool true] ∧ dlv (f, u, S) x = .tuple #[.int .i64 a, .int .u64 b, .bool true] :=
  ⟨_, _, dlv_yes ⟨h1, hx, hxt⟩, dlv_yes ⟨h2, hx, hxu⟩⟩
end Go.Proofs.Ytghlediibhnloaa.Cur
