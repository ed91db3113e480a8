/- K20: EpoA EpoB EpoC -/
import Derived.Test.YtgdcbfekekefiaaK5
import Derived.IntWalk
/- Epochs, positions and tails: which numbers are some. By the program and by the document. -/
/- The epoch behind one. -/
/- Epochs, positions and tails written and read. -/
namespace Go.Proofs.Ytgdcbfekekefiaa.Cur
open Go.RowKit Mem
set_option linter.unusedVariables false

/-- Is a number an epoch, a position, a tail? -/
def epk (x : Int) : Bool := decide (1 ≤ x ∧ x ≤ 4611686018427387903)
def psk (x : Int) : Bool := decide (x ≤ 4611686018427387903)
def tlk (x : Int) : Bool := decide (x ≤ 4611686018427387904)
theorem epk_yes {x : Int} (h0 : 1 ≤ x) (h1 : x ≤ 4611686018427387903) : epk x = true := decide_eq_true ⟨h0, h1⟩
theorem epk_low {x : Int} (h0 : ¬ 1 ≤ x) : epk x = false := decide_eq_false fun h => h0 h.1
theorem epk_high {x : Int} (h0 : ¬ x ≤ 4611686018427387903) : epk x = false := decide_eq_false fun h => h0 h.2
theorem epk_bd {x : Int} (h : epk x = true) : 1 ≤ x ∧ x ≤ 4611686018427387903 := of_decide_eq_true h

theorem eright_any (x : Int) (w : World) : Calls Try.prog 61 #[.int .u64 x] w fun e w' => e = .returned (.bool (epk x)) ∧ w = w' := by
  by_cases h0 : 1 ≤ x
  · by_cases h1 : x ≤ 4611686018427387903
    · have hv := epk_yes h0 h1
      generalize epk x = v at hv
      go_enter Try.func61, Try.ntmps61
      go_wp2
      go_ret
      first | exact ⟨rfl, rfl⟩ | exact ⟨by rw [hv]; rfl, rfl⟩
    · have hv := epk_high h1
      generalize epk x = v at hv
      go_enter Try.func61, Try.ntmps61
      go_wp2
      go_ret
      first | exact ⟨rfl, rfl⟩ | exact ⟨by rw [hv]; rfl, rfl⟩
  · have hv := epk_low h0
    generalize epk x = v at hv
    go_enter Try.func61, Try.ntmps61
    go_wp2
    go_ret
    first | exact ⟨rfl, rfl⟩ | exact ⟨by rw [hv]; rfl, rfl⟩

theorem rright17_any (x : Int) (h : 0 ≤ x) (w : World) : Calls Try.prog 51 #[.int .u64 x] w fun e w' => e = .returned (.bool (epk x)) ∧ w = w' := by
  by_cases h0 : 0 < x
  · by_cases h1 : x ≤ 4611686018427387903
    · have hv := epk_yes h0 h1
      generalize epk x = v at hv
      go_enter Try.func51, Try.ntmps51
      go_wp2
      go_ret
      first | exact ⟨rfl, rfl⟩ | exact ⟨by rw [hv]; rfl, rfl⟩
    · have hv := epk_high h1
      generalize epk x = v at hv
      go_enter Try.func51, Try.ntmps51
      go_wp2
      go_ret
      first | exact ⟨rfl, rfl⟩ | exact ⟨by rw [hv]; rfl, rfl⟩
  · have hv := epk_low (x := x) (by omega)
    generalize epk x = v at hv
    go_enter Try.func51, Try.ntmps51
    go_wp2
    go_ret
    first | exact ⟨rfl, rfl⟩ | exact ⟨by rw [hv]; rfl, rfl⟩

theorem epos_any (x : Int) (w : World) : Calls Try.prog 83 #[.int .u64 x] w fun e w' => e = .returned (.bool (psk x)) ∧ w = w' := by
  have hv : psk x = decide (x < 4611686018427387904) := by unfold psk; congr 1; exact propext ⟨fun h => by omega, fun h => by omega⟩
  generalize psk x = v at hv
  go_enter Try.func83, Try.ntmps83
  go_wp2
  go_ret
  first | exact ⟨rfl, rfl⟩ | exact ⟨by rw [hv]; rfl, rfl⟩

theorem rpos17_any (x : Int) (w : World) : Calls Try.prog 67 #[.int .u64 x] w fun e w' => e = .returned (.bool (psk x)) ∧ w = w' := by
  have hv : psk x = decide (x ≤ 4611686018427387903) := rfl
  generalize psk x = v at hv
  go_enter Try.func67, Try.ntmps67
  go_wp2
  go_ret
  first | exact ⟨rfl, rfl⟩ | exact ⟨by rw [hv]; rfl, rfl⟩

/-- What a node in its own epoch answers. -/
def adm (own : Int) (sealed : Bool) (e : Int) : Int :=
  if epk own = false ∨ epk e = false then 3 else if e = own ∧ sealed = false then 0 else if own < e then 13 else 18


end Go.Proofs.Ytgdcbfekekefiaa.Cur

namespace Go.Proofs.Ytgdcbfekekefiaa.Cur
open Go.RowKit Mem
set_option linter.unusedVariables false

/-- Is there an epoch behind one? -/
def nxk (x : Int) : Bool := decide (1 ≤ x ∧ x < 4611686018427387903)
def nxv (x : Int) : Int := if nxk x then x + 1 else 0
/-- The greatest of the first k numbers, and are all of them epochs? -/
def latk (z : List Int) : Nat → Int
  | 0 => 0
  | k + 1 => max (latk z k) (z.getD k 0)
def allk (z : List Int) : Nat → Bool
  | 0 => true
  | k + 1 => allk z k && epk (z.getD k 0)
theorem latk_bd {z : List Int} (h : ∀ x ∈ z, 0 ≤ x ∧ x < 18446744073709551616) (k : Nat) : 0 ≤ latk z k ∧ latk z k < 18446744073709551616 := by
  induction k with
  | zero => exact ⟨Int.le_refl _, by show (0 : Int) < _; decide⟩
  | succ k ih =>
    have hx : 0 ≤ z.getD k 0 ∧ z.getD k 0 < 18446744073709551616 := by
      rcases Nat.lt_or_ge k z.length with h1 | h1
      · exact h _ (getD_mem h1)
      · rw [List.getD_eq_getElem?_getD, List.getElem?_eq_none h1]; exact ⟨Int.le_refl _, by decide⟩
    show 0 ≤ max (latk z k) (z.getD k 0) ∧ max (latk z k) (z.getD k 0) < _
    omega
theorem allk_not {z : List Int} {k j : Nat} (h : allk z k = false) (hk : k ≤ j) : allk z j = false := by
  induction j with
  | zero => obtain rfl : k = 0 := by omega
            exact h
  | succ j ih =>
    rcases Nat.lt_or_ge k (j + 1) with h1 | h1
    · show (allk z j && _) = false
      rw [ih (by omega)]; rfl
    · obtain rfl : k = j + 1 := by omega
      exact h

end Go.Proofs.Ytgdcbfekekefiaa.Cur

namespace Go.Proofs.Ytgdcbfekekefiaa.Cur
open Go.RowKit Mem
set_option linter.unusedVariables false

/-- A number that must be right. -/
def ve (ok : Int → Bool) (z : List Int) (p : Int) : Rs Int := if (vg z p).2.2.1 ≠ 0 then (0, 0, (vg z p).2.2.1, (vg z p).2.2.2) else if ok (vg z p).1 then vg z p else (0, 0, 3, p)
theorem ve_st {ok : Int → Bool} {n : Nat} {z : List Int} {p c q v0 p' c0 q0 v c' q' : Int} (h : St 0 n (vg z p) p c q v0 p' c0 q0)
    (hv : (ok v0 = false ∧ v = 0 ∧ FailSt c0 q0 3 p c' q') ∨ ((ok v0 = true ∨ c0 ≠ 0) ∧ v = v0 ∧ c' = c0 ∧ q' = q0)) : St 0 n (ve ok z p) p c q v p' c' q' := by
  obtain ⟨k0, k1, k⟩ := h
  refine ⟨k0, k1, ?_⟩
  rcases k with ⟨a0, rfl, rfl, rfl⟩ | ⟨a0, a1, rfl, rfl, rfl, rfl⟩ | ⟨a0, a1, rfl, rfl, rfl⟩
  · refine .inl ⟨a0, ?_⟩
    rcases hv with ⟨_, rfl, hf⟩ | ⟨_, rfl, rfl, rfl⟩
    · rcases hf with ⟨hf, _⟩ | ⟨_, rfl, rfl⟩
      · exact absurd hf a0
      · exact ⟨rfl, rfl, rfl⟩
    · exact ⟨rfl, rfl, rfl⟩
  · rcases hv with ⟨hm, rfl, hf⟩ | ⟨hm, rfl, rfl, rfl⟩
    · rcases hf with ⟨_, rfl, hq⟩ | ⟨hf, _⟩
      · refine .inr (.inr ⟨a0, ?_⟩)
        unfold ve
        rw [if_neg (by simp [a1]), if_neg (by simp [hm])]
        exact ⟨by show (3 : Int) ≠ 0; decide, rfl, rfl, hq⟩
      · exact absurd rfl hf
    · refine .inr (.inl ⟨a0, ?_⟩)
      unfold ve
      rw [if_neg (by simp [a1]), if_pos (hm.resolve_right (fun h => h rfl))]
      exact ⟨a1, rfl, rfl, rfl, rfl⟩
  · refine .inr (.inr ⟨a0, ?_⟩)
    unfold ve
    rw [if_pos a1]
    rcases hv with ⟨_, rfl, hf⟩ | ⟨_, rfl, rfl, rfl⟩
    · rcases hf with ⟨hf, _⟩ | ⟨_, rfl, rfl⟩
      · exact absurd hf a1
      · exact ⟨a1, rfl, rfl, rfl⟩
    · exact ⟨a1, rfl, rfl, rfl⟩
theorem ve_ok {ok : Int → Bool} {z : List Int} {p : Int} (h : (ve ok z p).2.2.1 = 0) : (vg z p).2.2.1 = 0 ∧ ok (vg z p).1 = true ∧ ve ok z p = vg z p := by
  unfold ve at h ⊢
  split at h
  · rename_i hg; exact absurd h hg
  · rename_i hg
    split at h
    · rename_i hm
      exact ⟨by simpa using hg, hm, by rw [if_neg hg, if_pos hm]⟩
    · exact absurd h (by show ¬ (3 : Int) = 0; decide)

/-- The document's reader of them, by kind. -/
def kok (k : Int) : Int → Bool := if k = 1 then epk else if k = 2 then psk else tlk
def REPost (ok : Int → Bool) (s : Value) (n : Nat) (z : List Int) (p c q : Int) (w : World) (e : Ending) (w' : World) : Prop :=
  ∃ v p' c' q', e = .returned (.tuple #[cv s p' c' q', .int .u64 v]) ∧ Below w.heap.size w w' ∧ St 0 n (ve ok z p) p c q v p' c' q'

end Go.Proofs.Ytgdcbfekekefiaa.Cur
