/- The document's Nodes: how many unlike ones there are, and the greatest tail. -/
import Derived.Test.YtdljkpmjamegjaaSelK
import Derived.Test.YtdljkpmjamegjaaK1
namespace Go.Proofs.Ytdljkpmjamegjaa.Cur
open Go.RowKit Mem
set_option linter.unusedVariables false
set_option maxRecDepth 100000


/-- Is a seal one of an epoch's valid ones? -/
def vk (e : Int) (s : Sl3) : Bool := decide (s.1 = e) && slok s
theorem vl_mem {e : Int} {l : List Sl3} {s : Sl3} : s ∈ vl e l ↔ s ∈ l ∧ vk e s = true := by unfold vl vk; exact List.mem_filter
/-- Is no one of the first j valid ones of this node? -/
def Fr (e : Int) (l : List Sl3) (x : Int) (j : Nat) : Prop := ∀ i, i < j → ¬ (vk e (l.getD i (0, 0, 0)) = true ∧ (l.getD i (0, 0, 0)).2.1 = x)
theorem Fr.step {e : Int} {l : List Sl3} {x : Int} {j : Nat} {b b' : Bool} (h : b = true ↔ Fr e l x j) (hb : b' = (b && !(vk e (l.getD j (0, 0, 0)) && decide ((l.getD j (0, 0, 0)).2.1 = x)))) : b' = true ↔ Fr e l x (j + 1) := by
  rw [hb, Bool.and_eq_true, h]
  constructor
  · rintro ⟨h1, h2⟩ i hi
    rcases Nat.lt_or_ge i j with h3 | h3
    · exact h1 i h3
    · obtain rfl : i = j := by omega
      rintro ⟨h4, h5⟩
      rw [h4, decide_eq_true h5] at h2
      cases h2
  · intro h1
    refine ⟨fun i hi => h1 i (by omega), ?_⟩
    have := h1 j (by omega)
    cases hv : vk e (l.getD j (0, 0, 0))
    · rfl
    · rw [hv] at this
      rw [decide_eq_false (fun e2 => this ⟨rfl, e2⟩)]; rfl
/-- What is counted so far. -/
def Cn (e : Int) (l : List Sl3) (i : Nat) (D : List Int) : Prop := D.Nodup ∧ Nds (vl e (l.take i)) D
theorem Cn.zero (e : Int) (l : List Sl3) : Cn e l 0 [] := ⟨List.nodup_nil, fun x => ⟨fun h => by simp at h, fun ⟨s, h, _⟩ => by simp [vl] at h⟩⟩
theorem take_mem {l : List Sl3} {i : Nat} (hi : i ≤ l.length) {s : Sl3} : s ∈ l.take i ↔ ∃ j, j < i ∧ l.getD j (0, 0, 0) = s := by
  rw [List.mem_iff_getElem]
  constructor
  · rintro ⟨j, hj, e⟩
    rw [List.length_take] at hj
    refine ⟨j, by omega, ?_⟩
    rw [List.getD_eq_getElem?_getD, List.getElem?_eq_getElem (by omega)]
    rw [List.getElem_take] at e
    exact e
  · rintro ⟨j, hj, e⟩
    refine ⟨j, by rw [List.length_take]; omega, ?_⟩
    rw [List.getElem_take]
    rw [List.getD_eq_getElem?_getD, List.getElem?_eq_getElem (by omega)] at e
    exact e
theorem vl_snoc {e : Int} {l : List Sl3} {i : Nat} (hi : i < l.length) : vl e (l.take (i + 1)) = if vk e (l.getD i (0, 0, 0)) then vl e (l.take i) ++ [l.getD i (0, 0, 0)] else vl e (l.take i) := by
  by_cases h : vk e (l.getD i (0, 0, 0)) = true
  · rw [if_pos h]
    unfold vk at h
    rw [Bool.and_eq_true, decide_eq_true_eq] at h
    exact vl_yes hi h.1 h.2
  · rw [if_neg h]
    exact vl_no hi (fun hh => h (by unfold vk; rw [decide_eq_true hh.1, hh.2]; rfl))
theorem Cn.skip {e : Int} {l : List Sl3} {i : Nat} {D : List Int} (h : Cn e l i D) (hi : i < l.length) (hv : vk e (l.getD i (0, 0, 0)) = false) : Cn e l (i + 1) D := by
  unfold Cn
  rw [vl_snoc hi, if_neg (by rw [hv]; simp)]
  exact h
theorem Cn.fresh {e : Int} {l : List Sl3} {i : Nat} {D : List Int} (h : Cn e l i D) (hi : i < l.length) (hv : vk e (l.getD i (0, 0, 0)) = true) (hf : Fr e l (l.getD i (0, 0, 0)).2.1 i) : Cn e l (i + 1) (D ++ [(l.getD i (0, 0, 0)).2.1]) := by
  unfold Cn
  rw [vl_snoc hi, if_pos hv]
  refine ⟨?_, fun x => ?_⟩
  · rw [List.nodup_append]
    refine ⟨h.1, by simp, fun a ha b hb => ?_⟩
    rw [List.mem_singleton] at hb
    subst hb
    rintro rfl
    obtain ⟨s, hs, e1⟩ := (h.2 _).1 ha
    obtain ⟨hs1, hs2⟩ := vl_mem.1 hs
    obtain ⟨j, hj, e2⟩ := (take_mem (by omega)).1 hs1
    subst e2
    exact hf j hj ⟨hs2, e1⟩
  · rw [List.mem_append, List.mem_singleton, h.2 x]
    constructor
    · rintro (⟨s, hs, e1⟩ | e1)
      · exact ⟨s, List.mem_append_left _ hs, e1⟩
      · exact ⟨_, by simp, e1.symm⟩
    · rintro ⟨s, hs, e1⟩
      rcases List.mem_append.1 hs with hs | hs
      · exact .inl ⟨s, hs, e1⟩
      · rw [List.mem_singleton] at hs; subst hs; exact .inr e1.symm
theorem Cn.stale {e : Int} {l : List Sl3} {i : Nat} {D : List Int} (h : Cn e l i D) (hi : i < l.length) (hv : vk e (l.getD i (0, 0, 0)) = true) (hf : ¬ Fr e l (l.getD i (0, 0, 0)).2.1 i) : Cn e l (i + 1) D := by
  unfold Cn
  rw [vl_snoc hi, if_pos hv]
  refine ⟨h.1, fun x => ?_⟩
  rw [h.2 x]
  constructor
  · rintro ⟨s, hs, e1⟩
    exact ⟨s, List.mem_append_left _ hs, e1⟩
  · rintro ⟨s, hs, e1⟩
    rcases List.mem_append.1 hs with hs | hs
    · exact ⟨s, hs, e1⟩
    · rw [List.mem_singleton] at hs
      subst hs
      have : ∃ j, j < i ∧ vk e (l.getD j (0, 0, 0)) = true ∧ (l.getD j (0, 0, 0)).2.1 = (l.getD i (0, 0, 0)).2.1 := by
        refine Classical.byContradiction fun hn => hf fun j hj hh => hn ⟨j, hj, hh⟩
      obtain ⟨j, hj, h1, h2⟩ := this
      exact ⟨l.getD j (0, 0, 0), vl_mem.2 ⟨(take_mem (by omega)).2 ⟨j, hj, rfl⟩, h1⟩, by rw [h2]; exact e1⟩

def RNdPost (e0 : Int) (l : List Sl3) (w : World) (e : Ending) (w' : World) : Prop :=
  ∃ (D : List Int) (t : Int), e = .returned (.tuple #[.int .i64 D.length, .int .u64 t]) ∧ Below w.heap.size w w' ∧ D.Nodup ∧ Nds (vl e0 l) D ∧ Mx (vl e0 l) t ∧ D.length ≤ l.length
end Go.Proofs.Ytdljkpmjamegjaa.Cur
