/- A node in the place of another one: how far the document's loops have come. -/
import Derived.Test.YtghlediibhnloaaSwpJ
namespace Go.Proofs.Ytghlediibhnloaa.Cur
open Go.RowKit Mem
set_option linter.unusedVariables false

def swk (o d : Int) (S : List (List Int)) (k : Nat) : List (List Int) := S.mapIdx fun j l => if j < k then (if l.contains o then putl o d l else l) else l
theorem swk_len (o d : Int) (S : List (List Int)) (k : Nat) : (swk o d S k).length = S.length := by unfold swk; simp
theorem swk_at {o d : Int} {S : List (List Int)} {k j : Nat} (hj : j < S.length) : (swk o d S k).getD j [] = if j < k then (if (S.getD j []).contains o then putl o d (S.getD j []) else S.getD j []) else S.getD j [] := by
  unfold swk
  rw [List.getD_eq_getElem?_getD, List.getElem?_mapIdx, List.getD_eq_getElem?_getD, List.getElem?_eq_getElem hj]; rfl
theorem swk_zero (o d : Int) (S : List (List Int)) : swk o d S 0 = S := by
  unfold swk
  apply List.ext_getElem (by simp)
  intro i h1 h2
  simp
theorem swk_all (o d : Int) (S : List (List Int)) : swk o d S S.length = sws o d S := by
  unfold swk sws
  apply List.ext_getElem (by simp)
  intro i h1 h2
  have hi : i < S.length := by simpa using h1
  rw [List.getElem_mapIdx, List.getElem_map, if_pos hi]
theorem swk_no {o d : Int} {S : List (List Int)} {k : Nat} (h : (S.getD k []).contains o = false) : swk o d S (k + 1) = swk o d S k := by
  unfold swk
  apply List.ext_getElem (by simp)
  intro i h1 h2
  have hi : i < S.length := by simpa using h1
  rw [List.getElem_mapIdx, List.getElem_mapIdx]
  by_cases hik : i = k
  · subst hik
    rw [List.getD_eq_getElem?_getD, List.getElem?_eq_getElem hi, Option.getD_some] at h
    rw [if_pos (show i < i + 1 by omega), if_neg (show ¬ i < i by omega), if_neg (by rw [h]; decide)]
  · by_cases h3 : i < k
    · rw [if_pos (by omega), if_pos h3]
    · rw [if_neg (by omega), if_neg h3]
theorem swk_yes {o d : Int} {S : List (List Int)} {k : Nat} (hk : k < S.length) (h : (S.getD k []).contains o = true) : swk o d S (k + 1) = (swk o d S k).set k (putl o d (S.getD k [])) := by
  unfold swk
  apply List.ext_getElem (by simp)
  intro i h1 h2
  have hi : i < S.length := by simpa using h1
  rw [List.getElem_set, List.getElem_mapIdx, List.getElem_mapIdx]
  by_cases hik : k = i
  · subst hik
    rw [if_pos rfl]
    rw [List.getD_eq_getElem?_getD, List.getElem?_eq_getElem hi, Option.getD_some] at h ⊢
    rw [if_pos (by omega), if_pos h]
  · rw [if_neg hik]
    by_cases h3 : i < k
    · rw [if_pos (by omega), if_pos h3]
    · rw [if_neg (by omega), if_neg h3]
def lik (o d : Int) (L : List Stp) (i k : Nat) : List Stp := L.mapIdx fun j s => if j < i then swst o d s else if j = i then (s.1, s.2.1, swk o d s.2.2 k) else s
theorem lik_len (o d : Int) (L : List Stp) (i k : Nat) : (lik o d L i k).length = L.length := by unfold lik; simp
theorem lik_at {o d : Int} {L : List Stp} {i k : Nat} (hi : i < L.length) : (lik o d L i k).getD i stp0 = ((L.getD i stp0).1, (L.getD i stp0).2.1, swk o d (L.getD i stp0).2.2 k) := by
  unfold lik
  rw [List.getD_eq_getElem?_getD, List.getElem?_mapIdx, List.getD_eq_getElem?_getD, List.getElem?_eq_getElem hi]
  simp
theorem lik_zero (o d : Int) (L : List Stp) (i : Nat) : lik o d L i 0 = lk o d L i := by
  unfold lik lk
  apply List.ext_getElem (by simp)
  intro j h1 h2
  rw [List.getElem_mapIdx, List.getElem_mapIdx]
  by_cases h : j < i
  · rw [if_pos h, if_pos h]
  · rw [if_neg h, if_neg h]
    by_cases h3 : j = i
    · rw [if_pos h3, swk_zero]
    · rw [if_neg h3]
theorem lik_end {o d : Int} {L : List Stp} {i : Nat} (hi : i < L.length) : lik o d L i (L.getD i stp0).2.2.length = lk o d L (i + 1) := by
  obtain ⟨m, hm⟩ : ∃ m, m = (L.getD i stp0).2.2.length := ⟨_, rfl⟩
  rw [← hm]
  unfold lik lk
  apply List.ext_getElem (by simp)
  intro j h1 h2
  have hj : j < L.length := by simpa using h1
  rw [List.getElem_mapIdx, List.getElem_mapIdx]
  by_cases h : j < i
  · rw [if_pos h, if_pos (by omega)]
  · rw [if_neg h]
    by_cases h3 : j = i
    · subst h3
      have e : m = L[j].2.2.length := by rw [hm, List.getD_eq_getElem?_getD, List.getElem?_eq_getElem hj]; rfl
      have e2 : swk o d L[j].2.2 m = sws o d L[j].2.2 := by rw [e, swk_all]
      rw [if_pos rfl, if_pos (by omega), e2]; rfl
    · rw [if_neg h3, if_neg (by omega)]
theorem lik_slen (o d : Int) (L : List Stp) (i k : Nat) : slen (lik o d L i k) = slen L := by
  funext j
  show ((lik o d L i k).getD j stp0).2.2.length = (L.getD j stp0).2.2.length
  by_cases hj : j < L.length
  · unfold lik
    rw [List.getD_eq_getElem?_getD, List.getElem?_mapIdx, List.getD_eq_getElem?_getD, List.getElem?_eq_getElem hj]
    show (if j < i then swst o d L[j] else if j = i then (L[j].1, L[j].2.1, swk o d L[j].2.2 k) else L[j]).2.2.length = L[j].2.2.length
    by_cases h : j < i
    · rw [if_pos h]; show (sws o d L[j].2.2).length = _; rw [sws_len]
    · rw [if_neg h]
      by_cases h3 : j = i
      · rw [if_pos h3]; show (swk o d L[j].2.2 k).length = _; rw [swk_len]
      · rw [if_neg h3]
  · rw [List.getD_eq_getElem?_getD, List.getElem?_eq_none (by rw [lik_len]; omega), List.getD_eq_getElem?_getD, List.getElem?_eq_none (by omega)]
theorem lik_no {o d : Int} {L : List Stp} {i k : Nat} (h : ((L.getD i stp0).2.2.getD k []).contains o = false) : lik o d L i (k + 1) = lik o d L i k := by
  unfold lik
  apply List.ext_getElem (by simp)
  intro j h1 h2
  have hj : j < L.length := by simpa using h1
  rw [List.getElem_mapIdx, List.getElem_mapIdx]
  by_cases h3 : j = i
  · subst h3
    rw [List.getD_eq_getElem?_getD (l := L), List.getElem?_eq_getElem hj, Option.getD_some] at h
    rw [if_neg (show ¬ j < j by omega), if_pos rfl, if_neg (show ¬ j < j by omega), if_pos rfl, swk_no h]
  · by_cases h4 : j < i
    · rw [if_pos h4, if_pos h4]
    · rw [if_neg h4, if_neg h4, if_neg h3, if_neg h3]
theorem lik_yes {o d : Int} {L : List Stp} {i k : Nat} (hi : i < L.length) (hk : k < (L.getD i stp0).2.2.length) (h : ((L.getD i stp0).2.2.getD k []).contains o = true) :
    lik o d L i (k + 1) = (lik o d L i k).set i (((lik o d L i k).getD i stp0).1, ((lik o d L i k).getD i stp0).2.1, ((lik o d L i k).getD i stp0).2.2.set k (putl o d ((L.getD i stp0).2.2.getD k []))) := by
  rw [lik_at hi]
  dsimp only
  rw [← swk_yes hk h]
  unfold lik
  apply List.ext_getElem (by simp)
  intro j h1 h2
  have hj : j < L.length := by simpa using h1
  rw [List.getElem_set, List.getElem_mapIdx, List.getElem_mapIdx]
  by_cases h3 : i = j
  · subst h3
    rw [if_pos rfl, if_neg (by omega), if_pos rfl, List.getD_eq_getElem?_getD, List.getElem?_eq_getElem hj, Option.getD_some]
  · rw [if_neg h3]
    by_cases h4 : j < i
    · rw [if_pos h4, if_pos h4]
    · rw [if_neg h4, if_neg h4, if_neg (fun e => h3 e.symm), if_neg (fun e => h3 e.symm)]
/-- Is the node in what was gone through? -/
def hmet (o : Int) (L : List Stp) (i k : Nat) : Bool := ((L.take i).any fun s => s.2.2.any fun l => l.contains o) || (((L.getD i stp0).2.2.take k).any fun l => l.contains o)
theorem hmet_zero (o : Int) (L : List Stp) : hmet o L 0 0 = false := by unfold hmet; simp
theorem hmet_k {o : Int} {L : List Stp} {i k : Nat} (hk : k < (L.getD i stp0).2.2.length) : hmet o L i (k + 1) = (hmet o L i k || ((L.getD i stp0).2.2.getD k []).contains o) := by
  unfold hmet
  rw [← take_snoc (d := []) hk, List.any_append, Bool.or_assoc]
  simp
theorem hmet_i {o : Int} {L : List Stp} {i : Nat} (hi : i < L.length) : hmet o L (i + 1) 0 = hmet o L i (L.getD i stp0).2.2.length := by
  unfold hmet
  rw [← take_snoc (d := stp0) hi, List.any_append, List.take_length]
  simp
theorem hmet_all (o : Int) (L : List Stp) : hmet o L L.length 0 = hasv L o := by unfold hmet hasv; simp
theorem Apt.upd {n sz b' i k : Nat} {len a : Nat → Nat} {b : Nat → Nat → Nat} (h : Apt n len a b) (h1 : ∀ i k, i < n → k < len i → b i k < sz) (h2 : sz ≤ b') : Apt n len a (fun j => if j = i then (fun l => if l = k then b' else b i l) else b j) := by
  refine ⟨h.1, fun i1 k1 i2 k2 hi1 hi2 hk1 hk2 e => ?_⟩
  have key : ∀ j l, (fun j => if j = i then (fun l => if l = k then b' else b i l) else b j) j l = if j = i ∧ l = k then b' else b j l := by
    intro j l
    by_cases hj : j = i
    · subst hj
      by_cases hl : l = k
      · simp [hl]
      · simp [hl]
    · simp [hj]
  rw [key, key] at e
  by_cases c1 : i1 = i ∧ k1 = k
  · by_cases c2 : i2 = i ∧ k2 = k
    · exact ⟨by omega, by omega⟩
    · rw [if_pos c1, if_neg c2] at e
      have := h1 i2 k2 hi2 hk2; omega
  · by_cases c2 : i2 = i ∧ k2 = k
    · rw [if_neg c1, if_pos c2] at e
      have := h1 i1 k1 hi1 hk1; omega
    · rw [if_neg c1, if_neg c2] at e
      exact h.2 i1 k1 i2 k2 hi1 hi2 hk1 hk2 e
end Go.Proofs.Ytghlediibhnloaa.Cur
