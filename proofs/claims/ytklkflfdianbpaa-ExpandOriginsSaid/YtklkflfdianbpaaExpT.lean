/- Plain facts on what tokens make, element by element: bytes, origins and depths. -/
import Derived.Test.YtklkflfdianbpaaExpS
import Derived.Test.YtklkflfdianbpaaExpF
namespace Go.Proofs.Ytklkflfdianbpaa.Cur
open Go.RowKit Mem
set_option linter.unusedVariables false

theorem chk_up {n : Nat} {o l before b b' : Int} (h : chk n o l before b ≠ 11) (hb : b ≤ b') : chk n o l before b' = chk n o l before b := by
  unfold chk at *
  split
  · rename_i h1
    rw [if_pos h1] at h
    split at h
    · exact absurd rfl h
    · rename_i h2
      rw [if_neg (by omega), if_neg h2]
  · rfl
section
variable {α β : Type} {own : Nat → List α} {d : α} {f : α → α} {own' : Nat → List β} {d' : β} {f' : β → β} {T : List Tk} {b b' : Int}
theorem xp_succ (k : Nat) : xp own d f T b (k + 1) = if (xp own d f T b k).2.1 ≠ 0 then xp own d f T b k else
      if chk (T.getD k tk0).1.length (T.getD k tk0).2.1 (T.getD k tk0).2.2 ((xp own d f T b k).1.length) b ≠ 0 then
        ([], chk (T.getD k tk0).1.length (T.getD k tk0).2.1 (T.getD k tk0).2.2 ((xp own d f T b k).1.length) b, k)
      else (agn d f ((xp own d f T b k).1 ++ own k) (T.getD k tk0).2.1 (T.getD k tk0).2.2.toNat, 0, 0) := rfl
theorem xp_twin (h : ∀ k, (own k).length = (own' k).length) (hb : b ≤ b') : ∀ k, (xp own d f T b k).2.1 ≠ 11 →
    (xp own' d' f' T b' k).2 = (xp own d f T b k).2 ∧ (xp own' d' f' T b' k).1.length = (xp own d f T b k).1.length
  | 0, _ => ⟨rfl, rfl⟩
  | k + 1, hk => by
    by_cases h0 : (xp own d f T b k).2.1 = 0
    · obtain ⟨h1, h2⟩ := xp_twin h hb k (by rw [h0]; decide)
      have h3 : (xp own' d' f' T b' k).2.1 = 0 := by rw [h1, h0]
      by_cases hc : chk (T.getD k tk0).1.length (T.getD k tk0).2.1 (T.getD k tk0).2.2 ((xp own d f T b k).1.length) b = 0
      · have hc' : chk (T.getD k tk0).1.length (T.getD k tk0).2.1 (T.getD k tk0).2.2 ((xp own' d' f' T b' k).1.length) b' = 0 := by
          rw [h2, chk_up (b := b) (b' := b') (by rw [hc]; decide) hb, hc]
        have e1 : xp own d f T b (k + 1) = (agn d f ((xp own d f T b k).1 ++ own k) (T.getD k tk0).2.1 (T.getD k tk0).2.2.toNat, 0, 0) := by
          rw [xp_succ, if_neg (by rw [h0]; simp), if_neg (by rw [hc]; simp)]
        have e2 : xp own' d' f' T b' (k + 1) = (agn d' f' ((xp own' d' f' T b' k).1 ++ own' k) (T.getD k tk0).2.1 (T.getD k tk0).2.2.toNat, 0, 0) := by
          rw [xp_succ, if_neg (by rw [h3]; simp), if_neg (by rw [hc']; simp)]
        rw [e1, e2]
        exact ⟨rfl, by simp only [agn_length, List.length_append, h2, h k]⟩
      · have e1 : xp own d f T b (k + 1) = ([], chk (T.getD k tk0).1.length (T.getD k tk0).2.1 (T.getD k tk0).2.2 ((xp own d f T b k).1.length) b, (k : Int)) := by
          rw [xp_succ, if_neg (by rw [h0]; simp), if_pos hc]
        rw [e1] at hk
        have hc' : chk (T.getD k tk0).1.length (T.getD k tk0).2.1 (T.getD k tk0).2.2 ((xp own' d' f' T b' k).1.length) b' = chk (T.getD k tk0).1.length (T.getD k tk0).2.1 (T.getD k tk0).2.2 ((xp own d f T b k).1.length) b := by
          rw [h2, chk_up (b := b) (b' := b') hk hb]
        have e2 : xp own' d' f' T b' (k + 1) = ([], chk (T.getD k tk0).1.length (T.getD k tk0).2.1 (T.getD k tk0).2.2 ((xp own d f T b k).1.length) b, (k : Int)) := by
          rw [xp_succ, if_neg (by rw [h3]; simp), hc', if_pos hc]
        rw [e1, e2]
        exact ⟨rfl, rfl⟩
    · have e1 : xp own d f T b (k + 1) = xp own d f T b k := by rw [xp_succ, if_pos h0]
      rw [e1] at hk
      obtain ⟨h1, h2⟩ := xp_twin h hb k hk
      have e2 : xp own' d' f' T b' (k + 1) = xp own' d' f' T b' k := by rw [xp_succ, if_pos (by rw [h1]; exact h0)]
      rw [e1, e2]
      exact ⟨h1, h2⟩
theorem xp_pre {k : Nat} (h : (xp own d f T b (k + 1)).2.1 = 0) : (xp own d f T b k).2.1 = 0 ∧ chk (T.getD k tk0).1.length (T.getD k tk0).2.1 (T.getD k tk0).2.2 ((xp own d f T b k).1.length) b = 0 ∧
    (xp own d f T b (k + 1)).1 = agn d f ((xp own d f T b k).1 ++ own k) (T.getD k tk0).2.1 (T.getD k tk0).2.2.toNat := by
  rw [xp_succ] at h
  rw [xp_succ]
  by_cases h0 : (xp own d f T b k).2.1 = 0
  · rw [if_neg (by rw [h0]; simp)] at h ⊢
    by_cases hc : chk (T.getD k tk0).1.length (T.getD k tk0).2.1 (T.getD k tk0).2.2 ((xp own d f T b k).1.length) b = 0
    · rw [if_neg (by rw [hc]; simp)]
      exact ⟨h0, hc, rfl⟩
    · rw [if_pos hc] at h
      exact absurd h hc
  · rw [if_pos h0] at h
    exact absurd h h0
theorem agn_old (z : List α) (o : Int) : ∀ k p, p < z.length → (agn d f z o k).getD p d = z.getD p d
  | 0, _, _ => rfl
  | k + 1, p, hp => by
    rw [agn, List.getD_eq_getElem?_getD, List.getElem?_append_left (by rw [agn_length]; omega), ← List.getD_eq_getElem?_getD, agn_old z o k p hp]
theorem agn_at (z : List α) (o : Int) : ∀ k m p, p < z.length + m → m ≤ k → (agn d f z o k).getD p d = (agn d f z o m).getD p d
  | 0, m, p, hp, hm => by
    obtain rfl : m = 0 := by omega
    rfl
  | k + 1, m, p, hp, hm => by
    by_cases e : m = k + 1
    · rw [e]
    · rw [agn, List.getD_eq_getElem?_getD, List.getElem?_append_left (by rw [agn_length]; omega), ← List.getD_eq_getElem?_getD, agn_at z o k m p hp (by omega)]
theorem agn_new (z : List α) (o : Int) (k j : Nat) (hj : j < k) (h1 : 1 ≤ o) (h2 : o ≤ z.length) :
    (agn d f z o k).getD (z.length + j) d = f ((agn d f z o k).getD (((z.length + j : Nat) : Int) - o).toNat d) := by
  rw [agn_at z o k (j + 1) _ (by omega) (by omega), agn, List.getD_eq_getElem?_getD, List.getElem?_append_right (by rw [agn_length]; exact Nat.le_refl _), agn_length, Nat.sub_self]
  rw [agn_at z o k j _ (by omega) (by omega)]
  rfl
theorem xp_old : ∀ (n k : Nat), k ≤ n → (xp own d f T b n).2.1 = 0 → ∀ p, p < (xp own d f T b k).1.length → (xp own d f T b n).1.getD p d = (xp own d f T b k).1.getD p d
  | 0, k, hk, _, p, _ => by
    obtain rfl : k = 0 := by omega
    rfl
  | n + 1, k, hk, h, p, hp => by
    by_cases e : k = n + 1
    · rw [e]
    · obtain ⟨h0, _, h2⟩ := xp_pre h
      have hp2 : p < (xp own d f T b n).1.length := by
        have := xp_le n k (by omega) h0
        omega
      rw [h2, agn_old _ _ _ _ (by rw [List.length_append]; omega), List.getD_eq_getElem?_getD, List.getElem?_append_left hp2, ← List.getD_eq_getElem?_getD, xp_old n k (by omega) h0 p hp]
where
  xp_le : ∀ (n k : Nat), k ≤ n → (xp own d f T b n).2.1 = 0 → (xp own d f T b k).1.length ≤ (xp own d f T b n).1.length
    | 0, k, hk, _ => by
      obtain rfl : k = 0 := by omega
      exact Nat.le_refl _
    | n + 1, k, hk, h => by
      by_cases e : k = n + 1
      · rw [e]; exact Nat.le_refl _
      · obtain ⟨h0, _, h2⟩ := xp_pre h
        have := xp_le n k (by omega) h0
        rw [h2, agn_length, List.length_append]
        omega
theorem xp_zero {n k : Nat} (hk : k ≤ n) (h : (xp own d f T b n).2.1 = 0) : (xp own d f T b k).2.1 = 0 := by
  by_cases h0 : (xp own d f T b k).2.1 = 0
  · exact h0
  · rw [xp_stays h0 hk] at h
    exact absurd h h0
/-- A run's own elements. -/
theorem xp_own {n i p : Nat} (hi : i < n) (h : (xp own d f T b n).2.1 = 0) (hp : p < (own i).length) : (xp own d f T b n).1.getD ((xp own d f T b i).1.length + p) d = (own i).getD p d := by
  obtain ⟨h0, _, h2⟩ := xp_pre (xp_zero (k := i + 1) hi h)
  have hl : (xp own d f T b (i + 1)).1.length = (xp own d f T b i).1.length + (own i).length + (T.getD i tk0).2.2.toNat := by rw [h2, agn_length, List.length_append]
  rw [xp_old n (i + 1) hi h _ (by omega), h2, agn_old _ _ _ _ (by rw [List.length_append]; omega), List.getD_eq_getElem?_getD, List.getElem?_append_right (by omega), ← List.getD_eq_getElem?_getD, Nat.add_sub_cancel_left]
/-- A copy's elements. -/
theorem xp_copy {n i q : Nat} (hi : i < n) (h : (xp own d f T b n).2.1 = 0) (hq : q < (T.getD i tk0).2.2.toNat) (h1 : 1 ≤ (T.getD i tk0).2.1) (h3 : (T.getD i tk0).2.1 ≤ ((xp own d f T b i).1.length + (own i).length : Nat)) :
    (xp own d f T b n).1.getD ((xp own d f T b i).1.length + (own i).length + q) d = f ((xp own d f T b n).1.getD ((((xp own d f T b i).1.length + (own i).length + q : Nat) : Int) - (T.getD i tk0).2.1).toNat d) := by
  obtain ⟨h0, _, h2⟩ := xp_pre (xp_zero (k := i + 1) hi h)
  have hl : (xp own d f T b (i + 1)).1.length = (xp own d f T b i).1.length + (own i).length + (T.getD i tk0).2.2.toNat := by rw [h2, agn_length, List.length_append]
  rw [xp_old n (i + 1) hi h _ (by omega), xp_old n (i + 1) hi h _ (by omega), h2, ← List.length_append, agn_new _ _ _ _ hq h1 (by rw [List.length_append]; exact h3)]
end
end Go.Proofs.Ytklkflfdianbpaa.Cur
