/- What the law asks at each byte that is made: its origin, and through how many copies it went. -/
import Derived.Test.YtklkflfdianbpaaExpU
namespace Go.Proofs.Ytklkflfdianbpaa.Cur
open Go.RowKit Mem
set_option linter.unusedVariables false

theorem xp_mono {α : Type} {own : Nat → List α} {d : α} {f : α → α} {T : List Tk} {b : Int} {k : Nat} : ∀ n, k ≤ n → (xp own d f T b n).2.1 = 0 → (xp own d f T b k).1.length ≤ (xp own d f T b n).1.length
  | 0, hk, _ => by
    obtain rfl : k = 0 := by omega
    exact Nat.le_refl _
  | n + 1, hk, h => by
    by_cases e : k = n + 1
    · rw [e]; exact Nat.le_refl _
    · obtain ⟨h0, _, h2⟩ := xp_pre h
      have := xp_mono (k := k) n (by omega) h0
      rw [h2, agn_length, List.length_append]
      omega
theorem row_fact {T : List Tk} {b b' : Int} {n i q : Nat} (hb : b ≤ b') (h : (xp (lit T) 0 id T b n).2.1 = 0) (hi : i < n) (hq : (q : Int) < tsz (T.getD i tk0).1.length (T.getD i tk0).2.1 (T.getD i tk0).2.2) :
    (xp (lit T) 0 id T b i).1.length + q < (xp (lit T) 0 id T b n).1.length ∧
    (∃ t j : Nat, (xp (ogs T) (0, 0) id T b' n).1.getD ((xp (lit T) 0 id T b i).1.length + q) (0, 0) = ((t : Int), (j : Int)) ∧ t ≤ i ∧ j < (T.getD t tk0).1.length ∧ (T.getD t tk0).1.getD j 0 = (xp (lit T) 0 id T b n).1.getD ((xp (lit T) 0 id T b i).1.length + q) 0) ∧
    (trun (T.getD i tk0).1.length (T.getD i tk0).2.1 (T.getD i tk0).2.2 = true → (xp (ogs T) (0, 0) id T b' n).1.getD ((xp (lit T) 0 id T b i).1.length + q) (0, 0) = ((i : Int), (q : Int)) ∧ (xp (zro T) 0 (· + 1) T b' n).1.getD ((xp (lit T) 0 id T b i).1.length + q) 0 = 0) ∧
    (tcpy (T.getD i tk0).1.length (T.getD i tk0).2.1 (T.getD i tk0).2.2 = true → ∃ s : Nat, (((xp (lit T) 0 id T b i).1.length + q : Nat) : Int) - (T.getD i tk0).2.1 = s ∧ s < (xp (lit T) 0 id T b n).1.length ∧
      (xp (ogs T) (0, 0) id T b' n).1.getD ((xp (lit T) 0 id T b i).1.length + q) (0, 0) = (xp (ogs T) (0, 0) id T b' n).1.getD s (0, 0) ∧
      (xp (zro T) 0 (· + 1) T b' n).1.getD ((xp (lit T) 0 id T b i).1.length + q) 0 = (xp (zro T) 0 (· + 1) T b' n).1.getD s 0 + 1) := by
  obtain ⟨_, hc, _⟩ := xp_pre (xp_zero (k := i + 1) hi h)
  obtain ⟨l0, _, _, l3, l4⟩ := chk_run hc
  obtain ⟨_, _, l2⟩ := tok_at h hi
  have hle := xp_mono (own := lit T) (d := 0) (f := id) (T := T) (b := b) (k := i + 1) n hi h
  have hll : (lit T i).length = (T.getD i tk0).1.length := rfl
  have hp1 : (xp (lit T) 0 id T b i).1.length + q < (xp (lit T) 0 id T b (i + 1)).1.length := by omega
  obtain ⟨t1, _⟩ := two_len (own' := ogs T) (d' := (0, 0)) (f' := id) (b' := b') (fun k => (ogs_len T k).symm) hb h (i := i) (by omega)
  obtain ⟨_, t3⟩ := two_len (own' := ogs T) (d' := (0, 0)) (f' := id) (b' := b') (fun k => (ogs_len T k).symm) hb h (i := n) (Nat.le_refl _)
  obtain ⟨u1, _⟩ := two_len (own' := zro T) (d' := 0) (f' := (· + 1)) (b' := b') (fun k => (zro_len T k).symm) hb h (i := i) (by omega)
  obtain ⟨_, u3⟩ := two_len (own' := zro T) (d' := 0) (f' := (· + 1)) (b' := b') (fun k => (zro_len T k).symm) hb h (i := n) (Nat.le_refl _)
  refine ⟨by omega, ?_, ?_, ?_⟩
  · obtain ⟨t, j, e1, e2, e3, e4⟩ := ori_all (b' := b') hb h _ (i + 1) hi hp1
    exact ⟨t, j, e1, by omega, e3, e4⟩
  · intro hr
    have hz : (T.getD i tk0).2.2 = 0 := by
      unfold trun at hr
      simp only [decide_eq_true_eq] at hr
      exact hr.2.1
    have hqL : q < (lit T i).length := by omega
    have a2 := xp_own (own := ogs T) (d := (0, 0)) (f := id) (T := T) (b := b') (n := n) (i := i) (p := q) hi t3 (by rw [ogs_len]; exact hqL)
    have a3 := xp_own (own := zro T) (d := 0) (f := (· + 1)) (T := T) (b := b') (n := n) (i := i) (p := q) hi u3 (by rw [zro_len]; exact hqL)
    rw [t1] at a2
    rw [u1] at a3
    rw [a2, a3]
    refine ⟨orig_get hqL, ?_⟩
    unfold zro
    rw [List.getD_eq_getElem?_getD, List.getElem?_replicate]
    split <;> rfl
  · intro hr
    have hL0 : (T.getD i tk0).1.length = 0 ∧ 4 ≤ (T.getD i tk0).2.2 := by
      unfold tcpy at hr
      simp only [decide_eq_true_eq] at hr
      exact ⟨hr.1, hr.2.2.2.1⟩
    obtain ⟨o1, o2⟩ := l3 (by omega)
    have hq2 : q < (T.getD i tk0).2.2.toNat := by omega
    have a2 := xp_copy (own := ogs T) (d := (0, 0)) (f := id) (T := T) (b := b') (n := n) (i := i) (q := q) hi t3 hq2 o1 (by rw [t1]; omega)
    have a3 := xp_copy (own := zro T) (d := 0) (f := (· + 1)) (T := T) (b := b') (n := n) (i := i) (q := q) hi u3 hq2 o1 (by rw [u1]; omega)
    rw [t1, ogs_len, hll, hL0.1, Nat.add_zero] at a2
    rw [u1, zro_len, hll, hL0.1, Nat.add_zero] at a3
    obtain ⟨s, hs⟩ : ∃ s : Nat, (((xp (lit T) 0 id T b i).1.length + q : Nat) : Int) - (T.getD i tk0).2.1 = s := ⟨((((xp (lit T) 0 id T b i).1.length + q : Nat) : Int) - (T.getD i tk0).2.1).toNat, by omega⟩
    rw [hs, Int.toNat_natCast] at a2 a3
    exact ⟨s, hs, by omega, a2, a3⟩
/-- The lengths of the three. -/
theorem row_lens {T : List Tk} {b b' : Int} {n : Nat} (hb : b ≤ b') (h : (xp (lit T) 0 id T b n).2.1 ≠ 11) :
    (xpo T b' n).2.1 = (xp (lit T) 0 id T b n).2.1 ∧ (xpd T b' n).2.1 = (xp (lit T) 0 id T b n).2.1 ∧ (xpo T b' n).1.length = (xp (lit T) 0 id T b n).1.length ∧ (xpd T b' n).1.length = (xp (lit T) 0 id T b n).1.length := by
  obtain ⟨h1, h2⟩ := xp_twin (own := lit T) (d := 0) (f := id) (own' := ogs T) (d' := (0, 0)) (f' := id) (T := T) (fun k => (ogs_len T k).symm) hb n h
  obtain ⟨h3, h4⟩ := xp_twin (own := lit T) (d := 0) (f := id) (own' := zro T) (d' := 0) (f' := (· + 1)) (T := T) (fun k => (zro_len T k).symm) hb n h
  exact ⟨by unfold xpo; rw [h1], by unfold xpd; rw [h3], h2, h4⟩
end Go.Proofs.Ytklkflfdianbpaa.Cur
