/- Each byte that is made is the one of its origin. -/
import Derived.Test.YtklkflfdianbpaaExpT
namespace Go.Proofs.Ytklkflfdianbpaa.Cur
open Go.RowKit Mem
set_option linter.unusedVariables false

def lit (T : List Tk) (k : Nat) : List Int := (T.getD k tk0).1
theorem xpb_lit (T : List Tk) (b : Int) (k : Nat) : xpb T b k = xp (lit T) 0 id T b k := rfl
theorem ogs_len (T : List Tk) (k : Nat) : (ogs T k).length = (lit T k).length := by unfold ogs lit; rw [orig_len]
theorem zro_len (T : List Tk) (k : Nat) : (zro T k).length = (lit T k).length := by unfold zro lit; rw [List.length_replicate]
theorem orig_get {i L q : Nat} (h : q < L) : (orig i L).getD q (0, 0) = ((i : Int), (q : Int)) := by
  unfold orig
  rw [List.getD_eq_getElem?_getD, List.getElem?_map, List.getElem?_range h]
  rfl
section
variable {T : List Tk} {b : Int} {n : Nat}
/-- What is known of a token that is gone through. -/
theorem tok_at (h : (xp (lit T) 0 id T b n).2.1 = 0) {i : Nat} (hi : i < n) :
    0 ≤ (T.getD i tk0).2.2 ∧ (0 < (T.getD i tk0).2.2 → 1 ≤ (T.getD i tk0).2.1 ∧ (T.getD i tk0).2.1 ≤ (xp (lit T) 0 id T b i).1.length) ∧
    (xp (lit T) 0 id T b (i + 1)).1.length = (xp (lit T) 0 id T b i).1.length + (lit T i).length + (T.getD i tk0).2.2.toNat := by
  obtain ⟨h0, hc, h2⟩ := xp_pre (xp_zero (k := i + 1) hi h)
  obtain ⟨l0, _, _, l3, _⟩ := chk_run hc
  exact ⟨l0, l3, by rw [h2, agn_length, List.length_append]⟩
theorem two_len {α : Type} {own' : Nat → List α} {d' : α} {f' : α → α} {b' : Int} (hown : ∀ k, (lit T k).length = (own' k).length) (hb : b ≤ b') (h : (xp (lit T) 0 id T b n).2.1 = 0) {i : Nat} (hi : i ≤ n) :
    (xp own' d' f' T b' i).1.length = (xp (lit T) 0 id T b i).1.length ∧ (xp own' d' f' T b' i).2.1 = 0 := by
  have h0 := xp_zero hi h
  obtain ⟨h1, h2⟩ := xp_twin (own := lit T) (d := 0) (f := id) (own' := own') (d' := d') (f' := f') (T := T) hown hb i (by rw [h0]; decide)
  exact ⟨h2, by rw [h1, h0]⟩
theorem ori_all {b' : Int} (hb : b ≤ b') (h : (xp (lit T) 0 id T b n).2.1 = 0) (p : Nat) : ∀ k, k ≤ n → p < (xp (lit T) 0 id T b k).1.length →
    ∃ t j : Nat, (xp (ogs T) (0, 0) id T b' n).1.getD p (0, 0) = ((t : Int), (j : Int)) ∧ t < k ∧ j < (T.getD t tk0).1.length ∧ (T.getD t tk0).1.getD j 0 = (xp (lit T) 0 id T b n).1.getD p 0 := by
  induction p using Nat.strongRecOn with
  | ind p ihp =>
    intro k
    induction k with
    | zero => intro _ hp; exact absurd hp (by simp [xp])
    | succ k ih =>
      intro hk hp
      by_cases h1 : p < (xp (lit T) 0 id T b k).1.length
      · obtain ⟨t, j, e1, e2, e3, e4⟩ := ih (by omega) h1
        exact ⟨t, j, e1, by omega, e3, e4⟩
      · obtain ⟨l0, l1, l2⟩ := tok_at h (i := k) (by omega)
        obtain ⟨t1, t2⟩ := two_len (own' := ogs T) (d' := (0, 0)) (f' := id) (b' := b') (fun k => (ogs_len T k).symm) hb h (i := k) (by omega)
        obtain ⟨_, t3⟩ := two_len (own' := ogs T) (d' := (0, 0)) (f' := id) (b' := b') (fun k => (ogs_len T k).symm) hb h (i := n) (Nat.le_refl _)
        obtain ⟨q, rfl⟩ : ∃ q, p = (xp (lit T) 0 id T b k).1.length + q := ⟨p - (xp (lit T) 0 id T b k).1.length, by omega⟩
        by_cases hq : q < (lit T k).length
        · have a1 := xp_own (own := lit T) (d := 0) (f := id) (T := T) (b := b) (n := n) (i := k) (p := q) (by omega) h hq
          have a2 := xp_own (own := ogs T) (d := (0, 0)) (f := id) (T := T) (b := b') (n := n) (i := k) (p := q) (by omega) t3 (by rw [ogs_len]; exact hq)
          rw [t1] at a2
          refine ⟨k, q, ?_, Nat.lt_succ_self _, hq, ?_⟩
          · rw [a2]
            exact orig_get hq
          · rw [a1]
            rfl
        · obtain ⟨r, rfl⟩ : ∃ r, q = (lit T k).length + r := ⟨q - (lit T k).length, by omega⟩
          have hr : r < (T.getD k tk0).2.2.toNat := by omega
          obtain ⟨o1, o2⟩ := l1 (by omega)
          have a1 := xp_copy (own := lit T) (d := 0) (f := id) (T := T) (b := b) (n := n) (i := k) (q := r) (by omega) h hr o1 (by omega)
          have a2 := xp_copy (own := ogs T) (d := (0, 0)) (f := id) (T := T) (b := b') (n := n) (i := k) (q := r) (by omega) t3 hr o1 (by rw [t1]; omega)
          rw [t1, ogs_len] at a2
          rw [← Nat.add_assoc, a1, a2]
          have hs : ((((xp (lit T) 0 id T b k).1.length + (lit T k).length + r : Nat) : Int) - (T.getD k tk0).2.1).toNat < (xp (lit T) 0 id T b k).1.length + ((lit T k).length + r) := by omega
          have hs2 := ihp _ hs (k + 1) hk (by omega)
          exact hs2
end
end Go.Proofs.Ytklkflfdianbpaa.Cur
