/- Positions dealt out in turn: the plain arithmetic of shares. -/
import Derived.Test.YtpoicagalmhfdaaK1
namespace Go.Proofs.Ytpoicagalmhfdaa.Cur
set_option linter.unusedVariables false

/-- How many of n positions set s of m gets. -/
def shr (n m s : Nat) : Nat := (n + (m - 1 - s)) / m
theorem shr_iff {n m s l : Nat} (hs : s < m) : l < shr n m s ↔ l * m + s < n := by
  unfold shr
  rw [← Nat.succ_le_iff, Nat.le_div_iff_mul_le (by omega), Nat.succ_mul]
  omega
theorem eq_of_lt {a b : Nat} (h : ∀ l, l < a ↔ l < b) : a = b := by
  have h1 := h a
  have h2 := h b
  omega
/-- Whatever tells the same numbers is the share. -/
theorem shr_unique {n m s x : Nat} (hs : s < m) (h : ∀ l, l < x ↔ l * m + s < n) : x = shr n m s := eq_of_lt fun l => (h l).trans (shr_iff hs).symm
theorem shr_div {n m s : Nat} (hs : s < m) : n / m + (if s < n % m then 1 else 0) = shr n m s := shr_unique hs fun l => by
  have h1 := Nat.div_add_mod n m
  have h2 := Nat.mod_lt n (show 0 < m by omega)
  rw [Nat.mul_comm] at h1
  constructor
  · intro h
    rcases Nat.lt_or_ge l (n / m) with h3 | h3
    · have := Nat.mul_le_mul_right m (show l + 1 ≤ n / m from h3)
      rw [Nat.succ_mul] at this
      omega
    · split at h
      · obtain rfl : l = n / m := by omega
        omega
      · omega
  · intro h
    rcases Nat.lt_or_ge l (n / m) with h3 | h3
    · omega
    · rcases Nat.eq_or_lt_of_le h3 with h4 | h4
      · subst h4
        rw [if_pos (by omega)]; omega
      · have := Nat.mul_le_mul_right m (show n / m + 1 ≤ l from h4)
        rw [Nat.succ_mul] at this
        omega
theorem shr_succ {n m s : Nat} (hs : s < m) : shr (n + 1) m s = shr n m s + if n % m = s then 1 else 0 := by
  have h1 := Nat.div_add_mod n m
  have h2 := Nat.mod_lt n (show 0 < m by omega)
  rw [Nat.mul_comm] at h1
  refine eq_of_lt fun l => ?_
  rw [shr_iff hs]
  by_cases hr : n % m = s
  · rw [if_pos hr]
    have e : shr n m s = n / m := (shr_unique hs fun l => by
      constructor
      · intro h
        have := Nat.mul_le_mul_right m (show l + 1 ≤ n / m from h)
        rw [Nat.succ_mul] at this
        omega
      · intro h
        refine Nat.lt_of_not_le fun h3 => ?_
        have := Nat.mul_le_mul_right m h3
        omega).symm
    rw [e]
    constructor
    · intro h
      refine Nat.lt_of_not_le fun h3 => ?_
      have := Nat.mul_le_mul_right m h3
      rw [Nat.succ_mul] at this
      omega
    · intro h
      have := Nat.mul_le_mul_right m (show l ≤ n / m by omega)
      omega
  · rw [if_neg hr]
    show _ ↔ l < shr n m s
    rw [shr_iff hs]
    constructor
    · intro h
      rcases Nat.lt_or_ge (l * m + s) n with h3 | h3
      · exact h3
      · exfalso
        have : n = s + l * m := by omega
        rw [this, Nat.add_mul_mod_self_right, Nat.mod_eq_of_lt hs] at hr
        exact hr rfl
    · omega
/-- The sum of the first m of some numbers. -/
def sum0 (f : Nat → Nat) : Nat → Nat
  | 0 => 0
  | m + 1 => sum0 f m + f m
theorem sum0_congr {f g : Nat → Nat} : ∀ m, (∀ s, s < m → f s = g s) → sum0 f m = sum0 g m
  | 0, _ => rfl
  | m + 1, h => by show sum0 f m + f m = sum0 g m + g m; rw [sum0_congr m fun s hs => h s (by omega), h m (by omega)]
theorem sum0_one {f : Nat → Nat} {r : Nat} : ∀ m, sum0 (fun s => f s + if r = s then 1 else 0) m = sum0 f m + if r < m then 1 else 0
  | 0 => rfl
  | m + 1 => by
    show sum0 _ m + (f m + if r = m then 1 else 0) = sum0 f m + f m + if r < m + 1 then 1 else 0
    rw [sum0_one m]
    by_cases h : r = m
    · subst h; rw [if_pos rfl, if_neg (Nat.lt_irrefl _), if_pos (by omega)]; omega
    · rw [if_neg h]
      by_cases h2 : r < m
      · rw [if_pos h2, if_pos (by omega)]; omega
      · rw [if_neg h2, if_neg (by omega)]; omega
/-- The shares are all positions. -/
theorem shr_sum {m : Nat} (hm : 0 < m) : ∀ n, sum0 (shr n m) m = n
  | 0 => by
    have : ∀ s, s < m → shr 0 m s = 0 := fun s hs => by unfold shr; rw [Nat.zero_add]; exact Nat.div_eq_of_lt (by omega)
    rw [sum0_congr m (g := fun _ => 0) this]
    have z : ∀ k, sum0 (fun _ => 0) k = 0 := by
      intro k
      induction k with
      | zero => rfl
      | succ k ih => show sum0 _ k + 0 = 0; rw [ih]
    exact z m
  | n + 1 => by
    rw [sum0_congr m (g := fun s => shr n m s + if n % m = s then 1 else 0) fun s hs => shr_succ hs, sum0_one, shr_sum hm n, if_pos (Nat.mod_lt _ hm)]
/-- No two differ by more than one. -/
theorem shr_near {n m s t : Nat} (hs : s < m) (ht : t < m) : shr n m s ≤ shr n m t + 1 := by
  rcases Nat.lt_or_ge (shr n m t + 1) (shr n m s) with h | h
  · exfalso
    have h1 := (shr_iff hs (l := shr n m t + 1)).1 h
    rw [Nat.succ_mul] at h1
    have h2 := (shr_iff (n := n) ht (l := shr n m t)).2 (by omega)
    omega
  · exact h
/-- The largest share is set 0's, and is no more than all. -/
theorem shr_le {n m s : Nat} (hs : s < m) : shr n m s ≤ n := by
  rcases Nat.eq_zero_or_pos (shr n m s) with h | h
  · omega
  · have := (shr_iff (n := n) hs (l := shr n m s - 1)).1 (by omega)
    have := Nat.le_mul_of_pos_right (shr n m s - 1) (show 0 < m by omega)
    omega
/-- To which set and with which number position x of a stripe is dealt, and back. -/
theorem deal_back {m x : Nat} : x / m * m + x % m = x := by rw [Nat.mul_comm]; exact Nat.div_add_mod x m
theorem back_deal {m s l : Nat} (hs : s < m) : (l * m + s) % m = s ∧ (l * m + s) / m = l := by
  rw [Nat.add_comm, Nat.add_mul_mod_self_right, Nat.mod_eq_of_lt hs, Nat.add_mul_div_right _ _ (by omega), Nat.div_eq_of_lt hs, Nat.zero_add]
  exact ⟨rfl, rfl⟩
theorem deal_in {n m x : Nat} (hm : 0 < m) : x < n ↔ x / m < shr n m (x % m) := by
  rw [shr_iff (Nat.mod_lt _ hm), deal_back]
end Go.Proofs.Ytpoicagalmhfdaa.Cur
