/- The least tokens, plain facts. -/
import Derived.Test.YtmflnnfgkcmlhaaK16
namespace Go.Proofs.Ytmflnnfgkcmlhaa.Cur
open Go.RowKit Mem
set_option linter.unusedVariables false
set_option maxRecDepth 100000

/-- The least of b and g from lo on, j of them. -/
def mn (g : Nat → Int) (lo : Nat) : Nat → Int → Int
  | 0, b => b
  | j + 1, b => min (mn g lo j b) (g (lo + j))
theorem mn_le_b (g : Nat → Int) (lo : Nat) : ∀ (j : Nat) (b : Int), mn g lo j b ≤ b
  | 0, b => Int.le_refl _
  | j + 1, b => by have := mn_le_b g lo j b; rw [mn]; omega
theorem mn_le (g : Nat → Int) (lo : Nat) {i : Nat} : ∀ {j : Nat} {b : Int}, i < j → mn g lo j b ≤ g (lo + i)
  | 0, b, h => by omega
  | j + 1, b, h => by
    rw [mn]
    by_cases e : i = j
    · subst e; omega
    · have := mn_le g lo (i := i) (j := j) (b := b) (by omega); omega
theorem le_mn {g : Nat → Int} {lo : Nat} {x : Int} : ∀ {j : Nat} {b : Int}, x ≤ b → (∀ i, i < j → x ≤ g (lo + i)) → x ≤ mn g lo j b
  | 0, b, h, _ => h
  | j + 1, b, h, h2 => by
    rw [mn]
    have := le_mn (j := j) h (fun i hi => h2 i (by omega))
    have := h2 j (by omega)
    omega
theorem mn_is (g : Nat → Int) (lo : Nat) : ∀ (j : Nat) (b : Int), mn g lo j b = b ∨ ∃ i, i < j ∧ mn g lo j b = g (lo + i)
  | 0, b => .inl rfl
  | j + 1, b => by
    rw [mn]
    by_cases e : mn g lo j b ≤ g (lo + j)
    · rw [Int.min_eq_left e]
      rcases mn_is g lo j b with h | ⟨i, hi, h⟩
      · exact .inl h
      · exact .inr ⟨i, by omega, h⟩
    · rw [Int.min_eq_right (by omega)]
      exact .inr ⟨j, by omega, rfl⟩
theorem mn_congr {g g' : Nat → Int} {lo : Nat} : ∀ {j : Nat} {b : Int}, (∀ i, i < j → g (lo + i) = g' (lo + i)) → mn g lo j b = mn g' lo j b
  | 0, b, _ => rfl
  | j + 1, b, h => by rw [mn, mn, mn_congr (j := j) (fun i hi => h i (by omega)), h j (by omega)]

/-- The least in which a copy from place a on, and what stands behind it, is written, of the first j offsets (the document's order). -/
def od (z : List Int) (f : Nat → Int) (a : Nat) : Nat → Int
  | 0 => 1000000
  | j + 1 => mn (fun n => 2 + f (a + n)) 4 (mt z a (a - (j + 1)) - 3) (od z f a j)
theorem od_le {z : List Int} {f : Nat → Int} {a i n : Nat} (hn : 4 ≤ n) (hm : n ≤ mt z a (a - (i + 1))) : ∀ {j : Nat}, i < j → od z f a j ≤ 2 + f (a + n)
  | 0, h => by omega
  | j + 1, h => by
    rw [od]
    by_cases e : i = j
    · subst e
      have := mn_le (fun n => 2 + f (a + n)) 4 (i := n - 4) (j := mt z a (a - (i + 1)) - 3) (b := od z f a i) (by omega)
      rwa [show 4 + (n - 4) = n by omega] at this
    · have h1 := mn_le_b (fun n => 2 + f (a + n)) 4 (mt z a (a - (j + 1)) - 3) (od z f a j)
      have := od_le (z := z) (f := f) hn hm (j := j) (by omega)
      omega
theorem od_is {z : List Int} {f : Nat → Int} {a : Nat} : ∀ (j : Nat), od z f a j = 1000000 ∨ ∃ i n, i < j ∧ 4 ≤ n ∧ n ≤ mt z a (a - (i + 1)) ∧ od z f a j = 2 + f (a + n)
  | 0 => .inl rfl
  | j + 1 => by
    rw [od]
    rcases mn_is (fun n => 2 + f (a + n)) 4 (mt z a (a - (j + 1)) - 3) (od z f a j) with h | ⟨i, hi, h⟩
    · rw [h]
      rcases od_is (z := z) (f := f) (a := a) j with h | ⟨i, n, h1, h2, h3, h4⟩
      · exact .inl h
      · exact .inr ⟨i, n, by omega, h2, h3, h4⟩
    · exact .inr ⟨j, 4 + i, by omega, by omega, by omega, h⟩
/-- The least of all copies is that of the longest match. -/
theorem od_all {z : List Int} {f : Nat → Int} {a : Nat} : od z f a a = mn (fun n => 2 + f (a + n)) 4 (lg z a a - 3) 1000000 := by
  refine Int.le_antisymm ?_ ?_
  · refine le_mn ?_ fun i hi => ?_
    · have : ∀ j, od z f a j ≤ 1000000 := by
        intro j
        induction j with
        | zero => exact Int.le_refl _
        | succ j ih => exact Int.le_trans (mn_le_b _ _ _ _) ih
      exact this a
    · rcases lg_is (z := z) (a := a) a with h | ⟨k, hk, h⟩
      · omega
      · exact od_le (i := k) (by omega) (by omega) hk
  · rcases od_is (z := z) (f := f) (a := a) a with h | ⟨i, n, h1, h2, h3, h4⟩
    · rw [h]
      exact mn_le_b _ _ _ _
    · rw [h4]
      have := lg_ge (z := z) (a := a) (j := a) h1
      have := mn_le (fun n => 2 + f (a + n)) 4 (i := n - 4) (j := lg z a a - 3) (b := 1000000) (by omega)
      rwa [show 4 + (n - 4) = n by omega] at this

/-! ### The table, from the end on -/
def upd {α : Type} (f : Nat → α) (a : Nat) (v : α) : Nat → α := fun i => if i = a then v else f i
theorem upd_at {α : Type} (f : Nat → α) (a : Nat) (v : α) : upd f a v a = v := if_pos rfl
theorem upd_ne {α : Type} (f : Nat → α) {a i : Nat} (v : α) (h : i ≠ a) : upd f a v i = f i := if_neg h
/-- What the document has behind k places from the end: free, behind a run. -/
def dtb (z : List Int) : Nat → (Nat → Int) × (Nat → Int)
  | 0 => (fun _ => 0, fun _ => 0)
  | k + 1 => (upd (dtb z k).1 (z.length - (k + 1)) (mn (fun n => ((n : Int) + 1) + (dtb z k).2 (z.length - (k + 1) + n)) 1 (k + 1) (od z (dtb z k).1 (z.length - (k + 1)) (z.length - (k + 1)))),
      upd (dtb z k).2 (z.length - (k + 1)) (od z (dtb z k).1 (z.length - (k + 1)) (z.length - (k + 1))))
theorem dtb_old {z : List Int} {i : Nat} : ∀ {k j : Nat}, z.length - k ≤ i → k ≤ j → j ≤ z.length → (dtb z j).1 i = (dtb z k).1 i ∧ (dtb z j).2 i = (dtb z k).2 i
  | k, 0, h, hj, _ => by obtain rfl : k = 0 := by omega
                         exact ⟨rfl, rfl⟩
  | k, j + 1, h, hj, hl => by
    by_cases e : k = j + 1
    · rw [e]; exact ⟨rfl, rfl⟩
    · obtain ⟨h1, h2⟩ := dtb_old (z := z) (i := i) (k := k) (j := j) h (by omega) (by omega)
      rw [dtb]
      exact ⟨(upd_ne _ _ (by omega)).trans h1, (upd_ne _ _ (by omega)).trans h2⟩
/-- In how few bytes the text from place a on is written: free, behind a run. -/
def fre (z : List Int) (a : Nat) : Int := (dtb z z.length).1 a
def bhr (z : List Int) (a : Nat) : Int := (dtb z z.length).2 a
theorem fre_end {z : List Int} {a : Nat} (h : z.length ≤ a) : fre z a = 0 ∧ bhr z a = 0 := by
  have := dtb_old (z := z) (i := a) (k := 0) (j := z.length) (by omega) (by omega) (Nat.le_refl _)
  exact ⟨this.1, this.2⟩
theorem bhr_eq {z : List Int} {a : Nat} (h : a < z.length) : bhr z a = mn (fun n => 2 + fre z (a + n)) 4 (lg z a a - 3) 1000000 ∧ fre z a = mn (fun n => ((n : Int) + 1) + bhr z (a + n)) 1 (z.length - a) (bhr z a) := by
  obtain ⟨k, hk⟩ : ∃ k, a = z.length - (k + 1) ∧ k + 1 ≤ z.length := ⟨z.length - a - 1, by omega, by omega⟩
  have h1 := dtb_old (z := z) (i := a) (k := k + 1) (j := z.length) (by omega) hk.2 (Nat.le_refl _)
  have hf : ∀ i, a < i → (dtb z k).1 i = fre z i ∧ (dtb z k).2 i = bhr z i := fun i hi => by
    have := dtb_old (z := z) (i := i) (k := k) (j := z.length) (by omega) (by omega) (Nat.le_refl _)
    exact ⟨this.1.symm, this.2.symm⟩
  have e2 : bhr z a = od z (dtb z k).1 a a := by
    show (dtb z z.length).2 a = _
    rw [h1.2, dtb, ← hk.1]
    exact upd_at _ _ _
  have e1 : fre z a = mn (fun n => ((n : Int) + 1) + (dtb z k).2 (a + n)) 1 (k + 1) (od z (dtb z k).1 a a) := by
    show (dtb z z.length).1 a = _
    rw [h1.1, dtb, ← hk.1]
    exact upd_at _ _ _
  refine ⟨?_, ?_⟩
  · rw [e2, od_all]
    exact mn_congr fun i _ => by rw [(hf (a + (4 + i)) (by omega)).1]
  · rw [e1, ← e2, show k + 1 = z.length - a by omega]
    exact mn_congr fun i _ => by rw [(hf (a + (1 + i)) (by omega)).2]
/-- The rest as one run. -/
theorem fre_run {z : List Int} {a : Nat} (h : a < z.length) : fre z a ≤ (z.length - a : Nat) + 1 := by
  have := mn_le (fun n => ((n : Int) + 1) + bhr z (a + n)) 1 (i := z.length - a - 1) (j := z.length - a) (b := bhr z a) (by omega)
  rw [(bhr_eq h).2]
  rw [show a + (1 + (z.length - a - 1)) = z.length by omega, (fre_end (Nat.le_refl _)).2] at this
  omega
theorem fre_pos {z : List Int} : ∀ (k a : Nat), z.length - a ≤ k → 0 ≤ fre z a ∧ 0 ≤ bhr z a
  | 0, a, h => by rw [(fre_end (by omega)).1, (fre_end (by omega)).2]; exact ⟨Int.le_refl _, Int.le_refl _⟩
  | k + 1, a, h => by
    by_cases ha : a < z.length
    · obtain ⟨e1, e2⟩ := bhr_eq ha
      have hb : 0 ≤ bhr z a := by
        rw [e1]
        exact le_mn (by omega) fun i _ => by have := (fre_pos (z := z) k (a + (4 + i)) (by omega)).1; omega
      refine ⟨?_, hb⟩
      rw [e2]
      exact le_mn hb fun i _ => by have := (fre_pos (z := z) k (a + (1 + i)) (by omega)).2; omega
    · rw [(fre_end (by omega)).1, (fre_end (by omega)).2]; exact ⟨Int.le_refl _, Int.le_refl _⟩
end Go.Proofs.Ytmflnnfgkcmlhaa.Cur
