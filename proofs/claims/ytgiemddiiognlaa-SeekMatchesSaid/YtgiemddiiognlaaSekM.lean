/- Longest matches, plain facts. -/
import Derived.Test.YtgiemddiiognlaaChnM
namespace Go.Proofs.Ytgiemddiiognlaa.Cur
open Go.RowKit Mem
set_option linter.unusedVariables false

/-- How many bytes at the front of two rows are the same. -/
def cp : List Int → List Int → Nat
  | a :: x, b :: y => if a = b then cp x y + 1 else 0
  | _, _ => 0
theorem cp_le : ∀ (x y : List Int), cp x y ≤ x.length ∧ cp x y ≤ y.length
  | [], _ => by simp [cp]
  | _ :: _, [] => by simp [cp]
  | a :: x, b :: y => by
    have := cp_le x y
    rw [cp]
    split <;> simp <;> omega
theorem cp_eq : ∀ (x y : List Int) (j : Nat), j < cp x y → x.getD j 0 = y.getD j 0
  | [], _, j, h => by simp [cp] at h
  | _ :: _, [], j, h => by simp [cp] at h
  | a :: x, b :: y, j, h => by
    rw [cp] at h
    split at h
    · rename_i e
      cases j with
      | zero => simpa using e
      | succ j => simpa using cp_eq x y j (by omega)
    · omega
theorem cp_stop : ∀ (x y : List Int), cp x y < x.length → cp x y < y.length → x.getD (cp x y) 0 ≠ y.getD (cp x y) 0
  | [], _, h, _ => by simp [cp] at h
  | _ :: _, [], _, h => by simp [cp] at h
  | a :: x, b :: y, h, h' => by
    rw [cp] at h h' ⊢
    split
    · rename_i e
      rw [if_pos e] at h h'
      simpa using cp_stop x y (by simpa using h) (by simpa using h')
    · rename_i e
      simpa using e
theorem le_cp {x y : List Int} {k : Nat} (h1 : k ≤ x.length) (h2 : k ≤ y.length) (h : ∀ j, j < k → x.getD j 0 = y.getD j 0) : k ≤ cp x y := by
  rcases Nat.lt_or_ge (cp x y) k with hc | hc
  · exact absurd (h _ hc) (cp_stop x y (by omega) (by omega))
  · exact hc
theorem cp_is {x y : List Int} {k : Nat} (h1 : k ≤ x.length) (h2 : k ≤ y.length) (h : ∀ j, j < k → x.getD j 0 = y.getD j 0) (hs : k = x.length ∨ k = y.length ∨ x.getD k 0 ≠ y.getD k 0) : cp x y = k := by
  have := le_cp h1 h2 h
  have hl := cp_le x y
  rcases Nat.lt_or_ge k (cp x y) with hc | hc
  · rcases hs with e | e | e
    · omega
    · omega
    · exact absurd (cp_eq x y k hc) e
  · omega
/-- How many bytes match from a on with those from p on. -/
def mt (z : List Int) (a p : Nat) : Nat := cp (z.drop a) (z.drop p)
theorem getD_drop (z : List Int) (a j : Nat) : (z.drop a).getD j 0 = z.getD (a + j) 0 := by
  rw [List.getD_eq_getElem?_getD, List.getElem?_drop, List.getD_eq_getElem?_getD]
theorem mt_le (z : List Int) (a p : Nat) : mt z a p ≤ z.length - a := by
  have := (cp_le (z.drop a) (z.drop p)).1
  rw [List.length_drop] at this
  exact this
theorem mt_eq {z : List Int} {a p j : Nat} (h : j < mt z a p) : z.getD (a + j) 0 = z.getD (p + j) 0 := by
  have := cp_eq _ _ j h
  rwa [getD_drop, getD_drop] at this
theorem le_mt {z : List Int} {a p k : Nat} (hp : p ≤ a) (h1 : a + k ≤ z.length) (h : ∀ j, j < k → z.getD (a + j) 0 = z.getD (p + j) 0) : k ≤ mt z a p :=
  le_cp (by rw [List.length_drop]; omega) (by rw [List.length_drop]; omega) fun j hj => by rw [getD_drop, getD_drop]; exact h j hj
theorem mt_is {z : List Int} {a p k : Nat} (hp : p ≤ a) (h1 : a + k ≤ z.length) (h : ∀ j, j < k → z.getD (a + j) 0 = z.getD (p + j) 0) (hs : a + k = z.length ∨ z.getD (a + k) 0 ≠ z.getD (p + k) 0) : mt z a p = k :=
  cp_is (by rw [List.length_drop]; omega) (by rw [List.length_drop]; omega) (fun j hj => by rw [getD_drop, getD_drop]; exact h j hj) (by
    rw [List.length_drop, getD_drop, getD_drop]
    rcases hs with e | e
    · exact .inl (by omega)
    · exact .inr (.inr e))
/-- One place on, a match has one byte less. -/
theorem mt_next {z : List Int} {a p : Nat} (hp : p ≤ a) (h : 1 ≤ mt z a p) : mt z (a + 1) (p + 1) = mt z a p - 1 := by
  have hl := mt_le z a p
  refine mt_is (by omega) (by omega) (fun j hj => ?_) ?_
  · have := mt_eq (z := z) (a := a) (p := p) (j := 1 + j) (by omega)
    rw [← Nat.add_assoc, ← Nat.add_assoc] at this
    exact this
  · by_cases e : a + mt z a p = z.length
    · exact .inl (by omega)
    · refine .inr ?_
      have hs := cp_stop (z.drop a) (z.drop p) (by rw [List.length_drop]; show mt z a p < _; omega) (by rw [List.length_drop]; show mt z a p < _; omega)
      rw [getD_drop, getD_drop] at hs
      rw [show a + 1 + (mt z a p - 1) = a + mt z a p by omega, show p + 1 + (mt z a p - 1) = p + mt z a p by omega]
      exact hs
/-- A match of four bytes is of places with the same four bytes. -/
theorem mt_four {z : List Int} {a p : Nat} (hp : p ≤ a) (h : 4 ≤ mt z a p) : a + 4 ≤ z.length ∧ ky z a = ky z p := by
  have hl := mt_le z a p
  refine ⟨by omega, ?_⟩
  unfold ky
  have h0 := mt_eq (z := z) (a := a) (p := p) (j := 0) (by omega)
  have h1 := mt_eq (z := z) (a := a) (p := p) (j := 1) (by omega)
  have h2 := mt_eq (z := z) (a := a) (p := p) (j := 2) (by omega)
  have h3 := mt_eq (z := z) (a := a) (p := p) (j := 3) (by omega)
  rw [Nat.add_zero, Nat.add_zero] at h0
  rw [h0, h1, h2, h3]
/-- Where the four bytes of which the one behind n is the last differ, the match has no more than n. -/
theorem mt_key {z : List Int} {a p t : Nat} (hp : p ≤ a) (h : ky z (a + t) ≠ ky z (p + t)) : mt z a p ≤ t + 3 := by
  rcases Nat.lt_or_ge (t + 3) (mt z a p) with hc | hc
  · refine absurd ?_ h
    unfold ky
    have h0 := mt_eq (z := z) (a := a) (p := p) (j := t) (by omega)
    have h1 := mt_eq (z := z) (a := a) (p := p) (j := t + 1) (by omega)
    have h2 := mt_eq (z := z) (a := a) (p := p) (j := t + 2) (by omega)
    have h3 := mt_eq (z := z) (a := a) (p := p) (j := t + 3) (by omega)
    simp only [← Nat.add_assoc] at h1 h2 h3
    rw [h0, h1, h2, h3]
  · exact hc

/-! ### The best one -/
/-- The best one of those with some places, one behind the other: its offset and its bytes. -/
def bst (z : List Int) (a : Int) : List Nat → Int × Nat → Int × Nat
  | [], s => s
  | p :: L, s => bst z a L (if s.2 < mt z a.toNat p then (a - p, mt z a.toNat p) else s)
theorem bst_append (z : List Int) (a : Int) (y : List Nat) : ∀ (x : List Nat) (s : Int × Nat), bst z a (x ++ y) s = bst z a y (bst z a x s)
  | [], s => rfl
  | p :: x, s => by rw [List.cons_append, bst, bst, bst_append z a y x]
theorem bst_one (z : List Int) (a : Int) (x : List Nat) (p : Nat) (s : Int × Nat) : bst z a (x ++ [p]) s = if (bst z a x s).2 < mt z a.toNat p then (a - p, mt z a.toNat p) else bst z a x s := by
  rw [bst_append, bst, bst]
theorem bst_ge (z : List Int) (a : Int) : ∀ (L : List Nat) (s : Int × Nat), s.2 ≤ (bst z a L s).2
  | [], s => Nat.le_refl _
  | p :: L, s => by
    rw [bst]
    have := bst_ge z a L (if s.2 < mt z a.toNat p then (a - p, mt z a.toNat p) else s)
    split at this <;> split <;> simp_all <;> omega
/-- Where all that may match does, nothing better comes. -/
theorem bst_full {z : List Int} {a : Int} {s : Int × Nat} (h : z.length - a.toNat ≤ s.2) : ∀ (L : List Nat), bst z a L s = s
  | [] => rfl
  | p :: L => by
    have := mt_le z a.toNat p
    rw [bst, if_neg (by omega)]
    exact bst_full h L
/-- It is no less than each. -/
theorem bst_max {z : List Int} {a : Int} {p : Nat} : ∀ {L : List Nat} {s : Int × Nat}, p ∈ L → mt z a.toNat p ≤ (bst z a L s).2
  | q :: L, s, h => by
    rw [bst]
    rcases List.mem_cons.1 h with rfl | h
    · have := bst_ge z a L (if s.2 < mt z a.toNat p then (a - p, mt z a.toNat p) else s)
      split at this <;> split <;> simp_all <;> omega
    · exact bst_max h
/-- Either nothing was better, or it is one of them, of which those ahead on the list have less. -/
theorem bst_is {z : List Int} {a : Int} : ∀ (L : List Nat) (s : Int × Nat), (bst z a L s = s ∧ ∀ p ∈ L, mt z a.toNat p ≤ s.2) ∨
    ∃ (x : List Nat) (p : Nat) (y : List Nat), L = x ++ p :: y ∧ bst z a L s = (a - p, mt z a.toNat p) ∧ s.2 < mt z a.toNat p ∧ ∀ q ∈ x, mt z a.toNat q < mt z a.toNat p
  | [], s => .inl ⟨rfl, fun p h => absurd h (by simp)⟩
  | p :: L, s => by
    rw [bst]
    by_cases h : s.2 < mt z a.toNat p
    · rw [if_pos h]
      rcases bst_is L (a - p, mt z a.toNat p) with ⟨h1, h2⟩ | ⟨x, q, y, h1, h2, h3, h4⟩
      · exact .inr ⟨[], p, L, rfl, h1, h, fun q hq => absurd hq (by simp)⟩
      · refine .inr ⟨p :: x, q, y, by rw [h1]; rfl, h2, by simp at h3; omega, fun r hr => ?_⟩
        rcases List.mem_cons.1 hr with rfl | hr
        · exact h3
        · exact h4 r hr
    · rw [if_neg h]
      rcases bst_is L s with ⟨h1, h2⟩ | ⟨x, q, y, h1, h2, h3, h4⟩
      · refine .inl ⟨h1, fun r hr => ?_⟩
        rcases List.mem_cons.1 hr with rfl | hr
        · omega
        · exact h2 r hr
      · refine .inr ⟨p :: x, q, y, by rw [h1]; rfl, h2, h3, fun r hr => ?_⟩
        rcases List.mem_cons.1 hr with rfl | hr
        · omega
        · exact h4 r hr

/-- All places ahead, the nearest first. -/
def alls (a : Int) : List Nat := (List.range (min a 65536).toNat).map fun o : Nat => (a - 1 - o).toNat
theorem alls_mem {a : Int} {p : Nat} : p ∈ alls a ↔ (p : Int) < a ∧ a - p ≤ 65536 := by
  unfold alls
  rw [List.mem_map]
  constructor
  · rintro ⟨o, ho, rfl⟩
    rw [List.mem_range] at ho
    omega
  · rintro ⟨h1, h2⟩
    exact ⟨(a - 1 - p).toNat, by rw [List.mem_range]; omega, by omega⟩
theorem alls_sorted (a : Int) : (alls a).Pairwise (· > ·) := by
  unfold alls
  rw [List.pairwise_map]
  refine List.Pairwise.imp_of_mem ?_ List.pairwise_lt_range
  intro x y hx hy h
  rw [List.mem_range] at hx hy
  show (a - 1 - (y : Int)).toNat < (a - 1 - (x : Int)).toNat
  omega
theorem alls_len (a : Int) : (alls a).length = (min a 65536).toNat := by unfold alls; simp
/-- The best match. -/
def bm (z : List Int) (a : Int) : Int × Nat := bst z a (alls a) (0, 3)
def bo (z : List Int) (a : Int) : Int := (bm z a).1
def bn (z : List Int) (a : Int) : Int := if (bm z a).1 = 0 then 0 else (bm z a).2
end Go.Proofs.Ytgiemddiiognlaa.Cur
