/- A part of a tally: a word that stands for a whole number, just so from 0 to 2^50, and on its side otherwise. -/
import Derived.Test.YtepebneigehboaaFltM
set_option maxRecDepth 20000
namespace Flt
open Ieee Go

/-- Below nought. -/
def NegD (d : Datum) : Prop := d = .infinity true ∨ ∃ m p, m ≠ 0 ∧ d = .number true m p

/-- The word x stands for n. -/
def Pt (x : Nat) (n : Int) : Prop :=
  (0 ≤ n ∧ n ≤ 2 ^ 50 ∧ x = rung n.toNat) ∨ (2 ^ 50 < n ∧ Above x) ∨ (n < 0 ∧ NegD (double.read x))

theorem lt_inf {z y : Nat} (h : z ≤ 1084 * 2 ^ 52) (h' : y ≤ 2 ^ 53) : z + y < 2047 * 2 ^ 52 := by omega
theorem word_true_false (r : Nat) : double.word false r = r := word_false r

theorem Pt.in_ {x : Nat} {n : Int} (h : Pt x n) (h0 : 0 ≤ n) (h1 : n ≤ 2 ^ 50) : x = rung n.toNat := by
  rcases h with h | h | h
  · exact h.2.2
  · omega
  · omega
theorem pt_rung {n : Nat} (h : n ≤ 2 ^ 50) : Pt (rung n) n := Or.inl ⟨by omega, by omega, by simp⟩

theorem read_nat {n : Nat} (h : n < 2 ^ 53) : ∃ k : Nat, double.read (rung n) = .number false (n * 2 ^ k) (-(k : Int)) := by
  have := read_rung false h
  rwa [word_false] at this

/-- A number written in any units stands for what it is. -/
theorem pt_write (n : Nat) (k : Nat) : Pt (double.nearest false (n * 2 ^ k) (-(k : Int))) n := by
  rcases Nat.lt_or_ge (2 ^ 50) n with h | h
  · refine Or.inr (Or.inl ⟨by omega, nearest_above (J := k) (by omega) ?_⟩)
    rw [show (-(k : Int) + (k : Int) + 2).toNat = 2 from by omega, Nat.mul_assoc, Nat.mul_comm (2 ^ k), ← Nat.mul_assoc]
    exact Nat.mul_le_mul_right _ (by omega)
  · rw [nearest_exact false (by omega), word_false]
    exact pt_rung h

theorem read_neg {n : Nat} (hn : n ≠ 0) (k : Nat) : NegD (double.read (double.nearest true (n * 2 ^ k) (-(k : Int)))) := by
  have hm : n * 2 ^ k ≠ 0 := Nat.ne_of_gt (Nat.mul_pos (Nat.pos_of_ne_zero hn) (Nat.two_pow_pos _))
  unfold Format.nearest
  simp only [hm, if_false]
  generalize Toward.even.cut true ((n * 2 ^ k) <<< _) _ = kept
  rw [log2_mul_pow hn, leastPlace_double, binade_double, infRung_double]
  have hlast : max (-(k : Int) + ((n.log2 + k : Nat) : Int) - (double.fractionBits : Int)) (-1074) = (n.log2 : Int) - 52 := by
    show max (-(k : Int) + ((n.log2 + k : Nat) : Int) - ((52 : Nat) : Int)) (-1074) = _
    omega
  rw [hlast, show ((n.log2 : Int) - 52 - -1074).toNat = n.log2 + 1022 from by omega]
  generalize hr : min ((n.log2 + 1022) * 2 ^ 52 + kept) (2047 * 2 ^ 52) = r
  have hr0 : 2 ^ 52 ≤ r := by
    rw [← hr]
    refine Nat.le_min.2 ⟨Nat.le_trans ?_ (Nat.le_add_right _ _), by omega⟩
    calc 2 ^ 52 = 1 * 2 ^ 52 := by omega
      _ ≤ _ := Nat.mul_le_mul_right _ (by omega)
  have hr1 : r ≤ 2047 * 2 ^ 52 := by rw [← hr]; exact Nat.min_le_right _ _
  clear hr
  have hw : double.word true r = 2 ^ 63 + r := rfl
  rw [hw]
  unfold Format.read
  have e0 : (2 ^ 63 + r) / double.signWeight % 2 = 1 ∧ (2 ^ 63 + r) % double.signWeight = r := by rw [sw_double]; omega
  simp only [e0.1, e0.2]
  rw [binade_double, infRung_double, leastPlace_double]
  rw [if_neg (by omega)]
  rcases Nat.lt_or_ge r (2047 * 2 ^ 52) with h3 | h3
  · rw [if_pos h3]
    exact Or.inr ⟨_, _, Nat.ne_of_gt (Nat.lt_of_lt_of_le (Nat.two_pow_pos 52) (Nat.le_add_right _ _)), rfl⟩
  · rw [if_neg (by omega), if_pos (by omega)]
    exact Or.inl rfl

theorem pt_neg {n : Nat} (hn : n ≠ 0) (k : Nat) : Pt (double.nearest true (n * 2 ^ k) (-(k : Int))) (-(n : Int)) := Or.inr (Or.inr ⟨by omega, read_neg hn k⟩)

/-- float64(n). -/
theorem pt_int (n : Int) : Pt (floatOfInt .f64 n) n := by
  show Pt (double.nearest (decide (n < 0)) n.natAbs 0) n
  by_cases h : n < 0
  · have := pt_neg (n := n.natAbs) (by omega) 0
    rw [Nat.pow_zero, Nat.mul_one, show -((n.natAbs : Nat) : Int) = n from by omega] at this
    rw [decide_eq_true h]; exact this
  · have := pt_write n.natAbs 0
    rw [Nat.pow_zero, Nat.mul_one, show ((n.natAbs : Nat) : Int) = n from by omega] at this
    rw [decide_eq_false (by omega)]; exact this

theorem fin_int {n : Int} (h0 : 0 ≤ n) (h : n < 2 ^ 63) : floatOfInt .f64 n < double.infRung := by
  show double.nearest (decide (n < 0)) n.natAbs 0 < _
  rw [decide_eq_false (by omega)]
  unfold Format.nearest
  rw [word_false, word_false]
  split
  · rw [infRung_double]; decide
  · rename_i hm
    have hl : n.natAbs.log2 ≤ 62 := Nat.le_of_lt_succ ((Nat.log2_lt hm).2 (by omega))
    rw [leastPlace_double, binade_double, infRung_double]
    have hlast : max ((0 : Int) + ((n.natAbs.log2 : Nat) : Int) - (double.fractionBits : Int)) (-1074) = (n.natAbs.log2 : Int) - 52 := by
      show max ((0 : Int) + ((n.natAbs.log2 : Nat) : Int) - ((52 : Nat) : Int)) (-1074) = _
      omega
    rw [hlast, show ((n.natAbs.log2 : Int) - 52 - -1074).toNat = n.natAbs.log2 + 1022 from by omega]
    have hk := cut_le .even false (n.natAbs <<< (0 - ((n.natAbs.log2 : Int) - 52)).toNat) ((n.natAbs.log2 : Int) - 52 - 0).toNat
    refine Nat.lt_of_le_of_lt (Nat.min_le_left _ _) ?_
    have hq : n.natAbs <<< (0 - ((n.natAbs.log2 : Int) - 52)).toNat / 2 ^ ((n.natAbs.log2 : Int) - 52 - 0).toNat < 2 ^ 53 := by
      rw [Nat.shiftLeft_eq, Nat.div_lt_iff_lt_mul (Nat.two_pow_pos _), ← Nat.pow_add]
      calc n.natAbs * 2 ^ (0 - ((n.natAbs.log2 : Int) - 52)).toNat < 2 ^ (n.natAbs.log2 + 1) * 2 ^ (0 - ((n.natAbs.log2 : Int) - 52)).toNat := Nat.mul_lt_mul_of_pos_right Nat.lt_log2_self (Nat.two_pow_pos _)
        _ = _ := by rw [← Nat.pow_add]; congr 1; omega
    have : (n.natAbs.log2 + 1022) * 2 ^ 52 ≤ 1084 * 2 ^ 52 := Nat.mul_le_mul_right _ (by omega)
    exact lt_inf this (Nat.le_trans hk hq)

/-! Orders. -/
theorem min_places (k j : Nat) : min (-(k : Int)) (-(j : Int)) = -((max k j : Nat) : Int) := by omega

theorem signed_false (m up : Nat) : signed false m up = ((m * 2 ^ up : Nat) : Int) := by unfold signed; rw [if_neg (by decide), Nat.shiftLeft_eq]
theorem signed_true (m up : Nat) : signed true m up = -((m * 2 ^ up : Nat) : Int) := by unfold signed; rw [if_pos rfl, Nat.shiftLeft_eq]
theorem up_nat (n k M : Nat) (h : k ≤ M) : n * 2 ^ k * 2 ^ (-(k : Int) - -(M : Int)).toNat = n * 2 ^ M := by
  rw [Nat.mul_assoc, ← Nat.pow_add]; congr 2; omega

theorem order_nat (n k m j : Nat) : Datum.order (.number false (n * 2 ^ k) (-(k : Int))) (.number false (m * 2 ^ j) (-(j : Int))) = some (compare n m) := by
  unfold Datum.order
  simp only [min_places, signed_false]
  rw [up_nat n k _ (Nat.le_max_left _ _), up_nat m j _ (Nat.le_max_right _ _)]
  have hp := Nat.two_pow_pos (max k j)
  generalize 2 ^ (max k j) = P at *
  congr 1
  rcases Nat.lt_trichotomy n m with h | h | h
  · rw [Nat.compare_eq_lt.2 h, Int.compare_eq_lt]; exact Int.ofNat_lt.2 (Nat.mul_lt_mul_of_pos_right h hp)
  · subst h; rw [Nat.compare_eq_eq.2 rfl, Int.compare_eq_eq]
  · rw [Nat.compare_eq_gt.2 h, Int.compare_eq_gt]; exact Int.ofNat_lt.2 (Nat.mul_lt_mul_of_pos_right h hp)

theorem eq_of_cmp {o o' : Option Ordering} (h : o = o') : o = o' := h
theorem rung50 : rung (2 ^ 50) = 4832362400168542208 := by decide
theorem W50_eq : W50 = 4832362400168542208 := by decide
theorem read_zero : ∃ k : Nat, double.read 0 = .number false (0 * 2 ^ k) (-(k : Int)) := read_nat (n := 0) (by omega)

/-- A number above in the order of 2^50 and less. -/
theorem above_scaled {m q M : Nat} {n : Nat} (hq : 2 ^ 52 + 1 ≤ m * 2 ^ q) (hn : n ≤ 2 ^ 50) (hM : 2 ≤ q + M) : n * 2 ^ M < m * 2 ^ (q + M - 2) := by
  have h1 : (2 ^ 52 + 1) * 2 ^ M ≤ m * 2 ^ q * 2 ^ M := Nat.mul_le_mul_right _ hq
  have h2 : m * 2 ^ q * 2 ^ M = m * 2 ^ (q + M - 2) * 4 := by
    rw [Nat.mul_assoc, ← Nat.pow_add, Nat.mul_assoc, show (4 : Nat) = 2 ^ 2 from rfl, ← Nat.pow_add]; congr 2; omega
  have h3 : n * 2 ^ M * 4 < (2 ^ 52 + 1) * 2 ^ M := by
    rw [Nat.mul_assoc, Nat.mul_comm (2 ^ M) 4, ← Nat.mul_assoc]
    exact Nat.mul_lt_mul_of_pos_right (by omega) (Nat.two_pow_pos _)
  omega

theorem above_up {m q M : Nat} : m * 2 ^ ((q : Int) - 2 - -(M : Int)).toNat = m * 2 ^ (q + M - 2) := by congr 2; omega
theorem min_above (q k : Nat) : min ((q : Int) - 2) (-(k : Int)) = -((max k (2 - q) : Nat) : Int) := by omega
theorem min_above' (q k : Nat) : min (-(k : Int)) ((q : Int) - 2) = -((max k (2 - q) : Nat) : Int) := by omega

theorem order_above_gt {x : Nat} (hx : Above x) {n k : Nat} (hn : n ≤ 2 ^ 50) : (double.read x).order (.number false (n * 2 ^ k) (-(k : Int))) = some .gt := by
  rcases (read_above hx).1 with h | ⟨m, q, h, hq⟩
  · rw [h]; rfl
  · rw [h]
    unfold Datum.order
    simp only [min_above, signed_false]
    rw [up_nat n k _ (Nat.le_max_left _ _), above_up]
    congr 1
    rw [Int.compare_eq_gt]
    exact Int.ofNat_lt.2 (above_scaled hq hn (by omega))
theorem order_above_lt {x : Nat} (hx : Above x) {n k : Nat} (hn : n ≤ 2 ^ 50) : Datum.order (.number false (n * 2 ^ k) (-(k : Int))) (double.read x) = some .lt := by
  rcases (read_above hx).1 with h | ⟨m, q, h, hq⟩
  · rw [h]; rfl
  · rw [h]
    unfold Datum.order
    simp only [min_above', signed_false]
    rw [up_nat n k _ (Nat.le_max_left _ _), above_up]
    congr 1
    rw [Int.compare_eq_lt]
    exact Int.ofNat_lt.2 (above_scaled hq hn (by omega))
theorem order_neg {d : Datum} (hd : NegD d) (m : Nat) (p : Int) : d.order (.number false m p) = some .lt ∧ Datum.order (.number false m p) d = some .gt := by
  rcases hd with rfl | ⟨m', p', h0, rfl⟩
  · exact ⟨rfl, rfl⟩
  · unfold Datum.order
    simp only [signed_false, signed_true]
    have h1 : 0 < m' * 2 ^ (p' - min p' p).toNat := Nat.mul_pos (Nat.pos_of_ne_zero h0) (Nat.two_pow_pos _)
    have h2 : 0 < m' * 2 ^ (p' - min p p').toNat := Nat.mul_pos (Nat.pos_of_ne_zero h0) (Nat.two_pow_pos _)
    constructor
    · congr 1; rw [Int.compare_eq_lt]; omega
    · congr 1; rw [Int.compare_eq_gt]; omega

/-- How a number stands to 0. -/
theorem pt_zero_order {x : Nat} {n : Int} (h : Pt x n) : FloatKind.f64.format.order 0 x = some (compare 0 n) ∧ FloatKind.f64.format.order x 0 = some (compare n 0) := by
  show (double.read 0).order (double.read x) = _ ∧ (double.read x).order (double.read 0) = _
  obtain ⟨k0, hk0⟩ := read_zero
  rw [hk0]
  rcases h with ⟨h0, h1, rfl⟩ | ⟨h0, h1⟩ | ⟨h0, h1⟩
  · obtain ⟨k, hk⟩ := read_nat (n := n.toNat) (by omega)
    rw [hk, order_nat, order_nat]
    obtain ⟨m, rfl⟩ := Int.eq_ofNat_of_zero_le h0
    simp only [Int.toNat_natCast]
    constructor
    · congr 1
      rcases Nat.eq_zero_or_pos m with rfl | hm
      · rfl
      · rw [Nat.compare_eq_lt.2 hm]; symm; rw [Int.compare_eq_lt]; omega
    · congr 1
      rcases Nat.eq_zero_or_pos m with rfl | hm
      · rfl
      · rw [Nat.compare_eq_gt.2 hm]; symm; rw [Int.compare_eq_gt]; omega
  · rw [order_above_lt h1 (by omega), order_above_gt h1 (by omega)]
    constructor
    · congr 1; symm; rw [Int.compare_eq_lt]; omega
    · congr 1; symm; rw [Int.compare_eq_gt]; omega
  · rw [(order_neg h1 _ _).1, (order_neg h1 _ _).2]
    constructor
    · congr 1; symm; rw [Int.compare_eq_gt]; omega
    · congr 1; symm; rw [Int.compare_eq_lt]; omega

theorem cmp_le {n m : Int} : (some (compare n m) == some Ordering.lt || some (compare n m) == some Ordering.eq) = decide (n ≤ m) := by
  rcases Int.lt_trichotomy n m with h | h | h
  · rw [Int.compare_eq_lt.2 h, decide_eq_true (by omega)]; rfl
  · rw [Int.compare_eq_eq.2 h, decide_eq_true (by omega)]; rfl
  · rw [Int.compare_eq_gt.2 h, decide_eq_false (by omega)]; rfl
theorem cmp_eq {n m : Int} : (some (compare n m) == some Ordering.eq) = decide (n = m) := by
  rcases Int.lt_trichotomy n m with h | h | h
  · rw [Int.compare_eq_lt.2 h, decide_eq_false (by omega)]; rfl
  · rw [Int.compare_eq_eq.2 h, decide_eq_true (by omega)]; rfl
  · rw [Int.compare_eq_gt.2 h, decide_eq_false (by omega)]; rfl
theorem cmp_gt {n m : Int} : (some (compare n m) == some Ordering.gt) = decide (m < n) := by
  rcases Int.lt_trichotomy n m with h | h | h
  · rw [Int.compare_eq_lt.2 h, decide_eq_false (by omega)]; rfl
  · rw [Int.compare_eq_eq.2 h, decide_eq_false (by omega)]; rfl
  · rw [Int.compare_eq_gt.2 h, decide_eq_true (by omega)]; rfl

/-- 0 <= x. -/
theorem pt_ge0 {x : Nat} {n : Int} (h : Pt x n) : (FloatKind.f64.format.order 0 x == some .lt || FloatKind.f64.format.order 0 x == some .eq) = decide (0 ≤ n) := by
  rw [(pt_zero_order h).1, cmp_le]
/-- x == 0. -/
theorem pt_eq0 {x : Nat} {n : Int} (h : Pt x n) : (FloatKind.f64.format.order x 0 == some .eq) = decide (n = 0) := by
  rw [(pt_zero_order h).2, cmp_eq]
/-- x > 0. -/
theorem pt_gt0 {x : Nat} {n : Int} (h : Pt x n) : (FloatKind.f64.format.order x 0 == some .gt) = decide (0 < n) := by
  rw [(pt_zero_order h).2, cmp_gt]
/-- x <= 2^50, of what is not below nought. -/
theorem pt_most {x : Nat} {n : Int} (h : Pt x n) (h0 : 0 ≤ n) : (FloatKind.f64.format.order x 4832362400168542208 == some .lt || FloatKind.f64.format.order x 4832362400168542208 == some .eq) = decide (n ≤ 1125899906842624) := by
  show ((double.read x).order (double.read 4832362400168542208) == some .lt || (double.read x).order (double.read 4832362400168542208) == some .eq) = _
  rw [← rung50]
  obtain ⟨j, hj⟩ := read_nat (n := 2 ^ 50) (by omega)
  rw [hj]
  rcases h with ⟨_, h1, rfl⟩ | ⟨h2, h1⟩ | ⟨h2, h1⟩
  · obtain ⟨k, hk⟩ := read_nat (n := n.toNat) (by omega)
    rw [hk, order_nat, decide_eq_true (by omega)]
    rcases Nat.lt_or_ge n.toNat (2 ^ 50) with h | h
    · rw [Nat.compare_eq_lt.2 h]; rfl
    · rw [Nat.compare_eq_eq.2 (show n.toNat = 2 ^ 50 by omega)]; rfl
  · rw [order_above_gt h1 (Nat.le_refl _), decide_eq_false (by omega)]; rfl
  · omega
theorem order_self (d : Datum) (h : ∀ s t, d ≠ .nan s t) : d.order d = some .eq := by
  cases d with
  | nan s t => exact absurd rfl (h s t)
  | infinity s => show some (compare s.toNat s.toNat) = _; rw [Nat.compare_eq_eq.2 rfl]
  | number s m p => show some (compare _ _) = _; rw [Int.compare_eq_eq.2 rfl]
/-- x == x. -/
theorem pt_self {x : Nat} {n : Int} (h : Pt x n) : (FloatKind.f64.format.order x x == some .eq) = true := by
  show ((double.read x).order (double.read x) == some .eq) = true
  rw [order_self]
  · rfl
  · intro s t
    rcases h with ⟨h0, h1, rfl⟩ | ⟨_, h⟩ | ⟨_, h⟩
    · obtain ⟨k, hk⟩ := read_nat (n := n.toNat) (by omega)
      rw [hk]; exact Datum.noConfusion
    · rcases (read_above h).1 with h | ⟨_, _, h, _⟩ <;> (rw [h]; exact Datum.noConfusion)
    · rcases h with h | ⟨_, _, _, h⟩ <;> (rw [h]; exact Datum.noConfusion)
/-- x == x. -/
theorem pt_same {x : Nat} {n : Int} (h : Pt x n) (h0 : 0 ≤ n) (h1 : n ≤ 2 ^ 50) : (FloatKind.f64.format.order x x == some .eq) = true := by
  show ((double.read x).order (double.read x) == some .eq) = true
  obtain rfl := h.in_ h0 h1
  obtain ⟨k, hk⟩ := read_nat (n := n.toNat) (by omega)
  rw [hk, order_nat, Nat.compare_eq_eq.2 rfl]; rfl
end Flt
