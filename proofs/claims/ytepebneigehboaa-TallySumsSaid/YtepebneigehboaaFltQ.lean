/- Parts of a tally: rounded down, made whole, added, taken off, multiplied. -/
import Derived.Test.YtepebneigehboaaFltP
set_option maxRecDepth 20000
namespace Flt
open Ieee Go

theorem pt_read {x : Nat} {n : Int} (h : Pt x n) (h0 : 0 ≤ n) (h1 : n ≤ 2 ^ 50) : ∃ k : Nat, double.read x = .number false (n.toNat * 2 ^ k) (-(k : Int)) := by
  obtain rfl := h.in_ h0 h1
  exact read_nat (by omega)

theorem cut_down (way : Toward) (n k : Nat) : way.cut false ((n * 2 ^ k) <<< (-(k : Int)).toNat) (-(-(k : Int))).toNat = n := by
  rw [show (-(k : Int)).toNat = 0 from by omega, show (-(-(k : Int))).toNat = k from by omega, Nat.shiftLeft_zero]
  exact cut_exact way false n k

/-- math.Floor of a count. -/
theorem pt_floor {x : Nat} {n : Int} (h : Pt x n) (h0 : 0 ≤ n) (h1 : n ≤ 2 ^ 50) : ∃ d, FloatKind.f64.decode x = d ∧ (∃ s m p, d = .number s m p) ∧ FloatKind.f64.encode (d.integral .down) = x := by
  obtain ⟨k, hk⟩ := pt_read h h0 h1
  refine ⟨_, rfl, ⟨_, _, _, hk⟩, ?_⟩
  show double.write ((double.read x).integral .down) = x
  rw [hk]
  show double.nearest false (Toward.down.cut false ((n.toNat * 2 ^ k) <<< (-(k : Int)).toNat) (-(-(k : Int))).toNat) 0 = x
  rw [cut_down]
  have := nearest_exact false (n := n.toNat) (by omega) 0
  rw [Nat.pow_zero, Nat.mul_one, word_false, ← h.in_ h0 h1] at this
  exact this

/-- int(x) of a count. -/
theorem pt_toInt {x : Nat} {n : Int} (h : Pt x n) (h0 : 0 ≤ n) (h1 : n ≤ 2 ^ 50) : floatToIntVal .f64 x .i64 = some n := by
  obtain ⟨k, hk⟩ := pt_read h h0 h1
  have e : (FloatKind.f64.decode x).toInt .zero = some n := by
    show (double.read x).toInt .zero = some n
    rw [hk]
    show some (signed false (Toward.zero.cut false ((n.toNat * 2 ^ k) <<< (-(k : Int)).toNat) (-(-(k : Int))).toNat) 0) = _
    rw [cut_down, signed_false, Nat.pow_zero, Nat.mul_one]
    congr 1; omega
  unfold floatToIntVal
  rw [e]
  have : IntKind.i64.min ≤ n ∧ n ≤ IntKind.i64.max := ⟨Int.le_trans (by decide) h0, Int.le_trans h1 (by decide)⟩
  simp only [this, and_self, if_true]

/-- The sum of what is none below nought, of which one is a count. -/
theorem pt_add {x y : Nat} {n m : Int} (hx : Pt x n) (hy : Pt y m) (hn : 0 ≤ n) (h0 : 0 ≤ m) (h1 : m ≤ 2 ^ 50) : ∃ z, floatBits .add .f64 x y = some z ∧ Pt z (n + m) := by
  show ∃ z, ((double.read x).sum (double.read y)).map double.write = some z ∧ _
  obtain ⟨j, hj⟩ := pt_read hy h0 h1
  rw [hj]
  rcases hx with ⟨_, hn1, rfl⟩ | ⟨h2, hx⟩ | ⟨h2, _⟩
  · obtain ⟨k, hk⟩ := read_nat (n := n.toNat) (by omega)
    rw [hk]
    refine ⟨_, rfl, ?_⟩
    show Pt (double.nearest _ _ _) _
    simp only [min_places, signed_false]
    rw [up_nat n.toNat k _ (Nat.le_max_left _ _), up_nat m.toNat j _ (Nat.le_max_right _ _)]
    have e : ((n.toNat * 2 ^ (max k j) : Nat) : Int) + ((m.toNat * 2 ^ (max k j) : Nat) : Int) = ((((n + m).toNat) * 2 ^ (max k j) : Nat) : Int) := by
      rw [show (n + m).toNat = n.toNat + m.toNat from by omega, Nat.add_mul]; push_cast; rfl
    rw [e, Int.natAbs_natCast]
    have en : (if (((n + m).toNat * 2 ^ (max k j) : Nat) : Int) = 0 then (false && false) else decide ((((n + m).toNat * 2 ^ (max k j) : Nat) : Int) < 0)) = false := by
      split
      · rfl
      · exact decide_eq_false (by omega)
    rw [en]
    have := pt_write (n + m).toNat (max k j)
    rwa [show (((n + m).toNat : Nat) : Int) = n + m from by omega] at this
  · rcases (read_above hx).1 with h | ⟨a, q, h, hq⟩
    · rw [h]
      refine ⟨_, rfl, Or.inr (Or.inl ⟨by omega, ?_⟩)⟩
      show Above double.infRung
      exact ⟨by rw [infRung_double]; unfold W50; omega, Nat.le_refl _⟩
    · rw [h]
      refine ⟨_, rfl, Or.inr (Or.inl ⟨by omega, ?_⟩)⟩
      show Above (double.nearest _ _ _)
      simp only [min_above, signed_false]
      rw [up_nat m.toNat j _ (Nat.le_max_left _ _), above_up]
      have hs := above_scaled (n := 2 ^ 50) (M := max j (2 - q)) hq (Nat.le_refl _) (by omega)
      generalize hM : max j (2 - q) = M at *
      have en : (if (((a * 2 ^ (q + M - 2) : Nat) : Int) + ((m.toNat * 2 ^ M : Nat) : Int)) = 0 then (false && false) else decide ((((a * 2 ^ (q + M - 2) : Nat) : Int) + ((m.toNat * 2 ^ M : Nat) : Int)) < 0)) = false := by
        split
        · rfl
        · exact decide_eq_false (by omega)
      rw [en]
      refine nearest_above (J := M) (by omega) ?_
      rw [show (-(M : Int) + (M : Int) + 2).toNat = 2 from by omega]
      have e : ((((a * 2 ^ (q + M - 2) : Nat) : Int) + ((m.toNat * 2 ^ M : Nat) : Int))).natAbs = a * 2 ^ (q + M - 2) + m.toNat * 2 ^ M := by omega
      rw [e]
      have h3 : (2 ^ 52 + 1) * 2 ^ M ≤ a * 2 ^ (q + M - 2) * 2 ^ 2 := by
        rw [Nat.mul_assoc, ← Nat.pow_add, show q + M - 2 + 2 = q + M from by omega, Nat.pow_add, ← Nat.mul_assoc]
        exact Nat.mul_le_mul_right _ hq
      exact Nat.le_trans h3 (Nat.mul_le_mul_right _ (Nat.le_add_right _ _))
  · omega

/-- What one count has more than another one. -/
theorem pt_sub {x y : Nat} {n m : Int} (hx : Pt x n) (hy : Pt y m) (hn : 0 ≤ n) (hn1 : n ≤ 2 ^ 50) (h0 : 0 ≤ m) (h1 : m ≤ 2 ^ 50) : ∃ z, floatBits .sub .f64 x y = some z ∧ Pt z (n - m) := by
  show ∃ z, ((double.read x).sum (double.read y).opposite).map double.write = some z ∧ _
  obtain ⟨j, hj⟩ := pt_read hy h0 h1
  obtain ⟨k, hk⟩ := pt_read hx hn hn1
  rw [hj, hk]
  refine ⟨_, rfl, ?_⟩
  show Pt (double.nearest _ _ _) _
  simp only [min_places, signed_false, Bool.not_false, signed_true]
  rw [up_nat n.toNat k _ (Nat.le_max_left _ _), up_nat m.toNat j _ (Nat.le_max_right _ _)]
  generalize max k j = M
  have hp := Nat.two_pow_pos M
  rcases Nat.lt_or_ge n.toNat m.toNat with h | h
  · have hlt := Nat.mul_lt_mul_of_pos_right h hp
    have e : (((n.toNat * 2 ^ M : Nat) : Int) + -((m.toNat * 2 ^ M : Nat) : Int)).natAbs = (m.toNat - n.toNat) * 2 ^ M := by
      rw [Nat.sub_mul]; omega
    rw [e, if_neg (by omega), decide_eq_true (by omega)]
    have := pt_neg (n := m.toNat - n.toNat) (by omega) M
    rwa [show -((m.toNat - n.toNat : Nat) : Int) = n - m from by omega] at this
  · have hle := Nat.mul_le_mul_right (2 ^ M) h
    have e : (((n.toNat * 2 ^ M : Nat) : Int) + -((m.toNat * 2 ^ M : Nat) : Int)).natAbs = (n.toNat - m.toNat) * 2 ^ M := by
      rw [Nat.sub_mul]; omega
    have en : (if ((n.toNat * 2 ^ M : Nat) : Int) + -((m.toNat * 2 ^ M : Nat) : Int) = 0 then (false && true) else decide (((n.toNat * 2 ^ M : Nat) : Int) + -((m.toNat * 2 ^ M : Nat) : Int) < 0)) = false := by
      split
      · rfl
      · exact decide_eq_false (by omega)
    rw [e, en]
    have := pt_write (n.toNat - m.toNat) M
    rwa [show ((n.toNat - m.toNat : Nat) : Int) = n - m from by omega] at this

theorem pt_zero : Pt 0 0 := Or.inl ⟨by omega, by omega, by decide⟩

/-- Nothing taken off what is none below nought. -/
theorem pt_sub0 {x : Nat} {n : Int} (hx : Pt x n) (hn : 0 ≤ n) : ∃ z, floatBits .sub .f64 x 0 = some z ∧ Pt z n := by
  by_cases hn1 : n ≤ 2 ^ 50
  · obtain ⟨z, hz, hp⟩ := pt_sub hx pt_zero hn hn1 (by omega) (by omega)
    exact ⟨z, hz, by simpa using hp⟩
  · have hx : Above x := by
      rcases hx with ⟨_, h, _⟩ | ⟨_, h⟩ | ⟨h, _⟩
      · omega
      · exact h
      · omega
    show ∃ z, ((double.read x).sum (double.read 0).opposite).map double.write = some z ∧ _
    obtain ⟨k0, hk0⟩ := read_zero
    rw [hk0]
    rcases (read_above hx).1 with h | ⟨a, q, h, hq⟩
    · rw [h]
      refine ⟨_, rfl, Or.inr (Or.inl ⟨by omega, ?_⟩)⟩
      show Above double.infRung
      exact ⟨by rw [infRung_double]; unfold W50; omega, Nat.le_refl _⟩
    · rw [h]
      refine ⟨_, rfl, Or.inr (Or.inl ⟨by omega, ?_⟩)⟩
      show Above (double.nearest _ _ _)
      simp only [min_above, signed_false, Bool.not_false, signed_true]
      rw [above_up]
      have hs := above_scaled (n := 2 ^ 50) (M := max k0 (2 - q)) hq (Nat.le_refl _) (by omega)
      have hz : ∀ u, 0 * 2 ^ k0 * 2 ^ u = 0 := fun u => by rw [Nat.zero_mul, Nat.zero_mul]
      rw [hz]
      generalize hM : max k0 (2 - q) = M at *
      have en : (if (((a * 2 ^ (q + M - 2) : Nat) : Int) + -((0 : Nat) : Int)) = 0 then (false && true) else decide ((((a * 2 ^ (q + M - 2) : Nat) : Int) + -((0 : Nat) : Int)) < 0)) = false := by
        split
        · rfl
        · exact decide_eq_false (by omega)
      rw [en]
      refine nearest_above (J := M) (by omega) ?_
      rw [show (-(M : Int) + (M : Int) + 2).toNat = 2 from by omega]
      have e : ((((a * 2 ^ (q + M - 2) : Nat) : Int) + -((0 : Nat) : Int))).natAbs = a * 2 ^ (q + M - 2) := by omega
      rw [e, Nat.mul_assoc, ← Nat.pow_add, show q + M - 2 + 2 = q + M from by omega, Nat.pow_add, ← Nat.mul_assoc]
      exact Nat.mul_le_mul_right _ hq

/-- Something none below nought, put to nothing. -/
theorem pt_add0 {x : Nat} {n : Int} (hx : Pt x n) (hn : 0 ≤ n) : ∃ z, floatBits .add .f64 0 x = some z ∧ Pt z n := by
  by_cases hn1 : n ≤ 2 ^ 50
  · obtain ⟨z, hz, hp⟩ := pt_add pt_zero hx (by omega) hn hn1
    exact ⟨z, hz, by simpa using hp⟩
  · have hx : Above x := by
      rcases hx with ⟨_, h, _⟩ | ⟨_, h⟩ | ⟨h, _⟩
      · omega
      · exact h
      · omega
    show ∃ z, ((double.read 0).sum (double.read x)).map double.write = some z ∧ _
    obtain ⟨k0, hk0⟩ := read_zero
    rw [hk0]
    rcases (read_above hx).1 with h | ⟨a, q, h, hq⟩
    · rw [h]
      refine ⟨_, rfl, Or.inr (Or.inl ⟨by omega, ?_⟩)⟩
      show Above double.infRung
      exact ⟨by rw [infRung_double]; unfold W50; omega, Nat.le_refl _⟩
    · rw [h]
      refine ⟨_, rfl, Or.inr (Or.inl ⟨by omega, ?_⟩)⟩
      show Above (double.nearest _ _ _)
      simp only [min_above', signed_false]
      rw [above_up]
      have hs := above_scaled (n := 2 ^ 50) (M := max k0 (2 - q)) hq (Nat.le_refl _) (by omega)
      have hz : ∀ u, 0 * 2 ^ k0 * 2 ^ u = 0 := fun u => by rw [Nat.zero_mul, Nat.zero_mul]
      rw [hz]
      generalize hM : max k0 (2 - q) = M at *
      have en : (if (((0 : Nat) : Int) + ((a * 2 ^ (q + M - 2) : Nat) : Int)) = 0 then (false && false) else decide ((((0 : Nat) : Int) + ((a * 2 ^ (q + M - 2) : Nat) : Int)) < 0)) = false := by
        split
        · rfl
        · exact decide_eq_false (by omega)
      rw [en]
      refine nearest_above (J := M) (by omega) ?_
      rw [show (-(M : Int) + (M : Int) + 2).toNat = 2 from by omega]
      have e : ((((0 : Nat) : Int) + ((a * 2 ^ (q + M - 2) : Nat) : Int))).natAbs = a * 2 ^ (q + M - 2) := by omega
      rw [e, Nat.mul_assoc, ← Nat.pow_add, show q + M - 2 + 2 = q + M from by omega, Nat.pow_add, ← Nat.mul_assoc]
      exact Nat.mul_le_mul_right _ hq

/-- A count so often. -/
theorem pt_mul {x y : Nat} {n m : Int} (hx : Pt x n) (hy : Pt y m) (hn : 0 ≤ n) (hn1 : n ≤ 2 ^ 50) (h0 : 0 ≤ m) (hf : y < double.infRung) : ∃ z, floatBits .mul .f64 x y = some z ∧ Pt z (n * m) := by
  show ∃ z, ((double.read x).product (double.read y)).map double.write = some z ∧ _
  obtain ⟨k, hk⟩ := pt_read hx hn hn1
  rw [hk]
  have en : (n * m).toNat = n.toNat * m.toNat := by
    obtain ⟨a, rfl⟩ := Int.eq_ofNat_of_zero_le hn
    obtain ⟨b, rfl⟩ := Int.eq_ofNat_of_zero_le h0
    exact Int.toNat_natCast (a * b)
  have hnm : 0 ≤ n * m := Int.mul_nonneg hn h0
  by_cases hm1 : m ≤ 2 ^ 50
  · obtain ⟨j, hj⟩ := pt_read hy h0 hm1
    rw [hj]
    refine ⟨_, rfl, ?_⟩
    show Pt (double.nearest false (n.toNat * 2 ^ k * (m.toNat * 2 ^ j)) (-(k : Int) + -(j : Int))) _
    have e : n.toNat * 2 ^ k * (m.toNat * 2 ^ j) = (n.toNat * m.toNat) * 2 ^ (k + j) := by
      rw [Nat.pow_add, Nat.mul_assoc, Nat.mul_assoc, ← Nat.mul_assoc (2 ^ k), Nat.mul_comm (2 ^ k) m.toNat, Nat.mul_assoc]
    rw [e, show -(k : Int) + -(j : Int) = -((k + j : Nat) : Int) from by omega, ← en]
    have := pt_write (n * m).toNat (k + j)
    rwa [show (((n * m).toNat : Nat) : Int) = n * m from by omega] at this
  · have hy : Above y := by
      rcases hy with ⟨_, h, _⟩ | ⟨_, h⟩ | ⟨h, _⟩
      · omega
      · exact h
      · omega
    rcases (read_above hy).1 with h | ⟨a, q, h, hq⟩
    · exact absurd h ((read_above hy).2 hf)
    · rw [h]
      refine ⟨_, rfl, ?_⟩
      show Pt (double.nearest false (n.toNat * 2 ^ k * a) (-(k : Int) + ((q : Int) - 2))) _
      by_cases hn0 : n = 0
      · subst hn0
        rw [show (0 : Int).toNat = 0 from rfl, Nat.zero_mul, Nat.zero_mul, Int.zero_mul]
        have : double.nearest false 0 (-(k : Int) + ((q : Int) - 2)) = 0 := by unfold Format.nearest; rw [if_pos rfl, word_false]
        rw [this]; exact pt_zero
      · have hbig : 2 ^ 50 < n * m := by
          have : 1 * m ≤ n * m := Int.mul_le_mul_of_nonneg_right (by omega) h0
          omega
        refine Or.inr (Or.inl ⟨hbig, nearest_above (J := k + 2) (by omega) ?_⟩)
        rw [show (-(k : Int) + ((q : Int) - 2) + ((k + 2 : Nat) : Int) + 2).toNat = q + 2 from by omega]
        have hn2 : 1 ≤ n.toNat := by omega
        calc (2 ^ 52 + 1) * 2 ^ (k + 2) ≤ (a * 2 ^ q) * 2 ^ (k + 2) := Nat.mul_le_mul_right _ hq
          _ = 1 * 2 ^ k * a * 2 ^ (q + 2) := by
            rw [Nat.pow_add, Nat.pow_add, Nat.one_mul, Nat.mul_comm (2 ^ k) a]
            simp only [Nat.mul_assoc, Nat.mul_left_comm]
          _ ≤ n.toNat * 2 ^ k * a * 2 ^ (q + 2) := Nat.mul_le_mul_right _ (Nat.mul_le_mul_right _ (Nat.mul_le_mul_right _ hn2))
end Flt
