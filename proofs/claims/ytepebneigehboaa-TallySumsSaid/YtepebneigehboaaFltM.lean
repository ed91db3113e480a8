/- Floats of whole numbers: which words they have, and that sums and products of them up to 2^50 are exact, and what is above stays above. -/
import Derived.Laws.ComplexArith
set_option maxRecDepth 20000
namespace Flt
open Ieee

theorem cut_ge (neg : Bool) (n drop : Nat) : n / 2 ^ drop ≤ Toward.even.cut neg n drop := by
  unfold Toward.cut
  simp only [Nat.one_shiftLeft]
  rcases Nat.le_total drop (n.log2 + 2) with h | h
  · rw [Nat.min_eq_left h]; exact Nat.le_add_right _ _
  · have h1 : n < 2 ^ drop := Nat.lt_of_lt_of_le Nat.lt_log2_self (Nat.pow_le_pow_right (by decide) (by omega))
    rw [Nat.div_eq_of_lt h1]; exact Nat.zero_le _

theorem cut_le (way : Toward) (neg : Bool) (n drop : Nat) : way.cut neg n drop ≤ n / 2 ^ drop + 1 := by
  unfold Toward.cut
  simp only [Nat.one_shiftLeft]
  have hb : ∀ b : Bool, b.toNat ≤ 1 := by decide
  rcases Nat.le_total drop (n.log2 + 2) with h | h
  · rw [Nat.min_eq_left h]; exact Nat.add_le_add_left (hb _) _
  · have h2 : n < 2 ^ (n.log2 + 2) := Nat.lt_of_lt_of_le Nat.lt_log2_self (Nat.pow_le_pow_right (by decide) (by omega))
    rw [Nat.min_eq_right h, Nat.div_eq_of_lt h2]; exact Nat.le_trans (Nat.add_le_add_left (hb _) 0) (Nat.le_trans (Nat.le_of_eq (Nat.zero_add _)) (Nat.le_add_left 1 _))

/-- What is whole behind the cut is cut without a rest. -/
theorem cut_exact (way : Toward) (neg : Bool) (n drop : Nat) : way.cut neg (n * 2 ^ drop) drop = n := by
  unfold Toward.cut
  simp only [Nat.one_shiftLeft]
  rcases Nat.eq_zero_or_pos n with rfl | hn
  · cases way <;> simp
    all_goals (intro h; have := Nat.two_pow_pos (min drop 2); omega)
  · have h1 : drop ≤ (n * 2 ^ drop).log2 := by
      apply (Nat.le_log2 (Nat.ne_of_gt (Nat.mul_pos hn (Nat.two_pow_pos _)))).2
      exact Nat.le_mul_of_pos_left _ hn
    rw [Nat.min_eq_left (by omega), Nat.mul_div_cancel _ (Nat.two_pow_pos _), Nat.mul_mod_left]
    have := Nat.two_pow_pos drop
    cases way <;> simp
    all_goals (intro h; omega)

theorem log2_mul_pow {n : Nat} (hn : n ≠ 0) (k : Nat) : (n * 2 ^ k).log2 = n.log2 + k := by
  have h0 : n * 2 ^ k ≠ 0 := Nat.ne_of_gt (Nat.mul_pos (Nat.pos_of_ne_zero hn) (Nat.two_pow_pos _))
  apply Nat.le_antisymm
  · apply Nat.le_of_lt_succ
    rw [Nat.log2_lt h0, Nat.succ_eq_add_one, show n.log2 + k + 1 = (n.log2 + 1) + k from by omega, Nat.pow_add]
    exact Nat.mul_lt_mul_of_pos_right Nat.lt_log2_self (Nat.two_pow_pos _)
  · rw [Nat.le_log2 h0, Nat.pow_add]
    exact Nat.mul_le_mul_right _ ((Nat.le_log2 hn).1 (Nat.le_refl _))

/-- The rung of a whole number below 2^53. -/
def rung (n : Nat) : Nat := if n = 0 then 0 else (n.log2 + 1022) * 2 ^ 52 + n * 2 ^ (52 - n.log2)

theorem log2_lt53 {n : Nat} (h : n < 2 ^ 53) : n.log2 ≤ 52 := by
  rcases Nat.eq_zero_or_pos n with rfl | hn
  · decide
  · exact Nat.le_of_lt_succ ((Nat.log2_lt (Nat.ne_of_gt hn)).2 h)

theorem rung_bounds {n : Nat} (hn : n ≠ 0) (h : n < 2 ^ 53) : 2 ^ 52 ≤ n * 2 ^ (52 - n.log2) ∧ n * 2 ^ (52 - n.log2) < 2 ^ 53 := by
  have hl := log2_lt53 h
  constructor
  · have h1 : 2 ^ n.log2 ≤ n := (Nat.le_log2 hn).1 (Nat.le_refl _)
    calc 2 ^ 52 = 2 ^ n.log2 * 2 ^ (52 - n.log2) := by rw [← Nat.pow_add]; congr 1; omega
      _ ≤ _ := Nat.mul_le_mul_right _ h1
  · calc n * 2 ^ (52 - n.log2) < 2 ^ (n.log2 + 1) * 2 ^ (52 - n.log2) := Nat.mul_lt_mul_of_pos_right Nat.lt_log2_self (Nat.two_pow_pos _)
      _ = 2 ^ 53 := by rw [← Nat.pow_add]; congr 1; omega

theorem le_inf {z y : Nat} (h : z ≤ 1074 * 2 ^ 52) (h' : y < 2 ^ 53) : z + y ≤ 2047 * 2 ^ 52 := by omega
theorem leastPlace_double : double.leastPlace = -1074 := by decide
theorem binade_double : double.binade = 2 ^ 52 := rfl
theorem infRung_double : double.infRung = 2047 * 2 ^ 52 := rfl
theorem sw_double : double.signWeight = 2 ^ 63 := rfl

/-- Written, a whole number below 2^53, in whatever units, is its rung. -/
theorem nearest_exact (neg : Bool) {n : Nat} (h : n < 2 ^ 53) (k : Nat) : double.nearest neg (n * 2 ^ k) (-(k : Int)) = double.word neg (rung n) := by
  unfold Format.nearest
  rcases Nat.eq_zero_or_pos n with rfl | hn
  · simp [rung]
  · have hn' : n ≠ 0 := Nat.ne_of_gt hn
    have h0 : n * 2 ^ k ≠ 0 := Nat.ne_of_gt (Nat.mul_pos hn (Nat.two_pow_pos _))
    have hl := log2_lt53 h
    have hb := rung_bounds hn' h
    simp only [h0, if_false]
    rw [log2_mul_pow hn', leastPlace_double, binade_double, infRung_double]
    have hlast : max (-(k : Int) + ((n.log2 + k : Nat) : Int) - (double.fractionBits : Int)) (-1074) = (n.log2 : Int) - 52 := by
      show max (-(k : Int) + ((n.log2 + k : Nat) : Int) - ((52 : Nat) : Int)) (-1074) = _
      omega
    rw [hlast]
    have hkept : Toward.even.cut neg ((n * 2 ^ k) <<< (-(k : Int) - ((n.log2 : Int) - 52)).toNat) ((n.log2 : Int) - 52 - -(k : Int)).toNat = n * 2 ^ (52 - n.log2) := by
      rw [Nat.shiftLeft_eq]
      rcases Nat.le_total k (52 - n.log2) with hk | hk
      · rw [show ((n.log2 : Int) - 52 - -(k : Int)).toNat = 0 from by omega, show (-(k : Int) - ((n.log2 : Int) - 52)).toNat = 52 - n.log2 - k from by omega]
        have := cut_exact .even neg (n * 2 ^ k * 2 ^ (52 - n.log2 - k)) 0
        rw [Nat.pow_zero, Nat.mul_one] at this
        rw [this, Nat.mul_assoc, ← Nat.pow_add]
        congr 2; omega
      · rw [show (-(k : Int) - ((n.log2 : Int) - 52)).toNat = 0 from by omega, Nat.pow_zero, Nat.mul_one, show ((n.log2 : Int) - 52 - -(k : Int)).toNat = k - (52 - n.log2) from by omega]
        have := cut_exact .even neg (n * 2 ^ (52 - n.log2)) (k - (52 - n.log2))
        rw [Nat.mul_assoc, ← Nat.pow_add, show 52 - n.log2 + (k - (52 - n.log2)) = k from by omega] at this
        exact this
    rw [hkept, show ((n.log2 : Int) - 52 - -1074).toNat = n.log2 + 1022 from by omega]
    unfold rung
    rw [if_neg hn', Nat.min_eq_left]
    have : (n.log2 + 1022) * 2 ^ 52 ≤ 1074 * 2 ^ 52 := Nat.mul_le_mul_right _ (by omega)
    exact le_inf this hb.2

/-- The word of 2^50. -/
def W50 : Nat := 1073 * 2 ^ 52

theorem rung_lt {n : Nat} (h : n < 2 ^ 53) : rung n < double.infRung := by
  unfold rung
  rw [infRung_double]
  split
  · decide
  · rename_i hn
    have hl := log2_lt53 h
    have hb := rung_bounds hn h
    have : (n.log2 + 1022) * 2 ^ 52 ≤ 1074 * 2 ^ 52 := Nat.mul_le_mul_right _ (by omega)
    omega

/-- Read, the rung of a whole number below 2^53 is the number, in some units. -/
theorem read_rung (neg : Bool) {n : Nat} (h : n < 2 ^ 53) : ∃ k : Nat, double.read (double.word neg (rung n)) = .number neg (n * 2 ^ k) (-(k : Int)) := by
  have hsw : double.word neg (rung n) / double.signWeight % 2 = (if neg then 1 else 0) ∧ double.word neg (rung n) % double.signWeight = rung n := by
    have := rung_lt h
    rw [infRung_double] at this
    unfold Format.word
    rw [sw_double]
    cases neg <;> simp <;> omega
  unfold Format.read
  simp only [hsw.1, hsw.2]
  have hneg : (((if neg = true then 1 else 0 : Nat)) == 1) = neg := by cases neg <;> rfl
  rw [hneg, binade_double]
  rcases Nat.eq_zero_or_pos n with rfl | hn
  · obtain ⟨K, hK⟩ : ∃ K : Nat, (K : Int) = 1074 := ⟨1074, rfl⟩
    refine ⟨K, ?_⟩
    rw [show rung 0 = 0 from rfl, if_pos (by decide), leastPlace_double, Nat.zero_mul, hK]
  · have hn' : n ≠ 0 := Nat.ne_of_gt hn
    have hl := log2_lt53 h
    have hb := rung_bounds hn' h
    have hr : rung n = (n.log2 + 1022) * 2 ^ 52 + n * 2 ^ (52 - n.log2) := by unfold rung; rw [if_neg hn']
    refine ⟨52 - n.log2, ?_⟩
    have e1 : ¬ rung n < 2 ^ 52 := by rw [hr]; omega
    have e2 : rung n % 2 ^ 52 = n * 2 ^ (52 - n.log2) - 2 ^ 52 := by rw [hr]; omega
    have e3 : rung n / 2 ^ 52 = n.log2 + 1023 := by rw [hr]; omega
    rw [if_neg e1, if_pos (rung_lt h), e2, e3, leastPlace_double]
    have ep : (-1074 : Int) + ((n.log2 + 1023 - 1 : Nat) : Int) = -((52 - n.log2 : Nat) : Int) := by clear hr e1 e2 e3 hsw hneg hb; omega
    rw [Nat.add_sub_cancel' hb.1, ep]

/-- What is above 2^50 in the order of words. -/
def Above (x : Nat) : Prop := W50 + 1 ≤ x ∧ x ≤ double.infRung

theorem word_false (r : Nat) : double.word false r = r := by unfold Format.word; exact if_neg (by decide)

theorem above_min {X : Nat} (h : W50 + 1 ≤ X) : Above (min X (2047 * 2 ^ 52)) := by
  refine ⟨Nat.le_min.2 ⟨h, by unfold W50; omega⟩, ?_⟩
  rw [infRung_double]; exact Nat.min_le_right _ _

theorem nearest_above {m J : Nat} {p : Int} (hp : 0 ≤ p + J) (h : (2 ^ 52 + 1) * 2 ^ J ≤ m * 2 ^ (p + J + 2).toNat) : Above (double.nearest false m p) := by
  have hm : m ≠ 0 := by
    rintro rfl
    have := Nat.two_pow_pos J
    simp at h; omega
  unfold Format.nearest
  simp only [hm, if_false]
  have hL : (50 : Int) ≤ p + m.log2 := by
    have h1 : 52 + J ≤ (m * 2 ^ (p + J + 2).toNat).log2 := by
      rw [Nat.le_log2 (Nat.ne_of_gt (Nat.mul_pos (Nat.pos_of_ne_zero hm) (Nat.two_pow_pos _))), Nat.pow_add]
      exact Nat.le_trans (Nat.mul_le_mul_right _ (by omega)) h
    rw [log2_mul_pow hm] at h1
    omega
  rw [leastPlace_double, binade_double, infRung_double]
  have hlast : max (p + (m.log2 : Int) - (double.fractionBits : Int)) (-1074) = p + (m.log2 : Int) - 52 := by
    show max (p + (m.log2 : Int) - ((52 : Nat) : Int)) (-1074) = _
    omega
  rw [hlast]
  obtain ⟨L, hLe⟩ : ∃ L : Nat, p + (m.log2 : Int) = L := ⟨(p + (m.log2 : Int)).toNat, by omega⟩
  rw [hLe] at hL ⊢
  have hk := cut_ge false (m <<< (p - ((L : Int) - 52)).toNat) ((L : Int) - 52 - p).toNat
  rw [word_false]
  have hx : ((L : Int) - 52 - -1074).toNat = L + 1022 := by omega
  rw [hx]
  have hlow : 2 ^ m.log2 ≤ m := (Nat.le_log2 hm).1 (Nat.le_refl _)
  refine above_min ?_
  have key : W50 + 1 ≤ (L + 1022) * 2 ^ 52 + m <<< (p - ((L : Int) - 52)).toNat / 2 ^ ((L : Int) - 52 - p).toNat := by
    rw [Nat.shiftLeft_eq]
    have big : 2 ^ 52 ≤ m * 2 ^ (p - ((L : Int) - 52)).toNat / 2 ^ ((L : Int) - 52 - p).toNat := by
      rw [Nat.le_div_iff_mul_le (Nat.two_pow_pos _), ← Nat.pow_add]
      calc 2 ^ (52 + ((L : Int) - 52 - p).toNat) = 2 ^ (m.log2 + (p - ((L : Int) - 52)).toNat) := by congr 1; omega
        _ = 2 ^ m.log2 * 2 ^ (p - ((L : Int) - 52)).toNat := Nat.pow_add ..
        _ ≤ _ := Nat.mul_le_mul_right _ hlow
    rcases Nat.lt_or_ge 50 L with h51 | h51
    · have : 1073 * 2 ^ 52 ≤ (L + 1022) * 2 ^ 52 := Nat.mul_le_mul_right _ (by omega)
      unfold W50; omega
    · have hL50 : L = 50 := by omega
      subst hL50
      have bigger : 2 ^ 52 + 1 ≤ m * 2 ^ (p - (((50 : Nat) : Int) - 52)).toNat / 2 ^ (((50 : Nat) : Int) - 52 - p).toNat := by
        rw [Nat.le_div_iff_mul_le (Nat.two_pow_pos _)]
        refine Nat.le_of_mul_le_mul_right (c := 2 ^ J) ?_ (Nat.two_pow_pos _)
        calc (2 ^ 52 + 1) * 2 ^ (((50 : Nat) : Int) - 52 - p).toNat * 2 ^ J = ((2 ^ 52 + 1) * 2 ^ J) * 2 ^ (((50 : Nat) : Int) - 52 - p).toNat := by rw [Nat.mul_assoc, Nat.mul_comm (2 ^ _) (2 ^ J), ← Nat.mul_assoc]
          _ ≤ (m * 2 ^ (p + J + 2).toNat) * 2 ^ (((50 : Nat) : Int) - 52 - p).toNat := Nat.mul_le_mul_right _ h
          _ = m * 2 ^ (p - (((50 : Nat) : Int) - 52)).toNat * 2 ^ J := by
            rw [Nat.mul_assoc, Nat.mul_assoc, ← Nat.pow_add, ← Nat.pow_add]; congr 2; omega
      unfold W50; omega
  exact Nat.le_trans key (Nat.add_le_add_left hk _)

/-- What a word above stands for. -/
def AboveD (d : Datum) : Prop := d = .infinity false ∨ ∃ (m : Nat) (q : Nat), d = .number false m ((q : Int) - 2) ∧ 2 ^ 52 + 1 ≤ m * 2 ^ q

theorem read_above {x : Nat} (h : Above x) : AboveD (double.read x) ∧ (x < double.infRung → double.read x ≠ .infinity false) := by
  obtain ⟨h1, h2⟩ := h
  rw [infRung_double] at h2
  unfold W50 at h1
  have e0 : x / double.signWeight % 2 = 0 ∧ x % double.signWeight = x := by rw [sw_double]; omega
  unfold Format.read
  simp only [e0.1, e0.2]
  rw [binade_double, infRung_double, leastPlace_double]
  have e1 : ¬ x < 2 ^ 52 := by omega
  rw [if_neg e1]
  rcases Nat.lt_or_ge x (2047 * 2 ^ 52) with h3 | h3
  · rw [if_pos h3]
    refine ⟨Or.inr ⟨2 ^ 52 + x % 2 ^ 52, x / 2 ^ 52 - 1073, ?_, ?_⟩, fun _ => by simp⟩
    · simp; omega
    · rcases Nat.lt_or_ge (x / 2 ^ 52) 1074 with h4 | h4
      · have : x / 2 ^ 52 = 1073 := by omega
        rw [this]; simp; omega
      · obtain ⟨q, hq⟩ : ∃ q, x / 2 ^ 52 - 1073 = q + 1 := ⟨x / 2 ^ 52 - 1074, by omega⟩
        rw [hq, Nat.pow_succ]
        have : 1 ≤ 2 ^ q := Nat.two_pow_pos _
        calc 2 ^ 52 + 1 ≤ 2 ^ 52 * (1 * 2) := by omega
          _ ≤ (2 ^ 52 + x % 2 ^ 52) * (2 ^ q * 2) := Nat.mul_le_mul (by omega) (Nat.mul_le_mul_right _ this)
  · have h5 : x = 2047 * 2 ^ 52 := by omega
    subst h5
    refine ⟨Or.inl (by simp), fun h => absurd h (by omega)⟩
end Flt
