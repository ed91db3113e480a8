/- K7: CrcM CrcA CrcB CrcC CrcD -/
import Derived.Test.YtncomjeidlahlaaDoorChecked
import Derived.Test.YtncomjeidlahlaaDoorK1
import Derived.Laws.BitsAllLaws
import Derived.Laws.Tables
import Derived.Deep.WholeRow
import Derived.Great.BuildSlice
import Derived.Lib.SmallJoins
import Derived.Deep.RegionLaw
import Derived.Maps.AppendAt
/- CRC-32C as plain numbers: states, rows of bytes, sums, bursts. -/
/- The contracts of package crc and of the document's: states and sums. -/
/- Zeros and Join: states times states. -/
/- Sum, Join, Parts; the document's Zeros. -/
/- Turn: digits turned about. -/
namespace Go.Proofs.YtncomjeidlahlaaDoor.CrcM
set_option linter.unusedVariables false
def POLY : Nat := 2197175160
/-- One digit goes out. -/
def cs (x : Nat) : Nat := x / 2 ^^^ (if x % 2 = 1 then POLY else 0)
def csn : Nat → Nat → Nat
  | 0, x => x
  | k + 1, x => csn k (cs x)
theorem xor4 (a b c d : Nat) : (a ^^^ b) ^^^ (c ^^^ d) = (a ^^^ c) ^^^ (b ^^^ d) := by
  rw [Nat.xor_assoc, Nat.xor_assoc]; congr 1
  rw [← Nat.xor_assoc, ← Nat.xor_assoc, Nat.xor_comm b c]
theorem cs_xor (a b : Nat) : cs (a ^^^ b) = cs a ^^^ cs b := by
  unfold cs
  rw [Nat.xor_div_two, xor4]
  congr 1
  have h : (a ^^^ b) % 2 = (a % 2 + b % 2) % 2 := by
    have := Nat.xor_mod_two_eq_one (a := a) (b := b)
    omega
  rcases Nat.mod_two_eq_zero_or_one a with ha | ha <;> rcases Nat.mod_two_eq_zero_or_one b with hb | hb <;> simp [h, ha, hb]
theorem csn_xor (k a b : Nat) : csn k (a ^^^ b) = csn k a ^^^ csn k b := by
  induction k generalizing a b with
  | zero => rfl
  | succ k ih => rw [csn, cs_xor, ih]; rfl
theorem csn_add (i j x : Nat) : csn (i + j) x = csn j (csn i x) := by
  induction i generalizing x with
  | zero => rw [Nat.zero_add]; rfl
  | succ i ih => rw [Nat.succ_add, csn, ih]; rfl
theorem csn_one (x : Nat) : csn 1 x = cs x := rfl
theorem csn_succ (k x : Nat) : csn (k + 1) x = cs (csn k x) := csn_add k 1 x
theorem csn_comm (i j x : Nat) : csn i (csn j x) = csn j (csn i x) := by rw [← csn_add, ← csn_add, Nat.add_comm]
theorem cs_two (m : Nat) : cs (2 * m) = m := by
  unfold cs
  rw [if_neg (by omega), Nat.mul_div_cancel_left _ (by omega), Nat.xor_zero]
theorem csn_pow (k m : Nat) : csn k (2 ^ k * m) = m := by
  induction k with
  | zero => simp [csn]
  | succ k ih => rw [csn, Nat.pow_succ, Nat.mul_comm (2 ^ k) 2, Nat.mul_assoc, cs_two, ih]
theorem cs_zero : cs 0 = 0 := rfl
theorem csn_zero (k : Nat) : csn k 0 = 0 := by
  induction k with
  | zero => rfl
  | succ k ih => rw [csn, cs_zero, ih]
theorem cs_lt {x m : Nat} (h : x < 2 ^ (33 + m)) : cs x < 2 ^ (32 + m) := by
  unfold cs
  have h1 : x / 2 < 2 ^ (32 + m) := by rw [show 33 + m = (32 + m) + 1 by omega, Nat.pow_succ] at h; omega
  refine Nat.xor_lt_two_pow h1 ?_
  have : 2 ^ 32 ≤ 2 ^ (32 + m) := Nat.pow_le_pow_right (by omega) (by omega)
  split
  · unfold POLY; omega
  · omega
theorem cs_lt0 {x : Nat} (h : x < 2 ^ 32) : cs x < 2 ^ 32 := cs_lt (m := 0) (Nat.lt_trans h (by decide))
theorem csn_lt0 {x : Nat} (k : Nat) (h : x < 2 ^ 32) : csn k x < 2 ^ 32 := by
  induction k generalizing x with
  | zero => exact h
  | succ k ih => exact ih (cs_lt0 h)
theorem csn_lt {x : Nat} (k : Nat) (h : x < 2 ^ (32 + k)) : csn k x < 2 ^ 32 := by
  induction k generalizing x with
  | zero => exact h
  | succ k ih => exact ih (cs_lt (by rw [show 33 + k = 32 + (k + 1) by omega]; exact h))
theorem cs_inj {x : Nat} (h : x < 2 ^ 32) (h0 : cs x = 0) : x = 0 := by
  unfold cs at h0
  split at h0
  · have h1 : x / 2 = POLY := by
      have := congrArg (· ^^^ POLY) h0
      simpa [Nat.xor_assoc] using this
    unfold POLY at h1; omega
  · rw [Nat.xor_zero] at h0; omega
theorem csn_inj {x : Nat} (k : Nat) (h : x < 2 ^ 32) (h0 : csn k x = 0) : x = 0 := by
  induction k generalizing x with
  | zero => exact h0
  | succ k ih => exact cs_inj h (ih (cs_lt0 h) h0)
/-- The number whose bytes these are. -/
def num : List Int → Nat
  | [] => 0
  | b :: l => b.toNat ^^^ 2 ^ 8 * num l
/-- The state behind bytes. -/
def fd (s : Nat) : List Int → Nat
  | [] => s
  | b :: l => fd (csn 8 (s ^^^ b.toNat)) l
theorem fd_eq (s : Nat) (z : List Int) : fd s z = csn (8 * z.length) (s ^^^ num z) := by
  induction z generalizing s with
  | nil => simp [fd, num, csn]
  | cons b l ih =>
    rw [fd, ih, num, List.length_cons, show 8 * (l.length + 1) = 8 + 8 * l.length by omega, csn_add, ← Nat.xor_assoc, csn_xor 8 _ (2 ^ 8 * num l), csn_pow]
theorem fd_append (s : Nat) (y z : List Int) : fd s (y ++ z) = fd (fd s y) z := by
  induction y generalizing s with
  | nil => rfl
  | cons b l ih => rw [List.cons_append, fd, ih]; rfl
theorem fd_lt {s : Nat} {z : List Int} (hs : s < 2 ^ 32) (hz : ∀ x ∈ z, 0 ≤ x ∧ x < 256) : fd s z < 2 ^ 32 := by
  induction z generalizing s with
  | nil => exact hs
  | cons b l ih =>
    refine ih (csn_lt0 8 (Nat.xor_lt_two_pow hs ?_)) (fun x hx => hz x (List.mem_cons_of_mem _ hx))
    have := hz b (List.mem_cons_self ..)
    omega
theorem fd_xor (s t : Nat) (z : List Int) : fd (s ^^^ t) z = csn (8 * z.length) s ^^^ fd t z := by
  rw [fd_eq, fd_eq, Nat.xor_assoc, csn_xor]
/-- The sum. -/
def sm (z : List Int) : Nat := 4294967295 ^^^ fd 4294967295 z
theorem sm_lt {z : List Int} (hz : ∀ x ∈ z, 0 ≤ x ∧ x < 256) : sm z < 2 ^ 32 := Nat.xor_lt_two_pow (by decide) (fd_lt (by decide) hz)
theorem xor_self_left (a b : Nat) : a ^^^ (a ^^^ b) = b := by rw [← Nat.xor_assoc, Nat.xor_self, Nat.zero_xor]
theorem sm_append (y z : List Int) : sm (y ++ z) = csn (8 * z.length) (sm y) ^^^ sm z := by
  have h : fd 4294967295 y = sm y ^^^ 4294967295 := by unfold sm; rw [Nat.xor_comm, xor_self_left]
  have h2 : sm (y ++ z) = 4294967295 ^^^ fd (fd 4294967295 y) z := by unfold sm; rw [fd_append]
  rw [h2, h, fd_xor]
  unfold sm
  rw [← Nat.xor_assoc, ← Nat.xor_assoc, Nat.xor_comm 4294967295 (csn _ _)]
theorem sm_nil : sm [] = 0 := by unfold sm fd; exact Nat.xor_self _
/-- Three rows. -/
theorem sm_three {x y z u : List Int} {n : Nat} (hx : x.length = n) (hy : y.length = n) (hz : z.length = n) (hu : u.length = n) (h : num u = num x ^^^ num y ^^^ num z) : sm u = sm x ^^^ sm y ^^^ sm z := by
  unfold sm
  simp only [fd_eq, hx, hy, hz, hu, h, csn_xor]
  generalize csn (8 * n) 4294967295 = A
  generalize csn (8 * n) (num x) = X
  generalize csn (8 * n) (num y) = Y
  generalize csn (8 * n) (num z) = Z
  apply Nat.eq_of_testBit_eq
  intro i
  simp only [Nat.testBit_xor]
  cases Nat.testBit 4294967295 i <;> cases Nat.testBit A i <;> cases Nat.testBit X i <;> cases Nat.testBit Y i <;> cases Nat.testBit Z i <;> rfl
/-- A byte, by two tables of sixteen. -/
def low : List Nat := [0, 4067132163, 3778769143, 324072436, 3348797215, 904991772, 648144872, 3570033899, 2329499855, 2024987596, 1809983544, 2575936315, 1296289744, 3207089363, 2893594407, 1578318884]
def upp : List Nat := [0, 274646895, 549293790, 820201905, 1098587580, 1361435347, 1640403810, 1905808397, 2197175160, 2460548119, 2722870694, 2987750089, 3280807620, 3553878443, 3811616794, 4084100981]
theorem tabs : ∀ c : Fin 256, csn 8 c.val = low.getD (c.val % 16) 0 ^^^ upp.getD (c.val / 16) 0 := by decide +kernel
theorem csn8 {s b : Nat} (hb : b < 256) : csn 8 (s ^^^ b) = s / 256 ^^^ low.getD ((b ^^^ s % 256) % 16) 0 ^^^ upp.getD ((b ^^^ s % 256) / 16) 0 := by
  have hc : b ^^^ s % 256 < 256 := Nat.xor_lt_two_pow (n := 8) hb (by omega)
  have e : s = 2 ^ 8 * (s / 256) ^^^ s % 256 := by
    apply Nat.eq_of_testBit_eq
    intro i
    rw [Nat.testBit_xor, Nat.testBit_two_pow_mul, show (256 : Nat) = 2 ^ 8 from rfl, Nat.testBit_mod_two_pow, ← Nat.shiftRight_eq_div_pow, Nat.testBit_shiftRight]
    by_cases hi : i < 8
    · simp [hi, Nat.not_le.2 hi]
    · simp [hi, Nat.not_lt.1 hi]
  have e2 : s ^^^ b = 2 ^ 8 * (s / 256) ^^^ (b ^^^ s % 256) := by
    conv => lhs; rw [e]
    rw [Nat.xor_assoc, Nat.xor_comm (s % 256) b]
  rw [e2, csn_xor, csn_pow, tabs ⟨_, hc⟩, Nat.xor_assoc]
/-- What a state times another one is, so far. -/
def tm (s t : Nat) : Nat → Nat
  | 0 => 0
  | k + 1 => tm s t k ^^^ (if s.testBit (31 - k) then csn k t else 0)
theorem tm_csn (s t m k : Nat) : tm s (csn m t) k = csn m (tm s t k) := by
  induction k with
  | zero => rw [tm, tm, csn_zero]
  | succ k ih =>
    rw [tm, tm, ih, csn_xor]
    congr 1
    split
    · exact csn_comm k m t
    · rw [csn_zero]
theorem tm_one {s : Nat} (k : Nat) (hk : k ≤ 32) (i : Nat) (hi : i < 32) : (tm s (2 ^ 31) k).testBit i = (s.testBit i && decide (32 ≤ i + k)) := by
  induction k with
  | zero => simp [tm]; omega
  | succ k ih =>
    have e : csn k (2 ^ 31) = 2 ^ (31 - k) := by
      have := csn_pow k (2 ^ (31 - k))
      rw [← Nat.pow_add, show k + (31 - k) = 31 by omega] at this
      exact this
    rw [tm, Nat.testBit_xor, ih (by omega), e]
    by_cases h : i = 31 - k
    · subst h
      rw [show decide (32 ≤ 31 - k + k) = false by simp; omega, show decide (32 ≤ 31 - k + (k + 1)) = true by simp; omega]
      cases hs : s.testBit (31 - k)
      · simp
      · rw [if_pos rfl, Nat.testBit_two_pow_self]; rfl
    · have h1 : (if s.testBit (31 - k) = true then 2 ^ (31 - k) else 0).testBit i = false := by
        split
        · rw [Nat.testBit_two_pow_of_ne (by omega)]
        · exact Nat.zero_testBit i
      rw [h1, Bool.xor_false]
      congr 1
      simp only [decide_eq_decide]; omega
theorem tm_lt {s t : Nat} (ht : t < 2 ^ 32) (k : Nat) : tm s t k < 2 ^ 32 := by
  induction k with
  | zero => exact Nat.pow_pos (by decide)
  | succ k ih =>
    refine Nat.xor_lt_two_pow ih ?_
    split
    · exact csn_lt0 _ ht
    · exact Nat.pow_pos (by decide)
theorem tm_eq {s : Nat} (hs : s < 2 ^ 32) (m : Nat) : tm s (csn m (2 ^ 31)) 32 = csn m s := by
  rw [tm_csn]
  congr 1
  apply Nat.eq_of_testBit_eq
  intro i
  by_cases hi : i < 32
  · rw [tm_one 32 (Nat.le_refl _) i hi]; simp
  · rw [Nat.testBit_lt_two_pow (Nat.lt_of_lt_of_le (tm_lt (by decide) 32) (Nat.pow_le_pow_right (by decide) (by omega))), Nat.testBit_lt_two_pow (Nat.lt_of_lt_of_le hs (Nat.pow_le_pow_right (by decide) (by omega)))]
/-- Digits d, seen from place c on. -/
def E (c : Int) (d : Nat) : Nat := if 0 ≤ c then d / 2 ^ c.toNat else d * 2 ^ (-c).toNat
theorem E_next (c : Int) (d : Nat) : E (c + 8) d = E c d / 2 ^ 8 := by
  unfold E
  by_cases h : 0 ≤ c
  · rw [if_pos h, if_pos (by omega), Nat.div_div_eq_div_mul, ← Nat.pow_add]
    congr 2; omega
  · rw [if_neg h]
    by_cases h8 : 0 ≤ c + 8
    · rw [if_pos h8]
      obtain ⟨j, hj⟩ : ∃ j : Nat, c = -(j : Int) := ⟨(-c).toNat, by omega⟩
      subst hj
      have e1 : (-(-(j : Int))).toNat = j := by omega
      have e2 : (-(j : Int) + 8).toNat = 8 - j := by omega
      rw [e1, e2, show 2 ^ 8 = 2 ^ j * 2 ^ (8 - j) by rw [← Nat.pow_add]; congr 1; omega, ← Nat.div_div_eq_div_mul, Nat.mul_div_cancel _ (Nat.pow_pos (by omega))]
    · rw [if_neg h8]
      obtain ⟨j, hj⟩ : ∃ j : Nat, c = -((j + 9 : Nat) : Int) := ⟨(-c).toNat - 9, by omega⟩
      subst hj
      have e1 : (-(-((j + 9 : Nat) : Int))).toNat = j + 1 + 8 := by omega
      have e2 : (-(-((j + 9 : Nat) : Int) + 8)).toNat = j + 1 := by omega
      rw [e1, e2, Nat.pow_add 2 (j + 1) 8, ← Nat.mul_assoc, Nat.mul_div_cancel _ (by decide)]
theorem E_bit (c : Int) (d j : Nat) : (E c d).testBit j = (decide (0 ≤ c + j) && d.testBit (c + j).toNat) := by
  unfold E
  split
  · rename_i h
    rw [← Nat.shiftRight_eq_div_pow, Nat.testBit_shiftRight, show decide (0 ≤ c + j) = true by simp; omega, Bool.true_and]
    congr 1; omega
  · rename_i h
    rw [Nat.mul_comm, Nat.testBit_two_pow_mul]
    by_cases hj : 0 ≤ c + j
    · rw [show decide (j ≥ (-c).toNat) = true by simp; omega, show decide (0 ≤ c + j) = true by simp; omega]
      congr 2; omega
    · rw [show decide (j ≥ (-c).toNat) = false by simp; omega, show decide (0 ≤ c + j) = false by simp; omega]; simp
/-- Bytes whose digits are turned about. -/
def trn (d : Nat) : Int → List Int → List Int
  | _, [] => []
  | c, b :: l => ((b.toNat ^^^ E c d % 256 : Nat) : Int) :: trn d (c + 8) l
theorem trn_length (d : Nat) (c : Int) (l : List Int) : (trn d c l).length = l.length := by
  induction l generalizing c with
  | nil => rfl
  | cons b l ih => simp [trn, ih]
theorem trn_byte {d : Nat} {c : Int} {l : List Int} (h : ∀ x ∈ l, 0 ≤ x ∧ x < 256) : ∀ x ∈ trn d c l, 0 ≤ x ∧ x < 256 := by
  induction l generalizing c with
  | nil => intro x hx; cases hx
  | cons b l ih =>
    intro x hx
    rcases List.mem_cons.1 hx with rfl | hx
    · have hb := h b (List.mem_cons_self ..)
      have := Nat.xor_lt_two_pow (n := 8) (show b.toNat < 2 ^ 8 by omega) (show E c d % 256 < 2 ^ 8 from Nat.mod_lt _ (by decide))
      omega
    · exact ih (fun y hy => h y (List.mem_cons_of_mem _ hy)) x hx
theorem trn_get {d : Nat} {l : List Int} (c : Int) (k : Nat) (hk : k < l.length) : (trn d c l).getD k 0 = (((l.getD k 0).toNat ^^^ E (c + 8 * k) d % 256 : Nat) : Int) := by
  induction l generalizing c k with
  | nil => cases hk
  | cons b l ih =>
    cases k with
    | zero => simp [trn]
    | succ k =>
      have := ih (c + 8) k (by simpa using hk)
      simp only [trn, List.getD_cons_succ] at this ⊢
      rw [this, show c + 8 + 8 * (k : Int) = c + 8 * ((k + 1 : Nat) : Int) by omega]
theorem num_trn (d : Nat) (c : Int) (l : List Int) : num (trn d c l) = num l ^^^ E c d % 2 ^ (8 * l.length) := by
  induction l generalizing c with
  | nil => simp [trn, num, Nat.mod_one]
  | cons b l ih =>
    rw [trn, num, num, ih, E_next, Int.toNat_natCast, List.length_cons]
    have e : E c d % 2 ^ (8 * (l.length + 1)) = E c d % 256 ^^^ 2 ^ 8 * (E c d / 2 ^ 8 % 2 ^ (8 * l.length)) := by
      generalize E c d = X
      apply Nat.eq_of_testBit_eq
      intro i
      rw [Nat.testBit_xor, Nat.testBit_mod_two_pow, show (256 : Nat) = 2 ^ 8 from rfl, Nat.testBit_mod_two_pow, Nat.testBit_two_pow_mul, Nat.testBit_mod_two_pow, ← Nat.shiftRight_eq_div_pow, Nat.testBit_shiftRight]
      by_cases hi : i < 8
      · simp [hi, Nat.not_le.2 hi]; omega
      · have : 8 + (i - 8) = i := by omega
        rw [this]
        by_cases h2 : i - 8 < 8 * l.length
        · have : i < 8 * (l.length + 1) := by omega
          simp [hi, Nat.not_lt.1 hi, this, h2]
        · have : ¬ i < 8 * (l.length + 1) := by omega
          simp [hi, this, h2]
    rw [e, xor4 b.toNat]
    congr 1
    rw [Nat.mul_comm (2 ^ 8), Nat.mul_comm (2 ^ 8), Nat.mul_comm (2 ^ 8), ← Nat.shiftLeft_eq, ← Nat.shiftLeft_eq, ← Nat.shiftLeft_eq, Nat.shiftLeft_xor_distrib]
theorem num_lt {z : List Int} (hz : ∀ x ∈ z, 0 ≤ x ∧ x < 256) : num z < 2 ^ (8 * z.length) := by
  induction z with
  | nil => simp [num]
  | cons b l ih =>
    have hb := hz b (List.mem_cons_self ..)
    have := ih (fun x hx => hz x (List.mem_cons_of_mem _ hx))
    rw [num, List.length_cons, show 8 * (l.length + 1) = 8 + 8 * l.length by omega]
    refine Nat.xor_lt_two_pow ?_ ?_
    · have h2 : 2 ^ 8 ≤ 2 ^ (8 + 8 * l.length) := Nat.pow_le_pow_right (by omega) (by omega)
      omega
    · rw [Nat.pow_add]
      exact Nat.mul_lt_mul_of_pos_left this (by decide)
theorem num_inj {y z : List Int} (hl : y.length = z.length) (hy : ∀ x ∈ y, 0 ≤ x ∧ x < 256) (hz : ∀ x ∈ z, 0 ≤ x ∧ x < 256) (h : num y = num z) : y = z := by
  induction y generalizing z with
  | nil => cases z with
    | nil => rfl
    | cons => cases hl
  | cons b l ih =>
    cases z with
    | nil => cases hl
    | cons c m =>
      have hb := hy b (List.mem_cons_self ..)
      have hc := hz c (List.mem_cons_self ..)
      simp only [num] at h
      have h1 : b.toNat = c.toNat := by
        have := congrArg (· % 2 ^ 8) h
        simp only [Nat.xor_mod_two_pow, Nat.mul_mod_right, Nat.xor_zero] at this
        rwa [Nat.mod_eq_of_lt (by omega), Nat.mod_eq_of_lt (by omega)] at this
      have h2 : num l = num m := by
        rw [h1] at h
        have := congrArg (c.toNat ^^^ ·) h
        simp only [xor_self_left] at this
        omega
      rw [show b = c by omega, ih (by simpa using hl) (fun x hx => hy x (List.mem_cons_of_mem _ hx)) (fun x hx => hz x (List.mem_cons_of_mem _ hx)) h2]
theorem eq_of_xor_zero {a b : Nat} (h : a ^^^ b = 0) : a = b := by
  have := congrArg (· ^^^ b) h
  simpa [Nat.xor_assoc] using this
/-- A burst is told: it makes a state that is not 0. -/
theorem burst {d : Nat} (hd : d < 2 ^ 32) {at_ : Int} {n : Nat} (h1 : at_ ≤ n) (h0 : csn n (E (-at_) d % 2 ^ n) = 0) : E (-at_) d % 2 ^ n = 0 := by
  by_cases h : at_ ≤ 0
  · have : E (-at_) d < 2 ^ 32 := by
      unfold E
      rw [if_pos (by omega)]
      exact Nat.lt_of_le_of_lt (Nat.div_le_self _ _) hd
    exact csn_inj n (Nat.lt_of_le_of_lt (Nat.mod_le _ _) this) h0
  · obtain ⟨j, rfl⟩ := Int.eq_ofNat_of_zero_le (show 0 ≤ at_ by omega)
    have e : E (-(j : Int)) d = 2 ^ j * d := by
      unfold E
      rw [if_neg (by omega), Int.neg_neg, Int.toNat_natCast, Nat.mul_comm]
    obtain ⟨m, rfl⟩ : ∃ m, n = j + m := ⟨n - j, by omega⟩
    rw [e, Nat.pow_add, Nat.mul_mod_mul_left] at h0 ⊢
    rw [csn_add, csn_pow] at h0
    rw [csn_inj m (Nat.lt_of_le_of_lt (Nat.mod_le _ _) hd) h0, Nat.mul_zero]
theorem sm_burst {d : Nat} (hd : d < 2 ^ 32) {at_ : Int} {z : List Int} (hz : ∀ x ∈ z, 0 ≤ x ∧ x < 256) (h1 : at_ ≤ 8 * z.length) (h0 : sm (trn d (-at_) z) = sm z) : trn d (-at_) z = z := by
  have hl := trn_length d (-at_) z
  refine num_inj hl (trn_byte hz) hz ?_
  have h := congrArg (4294967295 ^^^ ·) h0
  unfold sm at h
  simp only [xor_self_left] at h
  rw [fd_eq, fd_eq, hl, csn_xor, csn_xor] at h
  have h2 := congrArg (csn (8 * z.length) 4294967295 ^^^ ·) h
  simp only [xor_self_left] at h2
  rw [num_trn, csn_xor] at h2
  have h3 := congrArg (csn (8 * z.length) (num z) ^^^ ·) h2
  simp only [xor_self_left, Nat.xor_self] at h3
  rw [num_trn, burst hd (n := 8 * z.length) (by omega) h3, Nat.xor_zero]
theorem bit_mod (d k i : Nat) : (d % 2 ^ k).testBit i = (decide (i < k) && d.testBit i) := Nat.testBit_mod_two_pow d k i
theorem bit_out {d : Nat} (hd : d < 2 ^ 32) {i : Nat} (hi : 32 ≤ i) : d.testBit i = false := Nat.testBit_lt_two_pow (Nat.lt_of_lt_of_le hd (Nat.pow_le_pow_right (by decide) hi))
/-- One more digit of a byte. -/
theorem E_more (c : Int) (d j : Nat) : E c d % 2 ^ (j + 1) = E c d % 2 ^ j ^^^ (if (E c d).testBit j then 2 ^ j else 0) := by
  generalize E c d = X
  apply Nat.eq_of_testBit_eq
  intro i
  rw [Nat.testBit_xor, bit_mod, bit_mod]
  by_cases h : i = j
  · subst h
    cases hx : X.testBit i
    · simp
    · simp [Nat.testBit_two_pow_self]
  · have : (if X.testBit j = true then 2 ^ j else 0).testBit i = false := by
      split
      · exact Nat.testBit_two_pow_of_ne (Ne.symm h)
      · exact Nat.zero_testBit i
    rw [this, Bool.xor_false]
    congr 1
    simp only [decide_eq_decide]; omega
theorem mod_skip {d k : Nat} (h : d.testBit k = false) : d % 2 ^ (k + 1) = d % 2 ^ k := by
  apply Nat.eq_of_testBit_eq
  intro i
  rw [bit_mod, bit_mod]
  by_cases e : i = k
  · subst e; simp [h]
  · congr 1; simp only [decide_eq_decide]; omega
/-- One more digit that is turned about. -/
theorem E_step (c : Int) {d k : Nat} (h : d.testBit k = true) : E c (d % 2 ^ (k + 1)) % 256 = E c (d % 2 ^ k) % 256 ^^^ (if 0 ≤ k - c ∧ (k : Int) - c < 8 then 2 ^ (k - c).toNat else 0) := by
  rw [show (256 : Nat) = 2 ^ 8 from rfl]
  apply Nat.eq_of_testBit_eq
  intro i
  rw [Nat.testBit_xor, bit_mod, bit_mod, E_bit, E_bit, bit_mod, bit_mod]
  by_cases hi : i < 8
  · by_cases hc : 0 ≤ c + i
    · by_cases e : (c + i).toNat = k
      · have e2 : (k - c).toNat = i := by omega
        rw [if_pos (by omega), e2, Nat.testBit_two_pow_self, e]
        simp [hi, hc, h]
      · have : (if 0 ≤ k - c ∧ (k : Int) - c < 8 then 2 ^ (k - c).toNat else 0).testBit i = false := by
          split
          · exact Nat.testBit_two_pow_of_ne (by omega)
          · exact Nat.zero_testBit i
        rw [this, Bool.xor_false]
        congr 2
        congr 1
        simp only [decide_eq_decide]; omega
    · have : (if 0 ≤ k - c ∧ (k : Int) - c < 8 then 2 ^ (k - c).toNat else 0).testBit i = false := by
        split
        · exact Nat.testBit_two_pow_of_ne (by omega)
        · exact Nat.zero_testBit i
      rw [this, Bool.xor_false]
      simp [hc]
  · have : (if 0 ≤ k - c ∧ (k : Int) - c < 8 then 2 ^ (k - c).toNat else 0).testBit i = false := by
      split
      · exact Nat.testBit_two_pow_of_ne (by omega)
      · exact Nat.zero_testBit i
    rw [this]
    simp [hi]
theorem trn_ext {y z : List Int} (hl : y.length = z.length) (h : ∀ k, k < y.length → y.getD k 0 = z.getD k 0) : y = z := by
  apply List.ext_getElem hl
  intro i h1 h2
  have := h i h1
  simpa [List.getD_eq_getElem?_getD, List.getElem?_eq_getElem h1, List.getElem?_eq_getElem h2] using this
theorem trn_zero (c : Int) {z : List Int} (hz : ∀ x ∈ z, 0 ≤ x ∧ x < 256) : trn 0 c z = z := by
  apply trn_ext (trn_length _ _ _)
  intro k hk
  rw [trn_length] at hk
  have hx := hz (z.getD k 0) (by rw [List.getD_eq_getElem?_getD, List.getElem?_eq_getElem hk]; exact List.getElem_mem _)
  rw [trn_get c k hk]
  have : E (c + 8 * k) 0 = 0 := by unfold E; split <;> simp
  rw [this, Nat.zero_mod, Nat.xor_zero]
  omega
theorem trn_same {d d' : Nat} {c : Int} {z : List Int} (h : ∀ k, k < z.length → E (c + 8 * k) d % 256 = E (c + 8 * k) d' % 256) : trn d c z = trn d' c z := by
  apply trn_ext (by rw [trn_length, trn_length])
  intro k hk
  rw [trn_length] at hk
  rw [trn_get c k hk, trn_get c k hk, h k hk]
theorem trn_out {d k : Nat} {a : Int} {z : List Int} (h : d.testBit k = true) (ho : a + k < 0 ∨ (z.length : Int) ≤ (a + k) / 8) : trn (d % 2 ^ (k + 1)) (-a) z = trn (d % 2 ^ k) (-a) z := by
  apply trn_same
  intro j hj
  rw [E_step _ h, if_neg (by omega), Nat.xor_zero]
theorem getD_set_self {l : List Int} {i : Nat} (h : i < l.length) (x : Int) : (l.set i x).getD i 0 = x := by
  rw [List.getD_eq_getElem?_getD, List.getElem?_set_self h]; rfl
theorem getD_set_ne {l : List Int} {i j : Nat} (h : i ≠ j) (x : Int) : (l.set i x).getD j 0 = l.getD j 0 := by
  rw [List.getD_eq_getElem?_getD, List.getElem?_set_ne h, ← List.getD_eq_getElem?_getD]
theorem trn_in {d k : Nat} {a : Int} {z : List Int} (h : d.testBit k = true) (h0 : 0 ≤ a + k) (h1 : (a + k) / 8 < z.length) :
    trn (d % 2 ^ (k + 1)) (-a) z = (trn (d % 2 ^ k) (-a) z).set ((a + k) / 8).toNat ((((trn (d % 2 ^ k) (-a) z).getD ((a + k) / 8).toNat 0).toNat ^^^ 2 ^ ((a + k) % 8).toNat : Nat) : Int) := by
  apply trn_ext (by simp [trn_length])
  intro j hj
  rw [trn_length] at hj
  rw [trn_get _ j hj, E_step _ h]
  by_cases e : j = ((a + k) / 8).toNat
  · have hlt : ((a + k) / 8).toNat < z.length := by omega
    subst e
    rw [getD_set_self (by rw [trn_length]; exact hlt), trn_get _ _ hlt, if_pos (by omega), Int.toNat_natCast, ← Nat.xor_assoc]
    congr 3
    omega
  · rw [if_neg (by omega), Nat.xor_zero, getD_set_ne (Ne.symm e), trn_get _ j hj]
theorem mod_all {d : Nat} (hd : d < 2 ^ 32) : d % 2 ^ 32 = d := Nat.mod_eq_of_lt hd
end Go.Proofs.YtncomjeidlahlaaDoor.CrcM

namespace Go.Proofs.YtncomjeidlahlaaDoor.Cur
open Go.RowKit Mem CrcM
set_option linter.unusedVariables false

/-- The two tables are as the text lays them. -/
def Tbs (w : World) : Prop :=
  (∀ i, i < 16 → w.cell? ⟨0, i, none⟩ = some (.int .u32 (low.getD i 0 : Nat))) ∧ ∀ i, i < 16 → w.cell? ⟨1, i, none⟩ = some (.int .u32 (upp.getD i 0 : Nat))
theorem Tbs.below {w w' : World} (h : Tbs w) (hb : Below w.heap.size w w') : Tbs w' :=
  ⟨fun i hi => (hb.cell (lt_of_cell (h.1 i hi))).trans (h.1 i hi), fun i hi => (hb.cell (lt_of_cell (h.2 i hi))).trans (h.2 i hi)⟩
theorem Tbs.drewN {w : World} (h : Tbs w) (k : Nat) : Tbs (w.drewN k) := h

theorem xor32 (a b : Nat) (ha : a < 2 ^ 32) (hb : b < 2 ^ 32) : bits .xor .u32 (a : Int) (b : Int) = ((a ^^^ b : Nat) : Int) := u32_xor_nat a b ha hb

set_option maxHeartbeats 400000 in
theorem into_any (s b : Nat) (w : World) (hs : s < 2 ^ 32) (hb : b < 256) :
    Calls Tryd.prog 73 #[.int .u32 (s : Int), .int .u8 (b : Int)] w fun e w' => e = .returned (.int .u32 (csn 8 (s ^^^ b) : Nat)) ∧ w = w' := by
  have hx := xor32 s b hs (by omega)
  have hsb : s ^^^ b < 2 ^ 32 := Nat.xor_lt_two_pow hs (by omega)
  generalize s ^^^ b = t at *
  have b1 : (b : Int) < 256 := by omega
  have b0 : (0 : Int) ≤ b := by omega
  go_enter Tryd.func73, Tryd.ntmps73
  go_wp2
  go_loop [0, 5] (fun v i => ∃ k : Nat, k ≤ 8 ∧ i = .int .i64 k ∧ v = .int .u32 (csn k t : Nat)) (fun _ i => 8 - (intOf i).toNat)
  case atStart => exact ⟨0, by omega, rfl, rfl⟩
  case round =>
    obtain ⟨k, hk, rfl, rfl⟩ := hrel
    clear hx
    have hl := csn_lt0 k hsb
    by_cases hlt : k < 8
    · have HN : Hid (csn (k + 1) t = cs (csn k t)) := Lib.hid (csn_succ k t)
      have k0 : (k : Int) < 8 := by omega
      generalize csn k t = u at *
      have u0 : (0 : Int) ≤ u := by omega
      have u1 : (u : Int) < 4294967296 := by omega
      by_cases ho : u % 2 = 1
      · have h1 : ((u : Int) % 2 == 1) = true := by simp; omega
        have HX : Hid (bits .xor .u32 ((u : Int) / 2) 2197175160 = (cs u : Nat)) := Lib.hid (by
          have := xor32 (u / 2) POLY (by omega) (by decide)
          unfold cs; rw [if_pos ho]; push_cast at this; exact this)
        clear ho
        go_wp2
        go_round
        case rel => exact ⟨k + 1, by omega, by go_num, by rw [HN.out, ← HX.out]⟩
        case measure => simp [intOf]; omega
      · have h1 : ((u : Int) % 2 == 1) = false := by simp; omega
        have HX : Hid (((u : Int) / 2) = (cs u : Nat)) := Lib.hid (by unfold cs; rw [if_neg ho, Nat.xor_zero]; omega)
        clear ho
        go_wp2
        go_round
        case rel => exact ⟨k + 1, by omega, by go_num, by rw [HN.out, ← HX.out]⟩
        case measure => simp [intOf]; omega
    · obtain rfl : k = 8 := by omega
      go_wp2
      go_ret
      exact ⟨rfl, rfl⟩

theorem fd_take {s : Nat} {z : List Int} {k : Nat} (h : k < z.length) : fd s (z.take (k + 1)) = csn 8 (fd s (z.take k) ^^^ (z.getD k 0).toNat) := by
  rw [List.take_succ_eq_append_getElem h, fd_append]
  simp [fd, List.getD_eq_getElem?_getD, List.getElem?_eq_getElem h]
theorem take_byte {z : List Int} (h : ∀ x ∈ z, 0 ≤ x ∧ x < 256) (k : Nat) : ∀ x ∈ z.take k, 0 ≤ x ∧ x < 256 := fun x hx => h x (List.mem_of_mem_take hx)

set_option maxHeartbeats 400000 in
theorem radd_any (s : Nat) (A : Option Addr) (n m : Nat) (z : List Int) (w : World) (hs : s < 2 ^ 32) (hz : Bs w A n z) (hn : n ≤ 9000000) (hby : ∀ x ∈ z, 0 ≤ x ∧ x < 256) :
    Calls Tryd.prog 60 #[.int .u32 (s : Int), .slice A n m] w fun e w' => e = .returned (.int .u32 (fd s z : Nat)) ∧ w = w' := by
  have HB := Lib.hid hby
  have HL := Lib.hid hz.1
  clear hby
  go_enter Tryd.func60, Tryd.ntmps60
  go_wp2
  go_loop [0, 5] (fun v i => ∃ k : Nat, k ≤ n ∧ i = .int .i64 k ∧ v = .int .u32 (fd s (z.take k) : Nat)) (fun _ i => n - (intOf i).toNat)
  case atStart => exact ⟨0, by omega, rfl, rfl⟩
  case round =>
    obtain ⟨k, hk, rfl, rfl⟩ := hrel
    by_cases hlt : k < n
    · have hl := fd_lt hs (take_byte HB.out k)
      have HN : Hid (fd s (z.take (k + 1)) = csn 8 (fd s (z.take k) ^^^ (z.getD k 0).toNat)) := Lib.hid (fd_take (by rw [HL.out]; exact hlt))
      have hx := HB.out _ (getD_mem (z := z) (k := k) (by rw [HL.out]; exact hlt))
      obtain ⟨g, o, rfl, hc⟩ := hz.at_ hlt
      generalize fd s (z.take k) = t at *
      generalize z.getD k 0 = x at *
      obtain ⟨b, rfl⟩ := Int.eq_ofNat_of_zero_le hx.1
      have hb : b < 256 := by omega
      go_wp2_with fail
      refine (into_any t b _ hl hb).mono ?_
      rintro e w' ⟨rfl, rfl⟩
      go_wp2
      go_round
      case rel => exact ⟨k + 1, by omega, by go_num, by rw [HN.out]; rfl⟩
      case measure => simp [intOf]; omega
    · obtain rfl : k = n := by omega
      rw [← HL.out, List.take_length]
      go_wp2
      go_ret
      exact ⟨rfl, rfl⟩

theorem not32 (x : Nat) (h : x < 2 ^ 32) : (4294967295 : Int) - x = ((4294967295 ^^^ x : Nat) : Int) := by
  have e : 4294967295 ^^^ x = 4294967295 - x := by
    have h2 : (4294967295 - x : Nat) = 2 ^ 32 - (x + 1) := by omega
    rw [h2]
    apply Nat.eq_of_testBit_eq
    intro i
    rw [Nat.testBit_two_pow_sub_succ h, Nat.testBit_xor]
    by_cases hi : i < 32
    · have : Nat.testBit 4294967295 i = true := by
        have := Nat.testBit_two_pow_sub_one 32 i
        simpa [hi] using this
      rw [this]; simp [hi]
    · have : Nat.testBit 4294967295 i = false := by
        have := Nat.testBit_two_pow_sub_one 32 i
        simpa [hi] using this
      rw [this, Nat.testBit_lt_two_pow (Nat.lt_of_lt_of_le h (Nat.pow_le_pow_right (by decide) (by omega)))]; simp [hi]
  rw [e]; omega

set_option maxHeartbeats 400000 in
theorem rsum_any (A : Option Addr) (n m : Nat) (z : List Int) (w : World) (hz : Bs w A n z) (hn : n ≤ 9000000) (hby : ∀ x ∈ z, 0 ≤ x ∧ x < 256) :
    Calls Tryd.prog 40 #[.slice A n m] w fun e w' => e = .returned (.int .u32 (sm z : Nat)) ∧ w = w' := by
  have hl := fd_lt (s := 4294967295) (by decide) hby
  have HN := Lib.hid (not32 _ hl)
  have ha := radd_any 4294967295 A n m z w (by decide) hz hn hby
  clear hby
  have e1 : sm z = 4294967295 ^^^ fd 4294967295 z := rfl
  rw [e1]
  clear e1
  generalize fd 4294967295 z = t at *
  have t0 : (0 : Int) ≤ t := by omega
  have t1 : (t : Int) < 4294967296 := by omega
  go_enter Tryd.func40, Tryd.ntmps40
  go_wp2_with fail
  refine ha.mono ?_
  rintro e w' ⟨rfl, rfl⟩
  go_wp2
  go_ret
  exact ⟨by rw [← HN.out]; rfl, rfl⟩

theorem cbegin_any (w : World) : Calls Tryd.prog 59 #[] w fun e w' => e = .returned (.int .u32 ((4294967295 : Nat) : Int)) ∧ w = w' := by
  go_enter Tryd.func59, Tryd.ntmps59
  go_wp2
  go_ret
  exact ⟨rfl, rfl⟩

theorem cend_any (s : Nat) (w : World) (hs : s < 2 ^ 32) : Calls Tryd.prog 57 #[.int .u32 (s : Int)] w fun e w' => e = .returned (.int .u32 ((4294967295 ^^^ s : Nat) : Int)) ∧ w = w' := by
  have HN := Lib.hid (show bits .xor .u32 IntKind.u32.max s = ((4294967295 ^^^ s : Nat) : Int) from xor32 4294967295 s (by decide) hs)
  generalize ((4294967295 ^^^ s : Nat) : Int) = y at *
  have hg : ¬ IntKind.u32.signed = true := by decide
  go_enter Tryd.func57, Tryd.ntmps57
  go_wp2
  go_ret
  exact ⟨by rw [← HN.out]; rfl, rfl⟩

theorem low_lt : ∀ i : Fin 16, low.getD i.val 0 < 2 ^ 32 := by decide
theorem upp_lt : ∀ i : Fin 16, upp.getD i.val 0 < 2 ^ 32 := by decide
theorem byte_xor : ∀ (s b : Nat), b < 256 → bits .xor .u8 (b : Int) ((s : Int) % 256) = ((b ^^^ s % 256 : Nat) : Int) := fun s b hb => by
  have := u8_xor_nat b (s % 256) hb (by omega)
  rwa [show ((s % 256 : Nat) : Int) = (s : Int) % 256 by omega] at this
theorem and15 (c : Nat) (h : c < 256) : bits .and .u8 (c : Int) 15 = ((c % 16 : Nat) : Int) := by
  have := u8_and_nat c 15 h (by decide)
  rw [nat_mask4] at this
  exact this

set_option maxHeartbeats 400000 in
theorem cadd_any (s : Nat) (A : Option Addr) (n m : Nat) (z : List Int) (w : World) (hs : s < 2 ^ 32) (hz : Bs w A n z) (hn : n ≤ 9000000) (hby : ∀ x ∈ z, 0 ≤ x ∧ x < 256) (hT : Tbs w) :
    Calls Tryd.prog 58 #[.int .u32 (s : Int), .slice A n m] w fun e w' => e = .returned (.int .u32 (fd s z : Nat)) ∧ ∃ k, w' = w.drewN k := by
  have HB := Lib.hid hby
  have HL := Lib.hid hz.1
  have HT := Lib.hid hT
  clear hby hT
  go_enter Tryd.func58, Tryd.ntmps58
  go_wp2
  go_loopw [0, 9] (fun v i wr => ∃ k j : Nat, k ≤ n ∧ i = .int .i64 k ∧ v = .int .u32 (fd s (z.take k) : Nat) ∧ wr = w.drewN j) (fun _ i _ => n - (intOf i).toNat)
  case atStart => exact ⟨0, 0, by omega, rfl, rfl, rfl⟩
  case round =>
    obtain ⟨k, j, hk, rfl, rfl, rfl⟩ := hrel
    by_cases hlt : k < n
    · have hl := fd_lt hs (take_byte HB.out k)
      have HN : Hid (fd s (z.take (k + 1)) = csn 8 (fd s (z.take k) ^^^ (z.getD k 0).toNat)) := Lib.hid (fd_take (by rw [HL.out]; exact hlt))
      have hx := HB.out _ (getD_mem (z := z) (k := k) (by rw [HL.out]; exact hlt))
      obtain ⟨g, o, rfl, hc⟩ := hz.at_ hlt
      generalize fd s (z.take k) = t at *
      generalize z.getD k 0 = x at *
      obtain ⟨b, rfl⟩ := Int.eq_ofNat_of_zero_le hx.1
      have hb : b < 256 := by omega
      have hbx := byte_xor t b hb
      have hc8 := csn8 (s := t) hb
      have hcl : b ^^^ t % 256 < 256 := Nat.xor_lt_two_pow (n := 8) hb (by omega)
      generalize b ^^^ t % 256 = c at *
      have ha := and15 c hcl
      have hT1 := HT.out.1 (c % 16) (by omega)
      have hT2 := HT.out.2 (c / 16) (by omega)
      have b0 : (0 : Int) ≤ b := by omega
      have b1 : (b : Int) < 256 := by omega
      have t0 : (0 : Int) ≤ t := by omega
      have t1 : (t : Int) < 4294967296 := by omega
      have hlo := low_lt ⟨c % 16, by omega⟩
      have hup := upp_lt ⟨c / 16, by omega⟩
      simp only at hlo hup
      have X1 := xor32 (t / 256) (low.getD (c % 16) 0) (by omega) hlo
      have X2 := xor32 (t / 256 ^^^ low.getD (c % 16) 0) (upp.getD (c / 16) 0) (Nat.xor_lt_two_pow (by omega) hlo) hup
      have hc16 : ((c % 16 : Nat) : Int) < 16 := by omega
      have hd16 : ((c / 16 : Nat) : Int) < 16 := by omega
      have hc160 : (0 : Int) ≤ ((c % 16 : Nat) : Int) := by omega
      have hd160 : (0 : Int) ≤ ((c / 16 : Nat) : Int) := by omega
      have e1 : (t : Int) / 256 = ((t / 256 : Nat) : Int) := by omega
      have e2 : (c : Int) / 16 = ((c / 16 : Nat) : Int) := by omega
      have HR : Hid (t / 256 ^^^ low.getD (c % 16) 0 ^^^ upp.getD (c / 16) 0 = fd s (z.take (k + 1))) := Lib.hid (by rw [HN.out, ← hc8]; rfl)
      clear hc8 hlo hup
      generalize low.getD (c % 16) 0 = lo at *
      generalize upp.getD (c / 16) 0 = up at *
      generalize c % 16 = cl at *
      generalize c / 16 = ch at *
      generalize t / 256 = th at *
      go_wp2
      go_quiet (fail)
      go_wp2
      go_roundw
      case rel => exact ⟨k + 1, _, by omega, by go_num, by rw [← HR.out], rfl⟩
      case measure => simp [intOf]; omega
    · obtain rfl : k = n := by omega
      rw [← HL.out, List.take_length]
      go_wp2
      go_ret
      exact ⟨rfl, j, rfl⟩
end Go.Proofs.YtncomjeidlahlaaDoor.Cur

namespace Go.Proofs.YtncomjeidlahlaaDoor.Cur
open Go.RowKit Mem CrcM
set_option linter.unusedVariables false

theorem Blk.setRow {w : World} {g t : Nat} {cs ds : Array Value} (h : Blk w g cs t) : Blk (w.setRow g ds) g ds t := setRow_heap w g cs ds t (0, 0) h
theorem heap_setRow_other (w : World) (g k : Nat) (cs : Array Value) (h : k ≠ g) : (w.setRow g cs).heap[k]? = w.heap[k]? := by
  simp [World.setRow, Array.getElem?_modify, Ne.symm h]
theorem Below.setRow {B : Nat} {w w' : World} {g : Nat} (h : Below B w w') (hg : B ≤ g) (cs : Array Value) : Below B w (w'.setRow g cs) :=
  ⟨h.os, h.tape, h.output, by simpa using h.size, fun k hk => (heap_setRow_other w' g k cs (by omega)).trans (h.block k hk)⟩

/-- The row of 32 states, so far. -/
def mrow (t k : Nat) : Array Value := ((List.range k).map (fun i => Value.int .u32 ((csn i t : Nat) : Int)) ++ List.replicate (32 - k) (Value.int .u32 0)).toArray
theorem mrow_size (t k : Nat) (h : k ≤ 32) : (mrow t k).size = 32 := by simp [mrow]; omega
theorem mrow_at (t k : Nat) (h : k < 32) : (mrow t k)[k]? = some (.int .u32 0) := by
  have hk : 0 < 32 - k := by omega
  unfold mrow
  rw [List.getElem?_toArray, List.getElem?_append_right (by simp)]
  simp [hk]
theorem mrow_set (t k : Nat) (h : k < 32) : (mrow t k).setIfInBounds k (.int .u32 ((csn k t : Nat) : Int)) = mrow t (k + 1) := by
  unfold mrow
  rw [show 32 - k = (32 - (k + 1)) + 1 by omega, List.replicate_succ, List.setIfInBounds_toArray, List.set_append_right _ _ (by simp), List.range_succ]
  simp
theorem mrow_get (t i : Nat) (h : i < 32) : (mrow t 32)[i]? = some (.int .u32 ((csn i t : Nat) : Int)) := by
  unfold mrow
  rw [List.getElem?_toArray, List.getElem?_append_left (by simpa using h)]
  simp [h]
theorem mrow_one (t k : Nat) : (mrow t k).all (·.oneCell') = true := by
  unfold mrow
  rw [Array.all_eq_true']
  intro x hx
  rw [List.mem_toArray, List.mem_append] at hx
  rcases hx with hx | hx
  · obtain ⟨i, _, rfl⟩ := List.mem_map.1 hx; rfl
  · rw [List.eq_of_mem_replicate hx]; rfl
theorem size44 : (Tryd.prog.info? 121).map (·.size) = some 32 := by kernel_rfl

def mz32 : Array Value := (List.replicate 32 (Value.int .u32 0)).toArray
theorem mrow_zero (t : Nat) : mrow t 0 = mz32 := rfl
theorem and1 (u : Nat) (h : u < 2 ^ 32) : bits .and .u32 (u : Int) 1 = ((u % 2 : Nat) : Int) := by
  have := u32_and_nat u 1 h (by decide)
  rw [nat_mask1] at this
  exact this
theorem mul_poly (u : Nat) (h : u < 2 ^ 32) : bits .xor .u32 ((u / 2 : Nat) : Int) (2197175160 * ((u % 2 : Nat) : Int)) = ((cs u : Nat) : Int) := by
  have := xor32 (u / 2) (if u % 2 = 1 then POLY else 0) (by omega) (by split <;> decide)
  rw [show (2197175160 * ((u % 2 : Nat) : Int)) = (((if u % 2 = 1 then POLY else 0) : Nat) : Int) by unfold POLY; split <;> omega]
  exact this

set_option maxRecDepth 100000 in
set_option maxHeartbeats 1000000 in
theorem multiples_any (t : Nat) (w : World) (ht : t < 2 ^ 32) :
    Calls Tryd.prog 87 #[.int .u32 (t : Int)] w fun e w' => e = .returned (.agg (mrow t 32)) ∧ Below w.heap.size w w' := by
  go_enter Tryd.func87, Tryd.ntmps87
  go_wp2
  have b0 : Below w.heap.size w ((w.alloc (.cells mz32 121)).alloc (.cells mz32 121)) := below_two w _ _
  have B1 : Blk ((w.alloc (.cells mz32 121)).alloc (.cells mz32 121)) w.heap.size mz32 121 := (Blk.new w _ _).alloc _
  have B2 : Blk ((w.alloc (.cells mz32 121)).alloc (.cells mz32 121)) (w.heap.size + 1) (mrow t 0) 121 := by
    have := Blk.new (w.alloc (.cells mz32 121)) mz32 121
    rw [mrow_zero]
    simpa using this
  unfold mz32 at b0 B1 B2
  simp only [List.replicate] at b0 B1 B2
  have hG : ∃ G, G = w.heap.size + 1 := ⟨_, rfl⟩
  obtain ⟨G, hG⟩ := hG
  rw [← hG] at B2 ⊢
  have HG := Lib.hid hG
  clear hG
  go_loopw [0, 5] (fun v i wr => ∃ k : Nat, k ≤ 32 ∧ i = .int .i64 k ∧ v = .int .u32 (csn k t : Nat) ∧ Blk wr G (mrow t k) 121 ∧ Blk wr w.heap.size mz32 121 ∧ Below w.heap.size w wr) (fun _ i _ => 32 - (intOf i).toNat)
  case atStart => exact ⟨0, by omega, rfl, rfl, B2, B1, b0⟩
  case round =>
    obtain ⟨k, hk, rfl, rfl, hB, hB1, hb⟩ := hrel
    have hl := csn_lt0 k ht
    by_cases hlt : k < 32
    · have HN : Hid (csn (k + 1) t = cs (csn k t)) := Lib.hid (csn_succ k t)
      have k0 : (k : Int) < 32 := by omega
      have hc := hB.cell k (mrow_at t k hlt)
      have hf := hB.free k
      have hset := hB.set k (.int .u32 ((csn k t : Nat) : Int))
      rw [mrow_set t k hlt] at hset
      have hgg : w.heap.size ≠ G := by rw [HG.out]; omega
      have hfar := hB1.far k (.int .u32 ((csn k t : Nat) : Int)) hgg
      have hbs := Below.setCell hb (show w.heap.size ≤ (⟨G, k, none⟩ : Addr).block by rw [HG.out]; exact Nat.le_succ _) (.int .u32 ((csn k t : Nat) : Int))
      have HS := Lib.hid hset
      clear hset hB hB1 hb
      generalize csn k t = u at *
      have u0 : (0 : Int) ≤ u := by omega
      have u1 : (u : Int) < 4294967296 := by omega
      have e1 : (u : Int) / 2 = ((u / 2 : Nat) : Int) := by omega
      have X1 := and1 u hl
      have X2 := mul_poly u hl
      have r1 : ((u % 2 : Nat) : Int) ≤ 1 := by omega
      have r0 : (0 : Int) ≤ ((u % 2 : Nat) : Int) := by omega
      have HCS := Lib.hid (show csn (k + 1) t = cs u from HN.out)
      generalize cs u = v at *
      generalize u % 2 = r at *
      generalize u / 2 = uh at *
      go_wp2
      go_roundw
      case rel => exact ⟨k + 1, by omega, by go_num, by rw [HCS.out], HS.out, hfar, hbs⟩
      case measure => simp [intOf]; omega
    · obtain rfl : k = 32 := by omega
      clear B1 B2 b0
      have hsz := mrow_size t 32 (Nat.le_refl _)
      have HSZ : Hid ((Tryd.prog.info? 121).map (·.size) = some (mrow t 32).size) := Lib.hid (by rw [hsz]; exact size44)
      have HSO : Hid (mz32.size = (mrow t 32).size) := Lib.hid (by rw [hsz]; rfl)
      have H1 := Lib.hid (mrow_one t 32)
      clear hsz
      have HM : ∃ M, Hid (M = mrow t 32) := ⟨_, Lib.hid rfl⟩
      obtain ⟨M, HM⟩ := HM
      rw [← HM.out] at HSZ HSO H1 hB
      have HB := Lib.hid hB
      have HB1 := Lib.hid hB1
      clear hB hB1
      go_wp2_with (first
        | (refine wpList_load_row rfl 121 (.tmp 3) rfl G rfl 121 M (0, 0) _ HB.out Tryd.underlying121 rfl HSZ.out ?_)
        | (refine wpList_store_rowTo rfl 121 (.tmp 2) (.tmp 18) rfl rfl w.heap.size M rfl rfl 121 mz32 HB1.out HSZ.out HSO.out H1.out ?_))
      refine bodyPost_ret (v := .agg M) (results_cell_row Tryd.results87 _ _ w.heap.size 121 M (0, 0) _ rfl (Blk.setRow HB1.out) Tryd.underlying121 rfl HSZ.out) rfl ⟨by rw [HM.out], Below.setRow hb (Nat.le_refl _) _⟩

theorem bit_cases (s k : Nat) : (s / 2 ^ (31 - k) % 2 = 1 ∧ s.testBit (31 - k) = true) ∨ (s / 2 ^ (31 - k) % 2 = 0 ∧ s.testBit (31 - k) = false) := by
  rw [Nat.testBit_eq_decide_div_mod_eq]
  rcases Nat.mod_two_eq_zero_or_one (s / 2 ^ (31 - k)) with h | h
  · exact .inr ⟨h, by simp [h]⟩
  · exact .inl ⟨h, by simp [h]⟩

theorem run_idx32 (M : Array Value) (k : Nat) (v : Value) (hk : k < 32) (hv : M[k]? = some v) (w : World) :
    (Instr.index 121 (.agg M) (.int .i64 k)).run Tryd.prog w = .ok v w := by
  have hs : (sizeOf 55).run Tryd.prog w = .ok 1 w := by kernel_rfl
  have ha : (isAgg 55).run Tryd.prog w = .ok false w := by kernel_rfl
  have h0 : (0 : Int) ≤ (k : Int) ∧ (k : Int) < ((32 : Nat) : Int) := by omega
  simp only [Instr.index, Sem.run_bind, asIntOf, Sem.run_pure, Result.andThen_ok, run_underlying Tryd.underlying121, if_pos h0, hs, Int.toNat_natCast, Nat.mul_one]
  simp [part, Sem.run_bind, ha, hv]
set_option maxRecDepth 100000 in
set_option maxHeartbeats 1000000 in
theorem ctimes_any (s t : Nat) (w : World) (hs : s < 2 ^ 32) (ht : t < 2 ^ 32) :
    Calls Tryd.prog 88 #[.int .u32 (s : Int), .agg (mrow t 32)] w fun e w' => e = .returned (.int .u32 (tm s t 32 : Nat)) ∧ Below w.heap.size w w' := by
  have hsz := mrow_size t 32 (Nat.le_refl _)
  have HSZ : Hid ((Tryd.prog.info? 121).map (·.size) = some (mrow t 32).size) := Lib.hid (by rw [hsz]; exact size44)
  have HGET := Lib.hid (fun i h => mrow_get t i h)
  have HM : ∃ M, Hid (M = mrow t 32) := ⟨_, Lib.hid rfl⟩
  obtain ⟨M, HM⟩ := HM
  rw [← HM.out] at HSZ HGET hsz ⊢
  have HSZ2 := Lib.hid hsz
  clear hsz
  go_enter Tryd.func88, Tryd.ntmps88
  have HB := Lib.hid (Blk.new w M 121)
  go_wp2_with (refine wpList_load_row rfl 121 (.tmp 3) rfl w.heap.size rfl 121 M (0, 0) _ HB.out Tryd.underlying121 rfl HSZ.out ?_)
  go_loop [5, 9] (fun v i => ∃ k : Nat, k ≤ 32 ∧ i = .int .i64 k ∧ v = .int .u32 (tm s t k : Nat)) (fun _ i => 32 - (intOf i).toNat)
  case atStart => exact ⟨0, by omega, rfl, rfl⟩
  case round =>
    obtain ⟨k, hk, rfl, rfl⟩ := hrel
    by_cases hlt : k < 32
    · have hl := tm_lt (s := s) ht k
      have hcl := csn_lt0 k ht
      have HN : Hid (tm s t (k + 1) = tm s t k ^^^ (if s.testBit (31 - k) then csn k t else 0)) := Lib.hid rfl
      have hidx := run_idx32 M k _ hlt (HGET.out k hlt)
      have hk1 : (k : Int) < 32 := by omega
      have hsh : (s : Int) / 2 ^ (31 - k) = ((s / 2 ^ (31 - k) : Nat) : Int) := by push_cast; rfl
      have hsl : s / 2 ^ (31 - k) < 2 ^ 32 := Nat.lt_of_le_of_lt (Nat.div_le_self _ _) hs
      have X1 := and1 _ hsl
      rcases bit_cases s k with ⟨h1, h2⟩ | ⟨h1, h2⟩
      · have HR : Hid (bits .xor .u32 ((tm s t k : Nat) : Int) ((csn k t : Nat) : Int) = ((tm s t (k + 1) : Nat) : Int)) := Lib.hid (by rw [HN.out, h2, if_pos rfl]; exact xor32 _ _ hl hcl)
        have Y1 : bits .and .u32 ((s / 2 ^ (31 - k) : Nat) : Int) 1 = 1 := by rw [X1, h1]; rfl
        clear h1 h2 HN X1
        generalize s / 2 ^ (31 - k) = sk at *
        generalize csn k t = u at *
        generalize tm s t k = p at *
        have u0 : (0 : Int) ≤ u := by omega
        have u1 : (u : Int) < 4294967296 := by omega
        go_wp2
        go_round
        case rel => exact ⟨k + 1, by omega, by go_num, by rw [← HR.out]⟩
        case measure => simp [intOf]; omega
      · have HR : Hid (bits .xor .u32 ((tm s t k : Nat) : Int) 0 = ((tm s t (k + 1) : Nat) : Int)) := Lib.hid (by rw [HN.out, h2, if_neg (by decide)]; exact xor32 _ 0 hl (by decide))
        have Y1 : bits .and .u32 ((s / 2 ^ (31 - k) : Nat) : Int) 1 = 0 := by rw [X1, h1]; rfl
        clear h1 h2 HN X1
        generalize s / 2 ^ (31 - k) = sk at *
        generalize csn k t = u at *
        generalize tm s t k = p at *
        go_wp2
        go_round
        case rel => exact ⟨k + 1, by omega, by go_num, by rw [← HR.out]⟩
        case measure => simp [intOf]; omega
    · obtain rfl : k = 32 := by omega
      go_wp2
      go_ret
      exact ⟨rfl, below_one _ _⟩

theorem csn_oneByte : ((8388608 : Nat) : Int) = ((csn 8 (2 ^ 31) : Nat) : Int) := by
  have := csn_pow 8 8388608
  rw [show (2 : Nat) ^ 8 * 8388608 = 2 ^ 31 by decide] at this
  rw [this]

set_option maxRecDepth 100000 in
set_option maxHeartbeats 1000000 in
theorem czeros_any (s : Nat) (n : Int) (w : World) (hs : s < 2 ^ 32) (hn : n ≤ 9223372036854775807) :
    Calls Tryd.prog 86 #[.int .u32 (s : Int), .int .i64 n] w fun e w' => e = .returned (.int .u32 (csn (8 * n.toNat) s : Nat)) ∧ Below w.heap.size w w' := by
  go_enter Tryd.func86, Tryd.ntmps86
  go_wp2
  go_loopw [0, 1, 5] (fun v i st wr => ∃ (x j a : Nat), v = .int .u32 (a : Int) ∧ (i = .int .i64 x ∨ (x = 0 ∧ i = .int .i64 n ∧ n < 0)) ∧ st = .int .u32 (csn j (2 ^ 31) : Nat) ∧ (x : Int) ≤ 9223372036854775807 ∧ a < 2 ^ 32 ∧ Hid (csn (j * x) a = csn (8 * n.toNat) s) ∧ Below w.heap.size w wr) (fun _ i _ _ => (intOf i).toNat)
  case atStart =>
    refine ⟨n.toNat, 8, s, rfl, ?_, by rw [← csn_oneByte]; rfl, by omega, hs, Lib.hid rfl, Below.refl _ _⟩
    by_cases h : n < 0
    · exact .inr ⟨by omega, rfl, h⟩
    · exact .inl (by rw [Int.toNat_of_nonneg (by omega)])
  case round =>
    obtain ⟨x, j, a, rfl, hx, rfl, x1, ha, H, hb⟩ := hrel
    rcases hx with rfl | ⟨hx0, rfl, hneg⟩
    · by_cases hx : 0 < x
      · have ht := csn_lt0 j (show 2 ^ 31 < 2 ^ 32 by decide)
        have HTM := Lib.hid (tm_eq ha j)
        have HTT : Hid (tm (csn j (2 ^ 31)) (csn j (2 ^ 31)) 32 = csn (j + j) (2 ^ 31)) := Lib.hid (by rw [tm_eq ht j, csn_add])
        have HX : Hid ((x : Int) / 2 = ((x / 2 : Nat) : Int)) := Lib.hid (by omega)
        have HLT : Hid (x / 2 < x ∧ ((x / 2 : Nat) : Int) ≤ 9223372036854775807) := Lib.hid (by omega)
        by_cases ho : x % 2 = 1
        · have h1 : ((x : Int) % 2 == 1) = true := by simp; omega
          have HI : Hid (csn ((j + j) * (x / 2)) (csn j a) = csn (8 * n.toNat) s) := Lib.hid (by
            rw [← H.out, ← csn_add]; congr 1
            have : x = 1 + 2 * (x / 2) := by omega
            generalize x / 2 = y at *
            subst this
            rw [Nat.add_mul, Nat.mul_add, Nat.mul_one, ← Nat.mul_assoc, Nat.mul_comm j 2, Nat.mul_assoc 2, Nat.two_mul])
          have hja := csn_lt0 j ha
          clear ho H
          have HSZ : Hid ((Tryd.prog.info? 121).map (·.size) = some (mrow (csn j (2 ^ 31)) 32).size) := Lib.hid (by rw [mrow_size _ 32 (Nat.le_refl _)]; exact size44)
          have HSO : Hid (mz32.size = (mrow (csn j (2 ^ 31)) 32).size) := Lib.hid (by rw [mrow_size _ 32 (Nat.le_refl _)]; rfl)
          have H1 := Lib.hid (mrow_one (csn j (2 ^ 31)) 32)
          generalize csn j (2 ^ 31) = t at *
          go_wp2_with fail
          refine (multiples_any t _ ht).mono ?_
          rintro e w1 ⟨rfl, hb1⟩
          have hb2 := hb.trans (hb1.mono hb.size)
          clear hb hb1
          go_wp2_with (first
            | (refine wpList_store_rowTo rfl 121 (.tmp 6) (.tmp 12) rfl rfl w1.heap.size (mrow t 32) rfl rfl 121 mz32 (heap_alloc_new _ _) HSZ.out HSO.out H1.out ?_; rw [World.setRow_alloc_new])
            | (refine wpList_load_row rfl 121 (.tmp 6) rfl w1.heap.size rfl 121 (mrow t 32) (0, 0) _ (heap_alloc_new _ _) Tryd.underlying121 rfl HSZ.out ?_))
          have HB := Lib.hid (Blk.new w1 (mrow t 32) 121)
          have hb3 := hb2.trans ((below_one w1 (.cells (mrow t 32) 121)).mono hb2.size)
          clear hb2
          generalize w1.heap.size = g at *
          generalize w1.alloc (.cells (mrow t 32) 121) = w2 at *
          refine (ctimes_any a t _ ha ht).mono ?_
          rintro e w3 ⟨rfl, hb9⟩
          rw [HTM.out]
          replace HB := Lib.hid (HB.out.below hb9)
          replace hb3 := hb3.trans (hb9.mono hb3.size)
          clear hb9
          go_wp2_with (refine wpList_load_row rfl 121 (.tmp 6) rfl g rfl 121 (mrow t 32) (0, 0) _ HB.out Tryd.underlying121 rfl HSZ.out ?_)
          refine (ctimes_any t t _ ht ht).mono ?_
          rintro e w4 ⟨rfl, hb4⟩
          rw [HTT.out]
          have hb5 := hb3.trans (hb4.mono hb3.size)
          go_wp2
          go_roundw
          case rel => exact ⟨x / 2, j + j, csn j a, rfl, .inl (by rw [← HX.out]), rfl, HLT.out.2, hja, HI.out, hb5⟩
          case measure => have := HLT.out.1; have := HX.out; simp [intOf]; omega
        · have h1 : ((x : Int) % 2 == 1) = false := by simp; omega
          have HI : Hid (csn ((j + j) * (x / 2)) a = csn (8 * n.toNat) s) := Lib.hid (by
            rw [← H.out]; congr 1
            have : x = 2 * (x / 2) := by omega
            generalize x / 2 = y at *
            subst this
            rw [Nat.add_mul, ← Nat.mul_assoc, Nat.mul_comm j 2, Nat.mul_assoc 2, Nat.two_mul])
          have hja := ha
          clear ho H
          have HSZ : Hid ((Tryd.prog.info? 121).map (·.size) = some (mrow (csn j (2 ^ 31)) 32).size) := Lib.hid (by rw [mrow_size _ 32 (Nat.le_refl _)]; exact size44)
          have HSO : Hid (mz32.size = (mrow (csn j (2 ^ 31)) 32).size) := Lib.hid (by rw [mrow_size _ 32 (Nat.le_refl _)]; rfl)
          have H1 := Lib.hid (mrow_one (csn j (2 ^ 31)) 32)
          generalize csn j (2 ^ 31) = t at *
          go_wp2_with fail
          refine (multiples_any t _ ht).mono ?_
          rintro e w1 ⟨rfl, hb1⟩
          have hb2 := hb.trans (hb1.mono hb.size)
          clear hb hb1
          go_wp2_with (first
            | (refine wpList_store_rowTo rfl 121 (.tmp 6) (.tmp 12) rfl rfl w1.heap.size (mrow t 32) rfl rfl 121 mz32 (heap_alloc_new _ _) HSZ.out HSO.out H1.out ?_; rw [World.setRow_alloc_new])
            | (refine wpList_load_row rfl 121 (.tmp 6) rfl w1.heap.size rfl 121 (mrow t 32) (0, 0) _ (heap_alloc_new _ _) Tryd.underlying121 rfl HSZ.out ?_))
          have HB := Lib.hid (Blk.new w1 (mrow t 32) 121)
          have hb3 := hb2.trans ((below_one w1 (.cells (mrow t 32) 121)).mono hb2.size)
          clear hb2
          generalize w1.heap.size = g at *
          generalize w1.alloc (.cells (mrow t 32) 121) = w2 at *
          refine (ctimes_any t t _ ht ht).mono ?_
          rintro e w4 ⟨rfl, hb4⟩
          rw [HTT.out]
          have hb5 := hb3.trans (hb4.mono hb3.size)
          go_wp2
          go_roundw
          case rel => exact ⟨x / 2, j + j, a, rfl, .inl (by rw [← HX.out]), rfl, HLT.out.2, hja, HI.out, hb5⟩
          case measure => have := HLT.out.1; have := HX.out; simp [intOf]; omega
      · obtain rfl : x = 0 := by omega
        have HE : Hid (csn (8 * n.toNat) s = a) := Lib.hid (by rw [← H.out, Nat.mul_zero]; rfl)
        go_wp2
        go_ret
        exact ⟨by rw [HE.out]; rfl, hb⟩
    · subst hx0
      have HE : Hid (csn (8 * n.toNat) s = a) := Lib.hid (by rw [← H.out, Nat.mul_zero]; rfl)
      go_wp2
      go_ret
      exact ⟨by rw [HE.out]; rfl, hb⟩
end Go.Proofs.YtncomjeidlahlaaDoor.Cur

namespace Go.Proofs.YtncomjeidlahlaaDoor.Cur
open Go.RowKit Mem CrcM
set_option linter.unusedVariables false

set_option maxHeartbeats 400000 in
theorem csum_any (A : Option Addr) (n m : Nat) (z : List Int) (w : World) (hz : Bs w A n z) (hn : n ≤ 9000000) (hby : ∀ x ∈ z, 0 ≤ x ∧ x < 256) (hT : Tbs w) :
    Calls Tryd.prog 36 #[.slice A n m] w fun e w' => e = .returned (.int .u32 (sm z : Nat)) ∧ ∃ k, w' = w.drewN k := by
  have hl := fd_lt (s := 4294967295) (by decide) hby
  have ha := cadd_any 4294967295 A n m z w (by decide) hz hn hby hT
  clear hby hT
  have e1 : sm z = 4294967295 ^^^ fd 4294967295 z := rfl
  rw [e1]
  clear e1
  generalize fd 4294967295 z = t at *
  go_enter Tryd.func36, Tryd.ntmps36
  go_wp2_with fail
  refine (cbegin_any _).mono ?_
  rintro e w' ⟨rfl, rfl⟩
  go_wp2_with fail
  refine ha.mono ?_
  rintro e w' ⟨rfl, k, rfl⟩
  go_wp2_with fail
  refine (cend_any t _ hl).mono ?_
  rintro e w' ⟨rfl, rfl⟩
  go_wp2
  go_ret
  exact ⟨rfl, k, rfl⟩

set_option maxHeartbeats 400000 in
theorem cjoin_any (a b : Nat) (n : Int) (w : World) (ha : a < 2 ^ 32) (hb : b < 2 ^ 32) (hn : n ≤ 9223372036854775807) :
    Calls Tryd.prog 82 #[.int .u32 (a : Int), .int .u32 (b : Int), .int .i64 n] w fun e w' => e = .returned (.int .u32 (csn (8 * n.toNat) a ^^^ b : Nat)) ∧ Below w.heap.size w w' := by
  have hx := xor32 _ b (csn_lt0 (8 * n.toNat) ha) hb
  have hz := czeros_any a n w ha hn
  have HX := Lib.hid hx
  clear hx
  generalize csn (8 * n.toNat) a = c at *
  go_enter Tryd.func82, Tryd.ntmps82
  go_wp2_with fail
  refine hz.mono ?_
  rintro e w' ⟨rfl, hb⟩
  go_wp2
  go_ret
  exact ⟨by rw [← HX.out]; rfl, hb⟩

def nine : List Int := [49, 50, 51, 52, 53, 54, 55, 56, 57]
theorem nine_sum : sm nine = 3808858755 := by decide +kernel
theorem nine_byte : ∀ x ∈ nine, 0 ≤ x ∧ x < 256 := by decide

end Go.Proofs.YtncomjeidlahlaaDoor.Cur

namespace Go.Proofs.YtncomjeidlahlaaDoor.Cur
open Go.RowKit Mem CrcM
set_option linter.unusedVariables false

theorem shl8 : ∀ j : Fin 8, IntKind.u8.wrap (1 * 2 ^ j.val) = ((2 ^ j.val : Nat) : Int) := by decide
theorem pow8_lt : ∀ j : Fin 8, (2 : Nat) ^ j.val < 256 := by decide
theorem xor8 (a b : Nat) (ha : a < 256) (hb : b < 256) : bits .xor .u8 (a : Int) (b : Int) = ((a ^^^ b : Nat) : Int) := u8_xor_nat a b ha hb
theorem bit_ways (d i : Nat) : (d / 2 ^ i % 2 = 1 ∧ d.testBit i = true) ∨ (d / 2 ^ i % 2 = 0 ∧ d.testBit i = false) := by
  rw [Nat.testBit_eq_decide_div_mod_eq]
  rcases Nat.mod_two_eq_zero_or_one (d / 2 ^ i) with h | h
  · exact .inr ⟨h, by simp [h]⟩
  · exact .inl ⟨h, by simp [h]⟩

set_option maxHeartbeats 2000000 in
theorem rturn_any (A : Option Addr) (n m : Nat) (z : List Int) (at_ : Int) (d : Nat) (w : World) (hz : Bs w A n z) (hn : n ≤ 100000) (hby : ∀ x ∈ z, 0 ≤ x ∧ x < 256) (hd : d < 2 ^ 32) (a0 : -1000000 ≤ at_) (a1 : at_ ≤ 10000000) :
    Calls Tryd.prog 28 #[.slice A n m, .int .i64 at_, .int .u32 (d : Int)] w (RowPost (trn d (-at_) z) w) := by
  have HB := Lib.hid hby
  have HL := Lib.hid hz.1
  have HZ := Lib.hid hz
  clear hby hz
  go_enter Tryd.func28, Tryd.ntmps28
  go_wp2
  go_loopw [7, 8] (fun v i wr => ∃ k : Nat, k ≤ n ∧ i = .int .i64 k ∧ Own wr w.heap.size v ((trn d (-at_) z).take k) ∧ Below w.heap.size w wr) (fun _ i _ => n - (intOf i).toNat)
  case atStart => exact ⟨0, by omega, rfl, Own.nil _ _, Below.refl _ _⟩
  case round =>
    obtain ⟨k, hk, rfl, ho, hb⟩ := hrel
    by_cases hlt : k < n
    · have hx := HB.out _ (getD_mem (z := z) (k := k) (by rw [HL.out]; exact hlt))
      have HT : Hid ((trn d (-at_) z).take (k + 1) = (trn d (-at_) z).take k ++ [(((z.getD k 0).toNat ^^^ E (8 * k - at_) d % 256 : Nat) : Int)]) := Lib.hid (by
        have hl : k < (trn d (-at_) z).length := by rw [trn_length, HL.out]; exact hlt
        rw [List.take_succ_eq_append_getElem hl]
        congr 2
        have := trn_get (d := d) (l := z) (-at_) k (by rw [HL.out]; exact hlt)
        rw [List.getD_eq_getElem?_getD, List.getElem?_eq_getElem hl] at this
        rw [show 8 * (k : Int) - at_ = -at_ + 8 * k by omega]
        exact this)
      have HTL : Hid (((trn d (-at_) z).take k).length = k) := Lib.hid (by rw [List.length_take, trn_length, HL.out]; omega)
      generalize (trn d (-at_) z).take k = T at *
      obtain ⟨g, o, rfl, hc⟩ := (HZ.out.below hb).at_ hlt
      generalize z.getD k 0 = x at *
      obtain ⟨b, rfl⟩ := Int.eq_ofNat_of_zero_le hx.1
      have hb8 : b < 256 := by omega
      have kn : (k : Int) ≤ 100000 := by omega
      go_wp2
      go_loop [9, 10] (fun v i => ∃ j : Nat, j ≤ 8 ∧ i = .int .i64 j ∧ v = .int .u8 (b ^^^ E (8 * k - at_) d % 2 ^ j : Nat)) (fun _ i => 8 - (intOf i).toNat)
      case atStart => exact ⟨0, by omega, rfl, by rw [Nat.pow_zero, Nat.mod_one, Nat.xor_zero]⟩
      case round =>
        obtain ⟨j, hj, rfl, rfl⟩ := hrel
        have hlx : b ^^^ E (8 * k - at_) d % 2 ^ j < 256 := Nat.xor_lt_two_pow (n := 8) hb8 (Nat.lt_of_lt_of_le (Nat.mod_lt _ (Nat.pow_pos (by decide))) (Nat.pow_le_pow_right (by decide) hj))
        by_cases hjl : j < 8
        · have HN : Hid (b ^^^ E (8 * k - at_) d % 2 ^ (j + 1) = (b ^^^ E (8 * k - at_) d % 2 ^ j) ^^^ (if (E (8 * k - at_) d).testBit j then 2 ^ j else 0)) := Lib.hid (by rw [E_more, Nat.xor_assoc])
          have hbit := E_bit (8 * k - at_) d j
          have hi : ∃ i : Int, i = 8 * k + j - at_ := ⟨_, rfl⟩
          obtain ⟨i, hi⟩ := hi
          have i0 : -100000000 ≤ i := by omega
          have i1 : i ≤ 100000000 := by omega
          rw [show 8 * (k : Int) - at_ + j = i by omega] at hbit
          have hi' : 8 * (k : Int) + j - at_ = i := hi.symm
          clear hi
          have HBT := Lib.hid hbit
          clear hbit
          generalize b ^^^ E (8 * k - at_) d % 2 ^ j = X at *
          by_cases in0 : i < 0
          · have HE : Hid (X = b ^^^ E (8 * k - at_) d % 2 ^ (j + 1)) := Lib.hid (by rw [HN.out, HBT.out, show decide (0 ≤ i) = false by simp; omega]; simp)
            have hd0 : decide (0 ≤ i) = false := by simp; omega
            go_wp2
            go_round
            case rel => exact ⟨j + 1, by omega, by go_num, by rw [← HE.out]⟩
            case measure => simp [intOf]; omega
          · by_cases in1 : 32 ≤ i
            · have HE : Hid (X = b ^^^ E (8 * k - at_) d % 2 ^ (j + 1)) := Lib.hid (by rw [HN.out, HBT.out, bit_out hd (i := i.toNat) (by omega)]; simp)
              have hd0 : decide (0 ≤ i) = true := by simp; omega
              have hd1 : decide (i < 32) = false := by simp; omega
              go_wp2
              go_round
              case rel => exact ⟨j + 1, by omega, by go_num, by rw [← HE.out]⟩
              case measure => simp [intOf]; omega
            · obtain ⟨q, rfl⟩ := Int.eq_ofNat_of_zero_le (show 0 ≤ i by omega)
              have hd0 : decide ((0 : Int) ≤ q) = true := by simp
              have hd1 : decide ((q : Int) < 32) = true := by simp; omega
              have q0 : (0 : Int) ≤ q := by omega
              have q1 : (q : Int) < 32 := by omega
              have hsh : (d : Int) / 2 ^ q = ((d / 2 ^ q : Nat) : Int) := by push_cast; rfl
              have hlp := pow8_lt ⟨j, hjl⟩
              have w1 := shl8 ⟨j, hjl⟩
              simp only at hlp w1
              have w2 : (2 : Int) ^ j % 256 = ((2 ^ j : Nat) : Int) := by rw [← w1]; simp [IntKind.wrap, IntKind.bits, IntKind.signed]
              have HX := xor8 X (2 ^ j) hlx hlp
              rcases bit_ways d q with ⟨h1, h2⟩ | ⟨h1, h2⟩
              · have HE : Hid (X ^^^ 2 ^ j = b ^^^ E (8 * k - at_) d % 2 ^ (j + 1)) := Lib.hid (by rw [HN.out, HBT.out, Int.toNat_natCast, h2]; simp)
                clear h2 HN HBT
                generalize d / 2 ^ q = sk at *
                have h3 : ((sk : Int) % 2 == 1) = true := by first | (rw [beq_iff_eq]; omega) | (rw [beq_eq_false_iff_ne]; omega)
                have s0 : (0 : Int) ≤ (sk : Int) := by omega
                clear h1
                generalize 2 ^ j = pj at *
                go_wp2
                go_round
                case rel => exact ⟨j + 1, by omega, by go_num, by rw [← HE.out]⟩
                case measure => simp [intOf]; omega
              · have HE : Hid (X = b ^^^ E (8 * k - at_) d % 2 ^ (j + 1)) := Lib.hid (by rw [HN.out, HBT.out, Int.toNat_natCast, h2]; simp)
                clear h2 HN HBT
                generalize d / 2 ^ q = sk at *
                have h3 : ((sk : Int) % 2 == 1) = false := by first | (rw [beq_iff_eq]; omega) | (rw [beq_eq_false_iff_ne]; omega)
                have s0 : (0 : Int) ≤ (sk : Int) := by omega
                clear h1
                generalize 2 ^ j = pj at *
                go_wp2
                go_round
                case rel => exact ⟨j + 1, by omega, by go_num, by rw [← HE.out]⟩
                case measure => simp [intOf]; omega
        · obtain rfl : j = 8 := by omega
          obtain ⟨A, c, rfl⟩ := ho.slice
          have hbs : Bs (wr.alloc (.cells #[.int .u8 ((b ^^^ E (8 * k - at_) d % 2 ^ 8 : Nat) : Int)] 5)) (some ⟨wr.heap.size, 0, none⟩) 1 [((b ^^^ E (8 * k - at_) d % 2 ^ 8 : Nat) : Int)] := Bs.of_block (z := [((b ^^^ E (8 * k - at_) d % 2 ^ 8 : Nat) : Int)]) (heap_alloc_new _ _)
          have ho2 := ho.below (below_one wr (.cells #[.int .u8 ((b ^^^ E (8 * k - at_) d % 2 ^ 8 : Nat) : Int)] 5))
          have HT2 : Hid (T ++ [((b ^^^ E (8 * k - at_) d % 2 ^ 8 : Nat) : Int)] = (trn d (-at_) z).take (k + 1)) := Lib.hid HT.out.symm
          generalize ((b ^^^ E (8 * k - at_) d % 2 ^ 8 : Nat) : Int) = y at *
          have hbA := hb.alloc hb.size (.cells #[.int .u8 y] 5)
          have hB : w.heap.size ≤ (wr.alloc (.cells #[.int .u8 y] 5)).heap.size := by have := hb.size; simp; omega
          clear hb ho
          go_wp2_with (at_builtin; go_must (refine list_append_gr rfl (.tmp 51) (.tmp 53) rfl w.heap.size _ T rfl ho2 _ _ _ _ rfl hbs (by simp) (by rw [HTL.out]; omega) hB ?_; intro v1 w1 hown1 hg1 hgr; have hb1 := Own.belowOf hbA hB ho2 hg1; rw [HT2.out] at hown1; clear hg1 ho2 hbA hbs))
          go_roundw
          case rel => exact ⟨k + 1, by omega, by go_num, hown1, hb1⟩
          case measure => simp [intOf]; omega
    · obtain rfl : k = n := by omega
      obtain ⟨A3, c3, rfl⟩ := ho.slice
      have hT : (trn d (-at_) z).take k = trn d (-at_) z := by rw [← HL.out, ← trn_length d (-at_) z, List.take_length]
      rw [hT] at ho ⊢
      go_wp2
      go_ret
      exact Own.rowPost (B := 0) ho hb

end Go.Proofs.YtncomjeidlahlaaDoor.Cur
