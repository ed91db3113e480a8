/- As the seat's text, without what nothing here names. -/
import Derived.Test.YtmiimjgfainclaaGreatK1w
import Derived.Laws.Bits64b
namespace Go.Proofs.YtmiimjgfainclaaGreat.Cur
open Go.RowKit Mem
set_option linter.unusedVariables false
set_option maxRecDepth 100000
def vv : List Nat → Nat
  | [] => 0
  | b :: l => 256 * vv l + b
def hd0p : List Nat → Nat
  | [] => 0
  | b :: _ => b
def shq (q : Nat) : List Nat → List Nat
  | [] => []
  | b :: l => (b / q + hd0p l % q * (256 / q)) :: shq q l
def zw (f : Nat → Nat → Nat) : List Nat → List Nat → List Nat
  | b :: l, c :: m => f b c :: zw f l m
  | _, _ => []
theorem and_split (a m : Nat) {b c : Nat} (hb : b < 256) (hc : c < 256) : (256 * a + b) &&& (256 * m + c) = 256 * (a &&& m) + (b &&& c) := by
  have h3 : b &&& c < 2 ^ 8 := Nat.and_lt_two_pow _ hc
  refine Nat.eq_of_testBit_eq fun i => ?_
  rw [Nat.testBit_and, show (256 : Nat) = 2 ^ 8 from rfl, Nat.testBit_two_pow_mul_add _ hb, Nat.testBit_two_pow_mul_add _ hc, Nat.testBit_two_pow_mul_add _ h3]
  by_cases h : i < 8
  · rw [if_pos h, if_pos h, if_pos h, Nat.testBit_and]
  · rw [if_neg h, if_neg h, if_neg h, Nat.testBit_and]
theorem and_vv (c : Nat) (hc : c < 256) : ∀ (l : List Nat), (∀ b ∈ l, b < 256) → (vv l &&& vv (List.replicate l.length c)) = vv (l.map (· &&& c))
  | [], _ => Nat.zero_and _
  | b :: l, h => by
    show (256 * vv l + b &&& 256 * vv (List.replicate l.length c) + c) = 256 * vv (l.map (· &&& c)) + (b &&& c)
    rw [and_split _ _ (h b (by simp)) hc, and_vv c hc l (fun x hx => h x (by simp [hx]))]
theorem vv_hd (q : Nat) (hq : q ∣ 256) : ∀ l : List Nat, vv l % q = hd0p l % q
  | [] => rfl
  | b :: l => by
    show (256 * vv l + b) % q = b % q
    obtain ⟨r, hr⟩ := hq
    rw [hr, Nat.mul_assoc, Nat.add_comm, Nat.add_mul_mod_self_left]
theorem shq_vv (q r : Nat) (hq : q * r = 256) (h0 : 0 < q) : ∀ l : List Nat, vv l / q = vv (shq q l)
  | [] => Nat.zero_div q
  | b :: l => by
    show (256 * vv l + b) / q = 256 * vv (shq q l) + (b / q + hd0p l % q * (256 / q))
    rw [← shq_vv q r hq h0 l, ← vv_hd q ⟨r, hq.symm⟩ l]
    have e1 : 256 * vv l + b = q * (r * vv l) + b := by rw [← hq, Nat.mul_assoc]
    have e2 : 256 / q = r := by rw [← hq]; exact Nat.mul_div_cancel_left r h0
    have e3 := Nat.div_add_mod (vv l) q
    rw [e1, Nat.mul_add_div h0, e2]
    have e4 : r * vv l = 256 * (vv l / q) + vv l % q * r := by
      calc r * vv l = r * (q * (vv l / q) + vv l % q) := by rw [e3]
        _ = q * r * (vv l / q) + vv l % q * r := by rw [Nat.mul_add, ← Nat.mul_assoc, Nat.mul_comm r q, Nat.mul_comm r (vv l % q)]
        _ = _ := by rw [hq]
    rw [e4]
    omega
theorem shq_lt (q r : Nat) (hq : q * r = 256) (h0 : 0 < q) : ∀ l : List Nat, (∀ b ∈ l, b < 256) → ∀ b ∈ shq q l, b < 256
  | [], _, _, h => by cases h
  | b :: l, h, c, hc => by
    rcases List.mem_cons.1 hc with rfl | hc
    · have e2 : 256 / q = r := by rw [← hq]; exact Nat.mul_div_cancel_left r h0
      have h1 : b / q < r := by
        rw [Nat.div_lt_iff_lt_mul h0, Nat.mul_comm, hq]; exact h b (by simp)
      have h2 : hd0p l % q < q := Nat.mod_lt _ h0
      rw [e2]
      have h3 : hd0p l % q * r ≤ (q - 1) * r := Nat.mul_le_mul_right r (by omega)
      have h4 : (q - 1) * r + r = 256 := by rw [← hq, ← Nat.succ_mul]; congr 1; omega
      omega
    · exact shq_lt q r hq h0 l (fun x hx => h x (by simp [hx])) c hc
theorem vv_add : ∀ l m : List Nat, l.length = m.length → vv l + vv m = vv (zw (· + ·) l m)
  | [], [], _ => rfl
  | b :: l, c :: m, h => by
    have := vv_add l m (by simpa using h)
    show 256 * vv l + b + (256 * vv m + c) = 256 * vv (zw (· + ·) l m) + (b + c)
    omega
theorem shq_len (q : Nat) : ∀ l : List Nat, (shq q l).length = l.length
  | [] => rfl
  | b :: l => by simp [shq, shq_len q l]
def s1 (b : Nat) : Nat := (b / 2 &&& 85) + (b &&& 85)
def s2 (b : Nat) : Nat := (b / 4 &&& 51) + (b &&& 51)
def s3 (b : Nat) : Nat := (b / 16 + b) &&& 15
def pop (b : Nat) : Nat := s3 (s2 (s1 b))
theorem s1_fin : ∀ b : Fin 256, ∀ c : Fin 2, ((b.val / 2 + c.val * 128) &&& 85) = (b.val / 2 &&& 85) ∧ s1 b.val < 256 := by decide +kernel
theorem s2_fin : ∀ b : Fin 256, ∀ c : Fin 4, ((b.val / 4 + c.val * 64) &&& 51) = (b.val / 4 &&& 51) ∧ s2 b.val < 256 := by decide +kernel
theorem s12_fin : ∀ b : Fin 256, s2 (s1 b.val) % 16 ≤ 4 ∧ s2 (s1 b.val) / 16 ≤ 4 ∧ s2 (s1 b.val) < 256 := by decide +kernel
theorem s3_fin : ∀ b : Fin 256, ∀ c : Fin 5, b.val % 16 ≤ 4 → b.val / 16 ≤ 4 → ((b.val / 16 + c.val * 16 + b.val) &&& 15) = s3 b.val ∧ b.val / 16 + c.val * 16 + b.val < 256 := by decide +kernel
theorem pop_fin : ∀ b : Fin 256, pop b.val ≤ 8 ∧ (pop b.val = 0 → b.val = 0) ∧ (pop b.val = 1 → b.val = 1 ∨ b.val = 2 ∨ b.val = 4 ∨ b.val = 8 ∨ b.val = 16 ∨ b.val = 32 ∨ b.val = 64 ∨ b.val = 128) := by decide +kernel
theorem step1 : ∀ l : List Nat, (∀ b ∈ l, b < 256) → zw (· + ·) ((shq 2 l).map (· &&& 85)) (l.map (· &&& 85)) = l.map s1
  | [], _ => rfl
  | b :: l, h => by
    show (((b / 2 + hd0p l % 2 * (256 / 2)) &&& 85) + (b &&& 85)) :: zw (· + ·) ((shq 2 l).map (· &&& 85)) (l.map (· &&& 85)) = s1 b :: l.map s1
    rw [step1 l (fun x hx => h x (by simp [hx]))]
    have := (s1_fin ⟨b, h b (by simp)⟩ ⟨hd0p l % 2, by omega⟩).1
    simp only at this
    rw [show 256 / 2 = 128 from rfl, this]
    rfl
theorem step2 : ∀ l : List Nat, (∀ b ∈ l, b < 256) → zw (· + ·) ((shq 4 l).map (· &&& 51)) (l.map (· &&& 51)) = l.map s2
  | [], _ => rfl
  | b :: l, h => by
    show (((b / 4 + hd0p l % 4 * (256 / 4)) &&& 51) + (b &&& 51)) :: zw (· + ·) ((shq 4 l).map (· &&& 51)) (l.map (· &&& 51)) = s2 b :: l.map s2
    rw [step2 l (fun x hx => h x (by simp [hx]))]
    have := (s2_fin ⟨b, h b (by simp)⟩ ⟨hd0p l % 4, by omega⟩).1
    simp only at this
    rw [show 256 / 4 = 64 from rfl, this]
    rfl
theorem step3 : ∀ l : List Nat, (∀ b ∈ l, b < 256 ∧ b % 16 ≤ 4 ∧ b / 16 ≤ 4) → (zw (· + ·) (shq 16 l) l).map (· &&& 15) = l.map s3 ∧ ∀ x ∈ zw (· + ·) (shq 16 l) l, x < 256
  | [], _ => ⟨rfl, fun x hx => by cases hx⟩
  | b :: l, h => by
    obtain ⟨h1, h2, h3⟩ := h b (by simp)
    have hh : hd0p l % 16 < 5 := by
      cases l with
      | nil => exact (by decide : (0 : Nat) < 5)
      | cons c l =>
        have := (h c (by simp)).2.1
        show c % 16 < 5
        omega
    obtain ⟨i1, i2⟩ := step3 l (fun x hx => h x (by simp [hx]))
    obtain ⟨f1, f2⟩ := s3_fin ⟨b, h1⟩ ⟨hd0p l % 16, hh⟩ h2 h3
    simp only at f1 f2
    refine ⟨?_, fun x hx => ?_⟩
    · show ((b / 16 + hd0p l % 16 * (256 / 16)) + b &&& 15) :: (zw (· + ·) (shq 16 l) l).map (· &&& 15) = s3 b :: l.map s3
      rw [i1, show 256 / 16 = 16 from rfl, f1]
    · rcases List.mem_cons.1 hx with rfl | hx
      · rw [show 256 / 16 = 16 from rfl]; exact f2
      · exact i2 x hx
theorem zw_len (f : Nat → Nat → Nat) : ∀ l m : List Nat, l.length = m.length → (zw f l m).length = l.length
  | [], [], _ => rfl
  | b :: l, c :: m, h => by simp [zw, zw_len f l m (by simpa using h)]
theorem pop1 (l : List Nat) (h : ∀ b ∈ l, b < 256) : (vv l / 2 &&& vv (List.replicate l.length 85)) + (vv l &&& vv (List.replicate l.length 85)) = vv (l.map s1) := by
  have hs := shq_lt 2 128 rfl (by decide) l h
  have e := and_vv 85 (by decide) (shq 2 l) hs
  rw [shq_len] at e
  rw [shq_vv 2 128 rfl (by decide), e, and_vv 85 (by decide) l h, vv_add _ _ (by simp [shq_len]), step1 l h]
theorem pop2 (l : List Nat) (h : ∀ b ∈ l, b < 256) : (vv l / 4 &&& vv (List.replicate l.length 51)) + (vv l &&& vv (List.replicate l.length 51)) = vv (l.map s2) := by
  have hs := shq_lt 4 64 rfl (by decide) l h
  have e := and_vv 51 (by decide) (shq 4 l) hs
  rw [shq_len] at e
  rw [shq_vv 4 64 rfl (by decide), e, and_vv 51 (by decide) l h, vv_add _ _ (by simp [shq_len]), step2 l h]
theorem pop3 (l : List Nat) (h : ∀ b ∈ l, b < 256 ∧ b % 16 ≤ 4 ∧ b / 16 ≤ 4) : ((vv l / 16 + vv l) &&& vv (List.replicate l.length 15)) = vv (l.map s3) := by
  obtain ⟨h1, h2⟩ := step3 l h
  have e := and_vv 15 (by decide) _ h2
  rw [zw_len _ _ _ (shq_len 16 l), shq_len] at e
  rw [shq_vv 16 16 rfl (by decide), vv_add _ _ (shq_len 16 l), e, h1]
def by8 (x : Nat) : List Nat := [x % 256, x / 256 % 256, x / 65536 % 256, x / 16777216 % 256, x / 4294967296 % 256, x / 1099511627776 % 256, x / 281474976710656 % 256, x / 72057594037927936 % 256]
theorem by8_vv {x : Nat} (h : x < 18446744073709551616) : vv (by8 x) = x := by
  simp only [by8, vv]
  omega
theorem by8_lt (x : Nat) : ∀ b ∈ by8 x, b < 256 := by
  intro b hb
  simp only [by8, List.mem_cons, List.not_mem_nil, or_false] at hb
  omega
def pops (x : Nat) : Nat := (by8 x).foldr (fun b s => pop b + s) 0
theorem vv_lt : ∀ l : List Nat, (∀ b ∈ l, b < 256) → vv l < 256 ^ l.length
  | [], _ => (by decide : (0 : Nat) < 1)
  | b :: l, h => by
    have := vv_lt l (fun x hx => h x (by simp [hx]))
    have h2 := h b (by simp)
    show 256 * vv l + b < 256 ^ (l.length + 1)
    rw [Nat.pow_succ]
    omega
theorem vv_lt8 {l : List Nat} (h : ∀ b ∈ l, b < 256) (hl : l.length = 8) : vv l < 18446744073709551616 := by
  have := vv_lt l h
  rw [hl] at this
  exact Nat.lt_of_lt_of_eq this (by decide)
def q1 (x : Nat) : Nat := (x / 2 &&& 6148914691236517205) + (x &&& 6148914691236517205)
def q2 (x : Nat) : Nat := (x / 4 &&& 3689348814741910323) + (x &&& 3689348814741910323)
def q3 (x : Nat) : Nat := (x / 16 + x) &&& 1085102592571150095
theorem q1_is {l : List Nat} (h : ∀ b ∈ l, b < 256) (hl : l.length = 8) : q1 (vv l) = vv (l.map s1) := by
  have := pop1 l h
  rw [hl] at this
  exact this
theorem q2_is {l : List Nat} (h : ∀ b ∈ l, b < 256) (hl : l.length = 8) : q2 (vv l) = vv (l.map s2) := by
  have := pop2 l h
  rw [hl] at this
  exact this
theorem q3_is {l : List Nat} (h : ∀ b ∈ l, b < 256 ∧ b % 16 ≤ 4 ∧ b / 16 ≤ 4) (hl : l.length = 8) : q3 (vv l) = vv (l.map s3) := by
  have := pop3 l h
  rw [hl] at this
  exact this
theorem q_all {x : Nat} (h : x < 18446744073709551616) : q1 x < 18446744073709551616 ∧ q2 (q1 x) < 18446744073709551616 ∧ q2 (q1 x) / 16 + q2 (q1 x) < 18446744073709551616 ∧ q3 (q2 (q1 x)) = vv ((by8 x).map pop) := by
  have hb := by8_lt x
  have e0 := by8_vv h
  have e1 : q1 x = vv ((by8 x).map s1) := by
    have := q1_is hb (by simp [by8])
    rw [e0] at this
    exact this
  have b1 : ∀ b ∈ (by8 x).map s1, b < 256 := fun b hm => by
    obtain ⟨c, hc, rfl⟩ := List.mem_map.1 hm
    exact (s1_fin ⟨c, hb c hc⟩ 0).2
  have e2 : q2 (q1 x) = vv (((by8 x).map s1).map s2) := by rw [e1]; exact q2_is b1 (by simp [by8])
  have b2 : ∀ b ∈ ((by8 x).map s1).map s2, b < 256 ∧ b % 16 ≤ 4 ∧ b / 16 ≤ 4 := fun b hm => by
    rw [List.map_map] at hm
    obtain ⟨c, hc, rfl⟩ := List.mem_map.1 hm
    obtain ⟨f1, f2, f3⟩ := s12_fin ⟨c, hb c hc⟩
    exact ⟨f3, f1, f2⟩
  have e3 : q3 (q2 (q1 x)) = vv ((((by8 x).map s1).map s2).map s3) := by rw [e2]; exact q3_is b2 (by simp [by8])
  have l1 : q1 x < 18446744073709551616 := by rw [e1]; exact vv_lt8 b1 (by simp [by8])
  have l2 : q2 (q1 x) < 18446744073709551616 := by rw [e2]; exact vv_lt8 (fun b hm => (b2 b hm).1) (by simp [by8])
  have l3 : q2 (q1 x) / 16 + q2 (q1 x) < 18446744073709551616 := by
    rw [e2, shq_vv 16 16 rfl (by decide), vv_add _ _ (shq_len 16 _)]
    exact vv_lt8 (step3 _ b2).2 (by rw [zw_len _ _ _ (shq_len 16 _), shq_len]; simp [by8])
  refine ⟨l1, l2, l3, ?_⟩
  rw [e3, List.map_map, List.map_map]
  rfl
theorem dv256 (A b : Nat) (h : b < 256) : (256 * A + b) / 256 = A := by omega
theorem last1 {a0 a1 a2 a3 a4 a5 a6 a7 y : Nat} (h : y = 256 * (256 * (256 * (256 * (256 * (256 * (256 * a7 + a6) + a5) + a4) + a3) + a2) + a1) + a0) (h0 : a0 ≤ 8) :
    y + y / 256 = 256 * (256 * (256 * (256 * (256 * (256 * (256 * a7 + (a6 + a7)) + (a5 + a6)) + (a4 + a5)) + (a3 + a4)) + (a2 + a3)) + (a1 + a2)) + (a0 + a1) := by
  have e : y / 256 = 256 * (256 * (256 * (256 * (256 * (256 * a7 + a6) + a5) + a4) + a3) + a2) + a1 := by rw [h]; exact dv256 _ _ (by omega)
  rw [e, h]
  omega
theorem last2 {a0 a1 a2 a3 a4 a5 a6 a7 y : Nat} (h : y = 256 * (256 * (256 * (256 * (256 * (256 * (256 * a7 + a6) + a5) + a4) + a3) + a2) + a1) + a0) (h0 : a0 ≤ 16) (h1 : a1 ≤ 16) :
    y + y / 65536 = 256 * (256 * (256 * (256 * (256 * (256 * (256 * a7 + a6) + (a5 + a7)) + (a4 + a6)) + (a3 + a5)) + (a2 + a4)) + (a1 + a3)) + (a0 + a2) := by
  have e : y / 65536 = 256 * (256 * (256 * (256 * (256 * a7 + a6) + a5) + a4) + a3) + a2 := by
    rw [show (65536 : Nat) = 256 * 256 from rfl, ← Nat.div_div_eq_div_mul, h, dv256 _ _ (by omega), dv256 _ _ (by omega)]
  rw [e, h]
  omega
theorem last3 {a0 a1 a2 a3 a4 a5 a6 a7 y : Nat} (h : y = 256 * (256 * (256 * (256 * (256 * (256 * (256 * a7 + a6) + a5) + a4) + a3) + a2) + a1) + a0) (h0 : a0 ≤ 32) (h1 : a1 ≤ 32) (h2 : a2 ≤ 32) (h3 : a3 ≤ 32) :
    y / 4294967296 = 256 * (256 * (256 * a7 + a6) + a5) + a4 := by
  rw [show (4294967296 : Nat) = 256 * 256 * 256 * 256 from rfl, ← Nat.div_div_eq_div_mul, ← Nat.div_div_eq_div_mul, ← Nat.div_div_eq_div_mul, h, dv256 _ _ (by omega), dv256 _ _ (by omega), dv256 _ _ (by omega), dv256 _ _ (by omega)]
theorem last5 {a0 a1 a2 a3 a4 a5 a6 a7 c0 c1 c2 c3 : Nat} : (256 * (256 * (256 * (256 * (256 * (256 * (256 * a7 + a6) + a5) + a4) + a3) + a2) + a1) + a0 + (256 * (256 * (256 * c3 + c2) + c1) + c0)) % 128 = (a0 + c0) % 128 := by
  generalize 256 * (256 * (256 * (256 * (256 * (256 * a7 + a6) + a5) + a4) + a3) + a2) + a1 = X
  generalize 256 * (256 * c3 + c2) + c1 = Y
  omega
theorem last_lt {a0 a1 a2 a3 a4 a5 a6 a7 : Nat} (h0 : a0 < 256) (h1 : a1 < 256) (h2 : a2 < 256) (h3 : a3 < 256) (h4 : a4 < 256) (h5 : a5 < 256) (h6 : a6 < 256) (h7 : a7 < 256) : 256 * (256 * (256 * (256 * (256 * (256 * (256 * a7 + a6) + a5) + a4) + a3) + a2) + a1) + a0 < 18446744073709551616 := by omega
theorem last_add (a0 a1 a2 a3 a4 a5 a6 a7 c0 c1 c2 c3 : Nat) : 256 * (256 * (256 * (256 * (256 * (256 * (256 * a7 + a6) + a5) + a4) + a3) + a2) + a1) + a0 + (256 * (256 * (256 * c3 + c2) + c1) + c0) = 256 * (256 * (256 * (256 * (256 * (256 * (256 * a7 + a6) + a5) + a4) + (a3 + c3)) + (a2 + c2)) + (a1 + c1)) + (a0 + c0) := by omega
theorem q_sum0 {a0 a1 a2 a3 a4 a5 a6 a7 y : Nat} (p0 : a0 ≤ 8) (p1 : a1 ≤ 8) (p2 : a2 ≤ 8) (p3 : a3 ≤ 8) (p4 : a4 ≤ 8) (p5 : a5 ≤ 8) (p6 : a6 ≤ 8) (p7 : a7 ≤ 8) :
    y = 256 * (256 * (256 * (256 * (256 * (256 * (256 * a7 + a6) + a5) + a4) + a3) + a2) + a1) + a0 → y + y / 256 < 18446744073709551616 ∧ (y + y / 256) + (y + y / 256) / 65536 < 18446744073709551616 ∧ ((y + y / 256) + (y + y / 256) / 65536) + ((y + y / 256) + (y + y / 256) / 65536) / 4294967296 < 18446744073709551616 ∧
    (((y + y / 256) + (y + y / 256) / 65536) + ((y + y / 256) + (y + y / 256) / 65536) / 4294967296) % 128 = a0 + (a1 + (a2 + (a3 + (a4 + (a5 + (a6 + (a7 + 0))))))) := by
  have u0 : a0 + a1 ≤ 16 := by omega
  have u1 : a1 + a2 ≤ 16 := by omega
  have u2 : a2 + a3 ≤ 16 := by omega
  have u3 : a3 + a4 ≤ 16 := by omega
  have u4 : a4 + a5 ≤ 16 := by omega
  have u5 : a5 + a6 ≤ 16 := by omega
  have u6 : a6 + a7 ≤ 16 := by omega
  have v0 : a0 + a1 + (a2 + a3) ≤ 32 := by omega
  have v1 : a1 + a2 + (a3 + a4) ≤ 32 := by omega
  have v2 : a2 + a3 + (a4 + a5) ≤ 32 := by omega
  have v3 : a3 + a4 + (a5 + a6) ≤ 32 := by omega
  have v4 : a4 + a5 + (a6 + a7) < 256 := by omega
  have v5 : a5 + a6 + a7 < 256 := by omega
  have hsum : (a0 + a1 + (a2 + a3) + (a4 + a5 + (a6 + a7))) % 128 = a0 + (a1 + (a2 + (a3 + (a4 + (a5 + (a6 + (a7 + 0))))))) := by omega
  have w0 : a0 + a1 + (a2 + a3) + (a4 + a5 + (a6 + a7)) < 256 := by omega
  have w1 : a1 + a2 + (a3 + a4) + (a5 + a6 + a7) < 256 := by omega
  have w2 : a2 + a3 + (a4 + a5) + (a6 + a7) < 256 := by omega
  have w3 : a3 + a4 + (a5 + a6) + a7 < 256 := by omega
  intro hy
  have z1 := last1 hy p0
  generalize y + y / 256 = y1 at z1 ⊢
  clear hy
  have z2 := last2 z1 u0 u1
  have b1 : y1 < 18446744073709551616 := by
    rw [z1]
    exact last_lt (Nat.lt_of_le_of_lt u0 (by decide)) (Nat.lt_of_le_of_lt u1 (by decide)) (Nat.lt_of_le_of_lt u2 (by decide)) (Nat.lt_of_le_of_lt u3 (by decide)) (Nat.lt_of_le_of_lt u4 (by decide)) (Nat.lt_of_le_of_lt u5 (by decide)) (Nat.lt_of_le_of_lt u6 (by decide)) (Nat.lt_of_le_of_lt p7 (by decide))
  generalize y1 + y1 / 65536 = y2 at z2 ⊢
  clear z1
  have z3 := last3 z2 v0 v1 v2 v3
  have b2 : y2 < 18446744073709551616 := by
    rw [z2]
    exact last_lt (Nat.lt_of_le_of_lt v0 (by decide)) (Nat.lt_of_le_of_lt v1 (by decide)) (Nat.lt_of_le_of_lt v2 (by decide)) (Nat.lt_of_le_of_lt v3 (by decide)) v4 v5 (Nat.lt_of_le_of_lt u6 (by decide)) (Nat.lt_of_le_of_lt p7 (by decide))
  rw [z3]
  generalize a0 + a1 + (a2 + a3) = c0 at *
  generalize a1 + a2 + (a3 + a4) = c1 at *
  generalize a2 + a3 + (a4 + a5) = c2 at *
  generalize a3 + a4 + (a5 + a6) = c3 at *
  generalize a4 + a5 + (a6 + a7) = c4 at *
  generalize a5 + a6 + a7 = c5 at *
  generalize a6 + a7 = c6 at *
  refine ⟨b1, b2, ?_, ?_⟩
  · rw [z2, last_add]
    exact last_lt w0 w1 w2 w3 v4 v5 (Nat.lt_of_le_of_lt u6 (by decide)) (Nat.lt_of_le_of_lt p7 (by decide))
  · rw [z2, last5, hsum]
theorem q_sum {x y : Nat} (hy : y = vv ((by8 x).map pop)) : y + y / 256 < 18446744073709551616 ∧ (y + y / 256) + (y + y / 256) / 65536 < 18446744073709551616 ∧ ((y + y / 256) + (y + y / 256) / 65536) + ((y + y / 256) + (y + y / 256) / 65536) / 4294967296 < 18446744073709551616 ∧
    (((y + y / 256) + (y + y / 256) / 65536) + ((y + y / 256) + (y + y / 256) / 65536) / 4294967296) % 128 = pops x := by
  have hp : ∀ b ∈ by8 x, pop b ≤ 8 := fun b hm => (pop_fin ⟨b, by8_lt x b hm⟩).1
  unfold by8 at hy hp
  simp only [List.map, vv, Nat.mul_zero, Nat.zero_add] at hy
  unfold pops by8
  simp only [List.foldr]
  simp only [List.mem_cons, List.not_mem_nil, or_false, forall_eq_or_imp, forall_eq] at hp
  obtain ⟨p0, p1, p2, p3, p4, p5, p6, p7⟩ := hp
  exact q_sum0 p0 p1 p2 p3 p4 p5 p6 p7 hy
theorem pops_one {x : Nat} (h1 : pops x = 1) (h2 : x % 256 ≠ 0) (h : x < 18446744073709551616) : x = 1 ∨ x = 2 ∨ x = 4 ∨ x = 8 ∨ x = 16 ∨ x = 32 ∨ x = 64 ∨ x = 128 := by
  have hb := by8_lt x
  have hp : ∀ b ∈ by8 x, (pop b = 0 → b = 0) ∧ (pop b = 1 → b = 1 ∨ b = 2 ∨ b = 4 ∨ b = 8 ∨ b = 16 ∨ b = 32 ∨ b = 64 ∨ b = 128) := fun b hm => (pop_fin ⟨b, hb b hm⟩).2
  unfold pops at h1
  unfold by8 at h1 hp
  simp only [List.foldr, List.mem_cons, List.not_mem_nil, or_false, forall_eq_or_imp, forall_eq] at h1 hp
  obtain ⟨⟨p0, p00⟩, ⟨p1, _⟩, ⟨p2, _⟩, ⟨p3, _⟩, ⟨p4, _⟩, ⟨p5, _⟩, ⟨p6, _⟩, ⟨p7, _⟩⟩ := hp
  have n0 : pop (x % 256) ≠ 0 := fun e => h2 (p0 e)
  have m0 := p00 (by omega)
  have m1 := p1 (by omega)
  have m2 := p2 (by omega)
  have m3 := p3 (by omega)
  have m4 := p4 (by omega)
  have m5 := p5 (by omega)
  have m6 := p6 (by omega)
  have m7 := p7 (by omega)
  clear hb p0 p00 p1 p2 p3 p4 p5 p6 p7 h1 n0
  omega
theorem and_low {p x : Nat} (hp : p < 256) (h : p &&& x ≠ 0) : x % 256 ≠ 0 := by
  intro e
  apply h
  have h1 : x = 256 * (x / 256) + 0 := by omega
  have h2 : p = 256 * 0 + p := by omega
  rw [h1, h2, and_split _ _ hp (by decide), Nat.zero_and, Nat.and_zero]
end Go.Proofs.YtmiimjgfainclaaGreat.Cur
