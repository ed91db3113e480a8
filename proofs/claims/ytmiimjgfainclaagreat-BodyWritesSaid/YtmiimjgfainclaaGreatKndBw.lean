/- As the seat's text, without what nothing here names. -/
import Derived.Test.YtmiimjgfainclaaGreatKndAw
import Derived.Test.YtmiimjgfainclaaGreatPopMw
import Derived.Deep.Cut
namespace Go.Proofs.YtmiimjgfainclaaGreat.Cur
open Go.RowKit Mem
set_option linter.unusedVariables false
set_option maxRecDepth 100000
theorem and_i64r (p : Nat) (hp : p < 256) (x : Int) : bits .and .i64 x (p : Int) = (((x % 18446744073709551616).toNat &&& p : Nat) : Int) := by
  have hx : (x % 18446744073709551616).toNat &&& p < 2 ^ 8 := Nat.lt_of_le_of_lt Nat.and_le_right hp
  have h1 : (BitVec.ofInt 64 (p : Int)).toNat = p := by
    rw [BitVec.ofInt_natCast, BitVec.toNat_ofNat]; exact Nat.mod_eq_of_lt (by omega)
  have h2 : (BitVec.ofInt 64 x).toNat = (x % 18446744073709551616).toNat := by
    rw [BitVec.toNat_ofInt]
    rfl
  show IntKind.i64.wrap ((BitVec.ofInt 64 x &&& BitVec.ofInt 64 (p : Int)).toNat : Int) = _
  rw [BitVec.toNat_and, h1, h2, IntWalk.i64_in _ (by omega)]
theorem wrap64_modk (y : Nat) (h : y < 18446744073709551616) : (wrap64 (y : Int) % 18446744073709551616).toNat = y := by
  unfold wrap64
  omega
theorem bits_and_nat {m : Int} (M : Nat) (hM : m = M) (hm : M < 18446744073709551616) {x : Int} (X : Nat) (hX : x = X) (hx : X < 18446744073709551616) : bits .and .u64 x m = ((X &&& M : Nat) : Int) := by
  subst hM hX
  exact bits_and_u64_nat X M hx hm
theorem and_i64 (p : Nat) (hp : p < 256) (x : Int) : bits .and .i64 (p : Int) x = ((p &&& (x % 18446744073709551616).toNat : Nat) : Int) := by
  have hx : p &&& (x % 18446744073709551616).toNat < 2 ^ 8 := Nat.lt_of_le_of_lt Nat.and_le_left hp
  have h1 : (BitVec.ofInt 64 (p : Int)).toNat = p := by
    rw [BitVec.ofInt_natCast, BitVec.toNat_ofNat]; exact Nat.mod_eq_of_lt (by omega)
  have h2 : (BitVec.ofInt 64 x).toNat = (x % 18446744073709551616).toNat := by
    rw [BitVec.toNat_ofInt]
    rfl
  show IntKind.i64.wrap ((BitVec.ofInt 64 (p : Int) &&& BitVec.ofInt 64 x).toNat : Int) = _
  rw [BitVec.toNat_and, h1, h2, IntWalk.i64_in _ (by omega)]
set_option maxHeartbeats 4000000 in
theorem pc64_any (x : Nat) (w : World) (hx : x < 18446744073709551616) : Calls Tryz.prog 168 #[.int .u64 (x : Int)] w fun e w' => e = .returned (.int .i64 ((pops x : Nat) : Int)) ∧ w' = w := by
  obtain ⟨l1, l2, l3, hq⟩ := q_all hx
  obtain ⟨m1, m2, m3, hs⟩ := q_sum hq
  obtain ⟨y1, hy1⟩ : ∃ y, y = q1 x := ⟨_, rfl⟩
  obtain ⟨y2, hy2⟩ : ∃ y, y = q2 y1 := ⟨_, rfl⟩
  rw [← hy1, ← hy2] at l2 l3
  rw [← hy1] at l1
  rw [← hy1, ← hy2] at m1 m2 m3 hs
  obtain ⟨y3, hy3⟩ : ∃ y, y = q3 y2 := ⟨_, rfl⟩
  rw [← hy3] at m1 m2 m3 hs
  obtain ⟨y4, hy4⟩ : ∃ y, y = y3 + y3 / 256 := ⟨_, rfl⟩
  rw [← hy4] at m1 m2 m3 hs
  obtain ⟨y5, hy5⟩ : ∃ y, y = y4 + y4 / 65536 := ⟨_, rfl⟩
  rw [← hy5] at m2 m3 hs
  have l9 : y3 < 18446744073709551616 := by omega
  have A1 : bits .and .u64 ((x : Int) / 2) 6148914691236517205 = ((x / 2 &&& 6148914691236517205 : Nat) : Int) := bits_and_nat 6148914691236517205 rfl (by decide) (x / 2) (by omega) (by omega)
  have A2 : bits .and .u64 (x : Int) 6148914691236517205 = ((x &&& 6148914691236517205 : Nat) : Int) := bits_and_nat 6148914691236517205 rfl (by decide) x rfl hx
  have A3 : bits .and .u64 ((y1 : Int) / 4) 3689348814741910323 = ((y1 / 4 &&& 3689348814741910323 : Nat) : Int) := bits_and_nat 3689348814741910323 rfl (by decide) (y1 / 4) (by omega) (by omega)
  have A4 : bits .and .u64 (y1 : Int) 3689348814741910323 = ((y1 &&& 3689348814741910323 : Nat) : Int) := bits_and_nat 3689348814741910323 rfl (by decide) y1 rfl l1
  have A5 : bits .and .u64 ((y2 : Int) / 16 + y2) 1085102592571150095 = (((y2 / 16 + y2) &&& 1085102592571150095 : Nat) : Int) := bits_and_nat 1085102592571150095 rfl (by decide) (y2 / 16 + y2) (by omega) l3
  have E1 : IntKind.u64.wrap (bits .and .u64 ((x : Int) / 2) 6148914691236517205 + bits .and .u64 (x : Int) 6148914691236517205) = (y1 : Int) := by
    unfold q1 at hy1
    rw [A1, A2, IntWalk.u64_in _ (by omega)]
    omega
  have E2 : IntKind.u64.wrap (bits .and .u64 ((y1 : Int) / 4) 3689348814741910323 + bits .and .u64 (y1 : Int) 3689348814741910323) = (y2 : Int) := by
    unfold q2 at hy2
    rw [A3, A4, IntWalk.u64_in _ (by omega)]
    omega
  have E3 : bits .and .u64 (IntKind.u64.wrap ((y2 : Int) / 16 + y2)) 1085102592571150095 = (y3 : Int) := by
    unfold q3 at hy3
    rw [IntWalk.u64_in _ (by omega), A5, hy3]
  clear A1 A2 A3 A4 A5
  have E4 : IntKind.u64.wrap ((y3 : Int) + (y3 : Int) / 256) = (y4 : Int) := by rw [IntWalk.u64_in _ (by omega)]; omega
  have E5 : IntKind.u64.wrap ((y4 : Int) + (y4 : Int) / 65536) = (y5 : Int) := by rw [IntWalk.u64_in _ (by omega)]; omega
  have E6 : IntKind.u64.wrap ((y5 : Int) + (y5 : Int) / 4294967296) = ((y5 + y5 / 4294967296 : Nat) : Int) := by rw [IntWalk.u64_in _ (by omega)]; omega
  generalize y5 + y5 / 4294967296 = y6 at E6 hs m3
  have E7 : bits .and .i64 (wrap64 (y6 : Int)) 127 = ((pops x : Nat) : Int) := by
    refine (and_i64r 127 (by decide) _).trans ?_
    rw [wrap64_modk _ m3, Nat.and_two_pow_sub_one_eq_mod y6 7, hs]
  have H1 := Lib.hid E1
  have H2 := Lib.hid E2
  have H3 := Lib.hid E3
  have H4 := Lib.hid E4
  have H5 := Lib.hid E5
  have H6 := Lib.hid E6
  have H7 := Lib.hid E7
  clear E1 E2 E3 E4 E5 E6 E7 hs m1 m2 m3 l1 l2 l3 l9 hy1 hy2 hy3 hy4 hy5 hq
  go_enter Tryz.func168, Tryz.ntmps168
  go_upto_region 2 with (fail)
  rw [H1.out]
  go_upto_region 3 with (fail)
  rw [H2.out]
  go_upto_region 4 with (fail)
  rw [H3.out]
  go_upto_region 5 with (fail)
  rw [H4.out]
  go_upto_region 6 with (fail)
  rw [H5.out]
  go_upto_region 7 with (fail)
  rw [H6.out]
  go_wp2
  rw [H7.out]
  go_ret
  exact ⟨rfl, rfl⟩
theorem pc_any (x : Nat) (w : World) (hx : x < 18446744073709551616) : Calls Tryz.prog 114 #[.int .u64 (x : Int)] w fun e w' => e = .returned (.int .i64 ((pops x : Nat) : Int)) ∧ w' = w := by
  go_enter Tryz.func114, Tryz.ntmps114
  go_wp2_with fail
  refine (pc64_any x _ hx).mono ?_
  rintro e w1 ⟨rfl, rfl⟩
  go_wp2
  go_ret
  exact ⟨rfl, rfl⟩
def kh (k p : Int) : Bool := decide (p = 1 ∨ p = 2 ∨ p = 4 ∨ p = 8 ∨ p = 16 ∨ p = 32 ∨ p = 64 ∨ p = 128) && decide ((kof k).2.1 / p % 2 = 1)
theorem kparts_any (k : Int) (w : World) : Calls Tryz.prog 115 #[.int .i64 k] w (BPost (.int .i64 (kof k).2.1) w) := by
  unfold BPost; go_enter Tryz.func115, Tryz.ntmps115
  go_wp2_with fail
  refine (kof_any k _).mono ?_
  rintro e w1 ⟨rfl, hb⟩
  unfold kagg
  obtain ⟨F0, F1, F2⟩ := kfield (kof k).1 (kof k).2.1 (kof k).2.2 w1
  go_wp2
  go_ret
  exact ⟨rfl, hb⟩
theorem kof_bd (k : Int) : 0 ≤ (kof k).2.1 ∧ (kof k).2.1 < 256 ∧ 0 ≤ (kof k).2.2 ∧ (kof k).2.2 ≤ 13 := by
  by_cases h : 1 ≤ k ∧ k ≤ 14
  · rcases cases14 h.1 h.2 with rfl | rfl | rfl | rfl | rfl | rfl | rfl | rfl | rfl | rfl | rfl | rfl | rfl | rfl <;> decide
  · rw [kof_out h]; decide
theorem kh_pow {P x : Int} (hP0 : 0 ≤ P) (hP : P < 256) (h1 : pops (x % 18446744073709551616).toNat = 1) (h2 : bits .and .i64 P x ≠ 0) (x0 : -9223372036854775808 ≤ x) (x9 : x < 9223372036854775808) : x = 1 ∨ x = 2 ∨ x = 4 ∨ x = 8 ∨ x = 16 ∨ x = 32 ∨ x = 64 ∨ x = 128 := by
  obtain ⟨p, rfl⟩ : ∃ p : Nat, P = p := ⟨P.toNat, by omega⟩
  rw [and_i64 p (by omega)] at h2
  have h3 := and_low (p := p) (x := (x % 18446744073709551616).toNat) (by omega) (fun e => h2 (by rw [e]; rfl))
  have h4 := pops_one h1 h3 (by omega)
  clear h1 h2 h3
  omega
theorem kh_fin : ∀ p : Fin 256, ∀ i : Fin 8, ((p.val &&& 2 ^ i.val) ≠ 0 ↔ p.val / 2 ^ i.val % 2 = 1) := by decide +kernel
theorem kh_and {P x : Int} (hP0 : 0 ≤ P) (hP : P < 256) (hx : x = 1 ∨ x = 2 ∨ x = 4 ∨ x = 8 ∨ x = 16 ∨ x = 32 ∨ x = 64 ∨ x = 128) : bits .and .i64 P x ≠ 0 ↔ P / x % 2 = 1 := by
  obtain ⟨p, rfl⟩ : ∃ p : Nat, P = p := ⟨P.toNat, by omega⟩
  obtain ⟨i, hi, rfl⟩ : ∃ i : Nat, i < 8 ∧ x = ((2 ^ i : Nat) : Int) := by
    rcases hx with rfl | rfl | rfl | rfl | rfl | rfl | rfl | rfl
    · exact ⟨0, by decide, rfl⟩
    · exact ⟨1, by decide, rfl⟩
    · exact ⟨2, by decide, rfl⟩
    · exact ⟨3, by decide, rfl⟩
    · exact ⟨4, by decide, rfl⟩
    · exact ⟨5, by decide, rfl⟩
    · exact ⟨6, by decide, rfl⟩
    · exact ⟨7, by decide, rfl⟩
  have h := kh_fin ⟨p, by omega⟩ ⟨i, hi⟩
  simp only at h
  have h8 : 2 ^ i ≤ 2 ^ 7 := Nat.pow_le_pow_right (by decide) (by omega)
  rw [and_i64 p (by omega), show (((2 ^ i : Nat) : Int) % 18446744073709551616).toNat = 2 ^ i by omega]
  generalize 2 ^ i = q at *
  constructor
  · intro h2
    have := h.1 (fun e => h2 (by rw [e]; rfl))
    omega
  · intro h2 e
    exact h.2 (by omega) (by omega)
set_option maxHeartbeats 2000000 in
theorem khas_any (k x : Int) (w : World) (x0 : -9223372036854775808 ≤ x) (x9 : x < 9223372036854775808) : Calls Tryz.prog 58 #[.int .i64 k, .int .i64 x] w (BPost (.bool (kh k x)) w) := by
  obtain ⟨hP0, hP, _, _⟩ := kof_bd k
  have hu : IntKind.u64.wrap x = (((x % 18446744073709551616).toNat : Nat) : Int) := by
    rw [IntKind.wrap_u64]; omega
  have hux : (x % 18446744073709551616).toNat < 18446744073709551616 := by omega
  by_cases h1 : pops (x % 18446744073709551616).toNat = 1
  · by_cases h2 : bits .and .i64 (kof k).2.1 x = 0
    · have e : kh k x = false := by
        unfold kh
        rw [Bool.and_eq_false_iff]
        by_cases hx : x = 1 ∨ x = 2 ∨ x = 4 ∨ x = 8 ∨ x = 16 ∨ x = 32 ∨ x = 64 ∨ x = 128
        · exact .inr (decide_eq_false fun h => (kh_and hP0 hP hx).2 h h2)
        · exact .inl (decide_eq_false hx)
      rw [e]
      have H1 := Lib.hid h1
      have H2 := Lib.hid h2
      have HU := Lib.hid hu
      have HX := Lib.hid hux
      clear h1 h2 hu hux hP0 hP x0 x9
      unfold BPost; go_enter Tryz.func58, Tryz.ntmps58
      go_wp2_with fail
      rw [HU.out]
      refine (pc_any _ _ HX.out).mono ?_
      rintro e w1 ⟨rfl, rfl⟩
      rw [H1.out]
      go_wp2_with fail
      refine (kparts_any k _).mono ?_
      rintro e w1 ⟨rfl, hb⟩
      go_wp2_with fail
      rw [H2.out]
      go_wp2
      go_ret
      exact ⟨rfl, hb⟩
    · have e : kh k x = true := by
        unfold kh
        have hx := kh_pow hP0 hP h1 h2 x0 x9
        rw [Bool.and_eq_true]
        exact ⟨decide_eq_true hx, decide_eq_true ((kh_and hP0 hP hx).1 h2)⟩
      rw [e]
      have H1 := Lib.hid h1
      have HU := Lib.hid hu
      have HX := Lib.hid hux
      clear h1 hu hux hP0 hP x0 x9
      unfold BPost; go_enter Tryz.func58, Tryz.ntmps58
      go_wp2_with fail
      rw [HU.out]
      refine (pc_any _ _ HX.out).mono ?_
      rintro e w1 ⟨rfl, rfl⟩
      rw [H1.out]
      go_wp2_with fail
      refine (kparts_any k _).mono ?_
      rintro e w1 ⟨rfl, hb⟩
      go_wp2
      go_ret
      exact ⟨by simp [h2], hb⟩
  · have e : kh k x = false := by
      unfold kh
      rw [Bool.and_eq_false_iff]
      refine .inl (decide_eq_false fun hx => h1 ?_)
      rcases hx with rfl | rfl | rfl | rfl | rfl | rfl | rfl | rfl <;> decide +kernel
    rw [e]
    have h1' : ((pops (x % 18446744073709551616).toNat : Nat) : Int) ≠ 1 := by omega
    have HU := Lib.hid hu
    have HX := Lib.hid hux
    clear hu hux hP0 hP x0 x9 h1
    unfold BPost; go_enter Tryz.func58, Tryz.ntmps58
    go_wp2_with fail
    rw [HU.out]
    refine (pc_any _ _ HX.out).mono ?_
    rintro e w1 ⟨rfl, rfl⟩
    go_wp2
    go_ret
    exact ⟨rfl, Below.refl _ _⟩
end Go.Proofs.YtmiimjgfainclaaGreat.Cur
