/- The document's Get. -/
import Derived.Test.YtkedmhopajpkhaaVarD
import Derived.Test.YtkedmhopajpkhaaCurH
import Derived.Deep.LoopGhost
namespace Go.Proofs.Ytkedmhopajpkhaa.Cur
open Go.RowKit Mem
set_option linter.unusedVariables false

/-- The number that the first k bytes make. -/
def acc (z : List Int) : Nat → Int
  | 0 => 0
  | k + 1 => acc z k + z.getD k 0 % 128 * 128 ^ k
theorem acc_bd (z : List Int) (k : Nat) : 0 ≤ acc z k ∧ acc z k < 128 ^ k := by
  induction k with
  | zero => exact ⟨Int.le_refl _, by show (0 : Int) < 1; omega⟩
  | succ k ih =>
    have hp := pow128_pos k
    have h := orv_lt k (acc z k) (z.getD k 0) ih.1 ih.2
    have := Int.mul_nonneg (show 0 ≤ z.getD k 0 % 128 by omega) (Int.le_of_lt hp)
    exact ⟨by unfold acc; omega, h⟩
theorem acc_digit (z : List Int) (j : Nat) : ∀ d, ∃ S : Int, acc z (j + 1 + d) = acc z j + 128 ^ j * S ∧ S % 128 = z.getD j 0 % 128 := by
  intro d
  induction d with
  | zero => exact ⟨z.getD j 0 % 128, by show acc z j + _ = _; rw [Int.mul_comm], by omega⟩
  | succ d ih =>
    obtain ⟨S, h1, h2⟩ := ih
    refine ⟨S + 128 * (128 ^ d * (z.getD (j + 1 + d) 0 % 128)), ?_, by omega⟩
    show acc z (j + 1 + d) + z.getD (j + 1 + d) 0 % 128 * 128 ^ (j + 1 + d) = _
    rw [h1, Int.pow_add, Int.pow_add, Int.mul_add, Int.add_assoc]
    congr 2
    simp only [Int.pow_one]
    generalize z.getD (j + 1 + d) 0 % 128 = y
    generalize (128 : Int) ^ j = P
    generalize (128 : Int) ^ d = R
    rw [Int.mul_comm y, Int.mul_assoc, Int.mul_assoc, ← Int.mul_assoc 128 R y, Int.mul_assoc 128 R y]
theorem acc_div (z : List Int) (k j : Nat) (h : j < k) : acc z k / 128 ^ j = 128 * (acc z k / 128 ^ (j + 1)) + z.getD j 0 % 128 := by
  obtain ⟨S, h1, h2⟩ := acc_digit z j (k - j - 1)
  rw [show j + 1 + (k - j - 1) = k by omega] at h1
  obtain ⟨b0, b1⟩ := acc_bd z j
  have hp := pow128_pos j
  have e : acc z k / 128 ^ j = S := by
    rw [h1, Int.add_comm, Int.mul_comm, Int.add_comm, Int.add_mul_ediv_right _ _ (by omega), Int.ediv_eq_zero_of_lt b0 b1]; omega
  rw [← div128', e, ← h2]; omega
theorem acc_top (z : List Int) (k : Nat) : acc z k / 128 ^ k = 0 := Int.ediv_eq_zero_of_lt (acc_bd z k).1 (acc_bd z k).2
theorem acc_64 (z : List Int) (k : Nat) (hk : k ≤ 9) (h : k = 9 → z.getD 9 0 % 128 ≤ 1) : acc z (k + 1) < 18446744073709551616 := by
  rcases Nat.lt_or_ge k 9 with h1 | h1
  · exact Int.lt_of_lt_of_le (acc_bd z (k + 1)).2 (Int.le_trans (pow128_mono (show k + 1 ≤ 9 by omega)) (by decide))
  · obtain rfl : k = 9 := by omega
    have := h rfl
    obtain ⟨b0, b1⟩ := acc_bd z 9
    show acc z 9 + z.getD 9 0 % 128 * 128 ^ 9 < _
    have e : (128 : Int) ^ 9 = 9223372036854775808 := by decide
    rw [e] at b1 ⊢
    omega

theorem vgo_at {z : List Int} {n k : Nat} (hz : z.length = n) (hk : k < n) (i : Nat) (X : Int) : vgo (z.drop k) i X = vgo (z.getD k 0 :: z.drop (k + 1)) i X := by rw [drop_cons hz hk]



set_option maxRecDepth 100000 in
set_option maxHeartbeats 2000000 in
theorem rget_any (a : Option Addr) (n m : Nat) (z : List Int) (w : World) (hz : Bs w a n z) (hn : n ≤ 1000000) (hby : ∀ x ∈ z, 0 ≤ x ∧ x < 256) :
    Calls Try.prog 49 #[.slice a n m] w fun e w' => e = .returned (gv (vgo z 0 0)) ∧ Below w.heap.size w w' := by
  have hF := Blk.new w #[.int .i64 0, .int .i64 0] 41
  have hbd := below_one w (.cells #[.int .i64 0, .int .i64 0] 41)
  have hz1 := hz.below hbd
  go_enter Try.func49, Try.ntmps49
  go_wp2_with fail
  go_loopw [5] (fun i wr => ∃ k : Nat, k ≤ n ∧ k ≤ 9 ∧ i = .int .i64 k ∧ vgo z 0 0 = vgo (z.drop k) k (acc z k) ∧ wr = w.alloc (.cells #[.int .i64 0, .int .i64 0] 41)) (fun i _ => n - (intOf i).toNat)
  case atStart => exact ⟨0, Nat.zero_le _, Nat.zero_le _, rfl, rfl, rfl⟩
  case round =>
    obtain ⟨k, hk, hk9, rfl, hv, rfl⟩ := hrel
    have k0 : (0 : Int) ≤ k := by omega
    by_cases hlt : k < n
    · have hbb : 0 ≤ z.getD k 0 ∧ z.getD k 0 < 256 := by
        refine hby _ ?_
        have : k < z.length := by rw [hz.1]; exact hlt
        rw [List.getD_eq_getElem?_getD, List.getElem?_eq_getElem this]
        exact List.getElem_mem _
      rw [vgo_at hz.1 hlt] at hv
      obtain ⟨g, o, rfl, hc⟩ := hz1.at_ hlt
      have hcz : ∀ j : Nat, j < n → (w.alloc (.cells #[.int .i64 0, .int .i64 0] 41)).cell? ⟨g, o + j, none⟩ = some (.int .u8 (z.getD j 0)) := fun j hj => by
        obtain ⟨g', o', e, h⟩ := hz1.at_ hj
        injection e with e; injection e with e1 e2; subst e1 e2; exact h
      have HCZ := Lib.hid hcz
      have HBY := Lib.hid hby
      clear hcz hby
      obtain ⟨bb, hbe⟩ : ∃ bb, bb = z.getD k 0 := ⟨_, rfl⟩
      rw [← hbe] at hbb hv hc
      have HBE := Lib.hid hbe
      have HV0 := Lib.hid hv
      clear hbe hv
      obtain ⟨b0, b1⟩ := hbb
      have k1 : (k : Int) < n := by omega
      by_cases hi9 : k = 9
      · have hi9d : ((k : Int) == 9) = true := by simp; omega
        have hi0 : 0 < (k : Int) := by omega
        have H9 := Lib.hid hi9
        clear hi9
        by_cases ho : 1 < bb
        · have hv1 := HV0.out.trans (vgo_over H9.out ho)
          have HV := Lib.hid hv1
          clear hv1
          obtain ⟨f0, f1⟩ := hF.f2
          go_wp2_with fail
          refine (rat_any _ _ _).mono ?_
          rintro e w1 ⟨rfl, hb1⟩
          have hF1 := hF.below hb1
          obtain ⟨g0, g1⟩ := hF1.f2
          obtain ⟨c0, c1⟩ := hF1.c2
          clear f0 f1
          have hq : fq 5 (k : Int) = (k : Int) := by unfold fq; rw [if_neg (by omega)]
          have HQ := Lib.hid hq
          clear hq
          go_wp2
          refine bodyPost_ret (v := gv (vgo z 0 0)) (by rw [HV.out]; simp [results, Try.results49, go_sem, c0, c1, HQ.out]) rfl ⟨rfl, ?_⟩
          iterate 2 (refine Below.setCell ?_ (by simp) _)
          exact hbd.trans (hb1.mono hbd.size)
        · by_cases hb0 : bb = 0
          · have hv1 := HV0.out.trans (vgo_zero (by omega) hb0)
            subst hb0
            have HV := Lib.hid hv1
            clear hv1
            obtain ⟨f0, f1⟩ := hF.f2
            go_wp2_with fail
            refine (rat_any _ _ _).mono ?_
            rintro e w1 ⟨rfl, hb1⟩
            have hF1 := hF.below hb1
            obtain ⟨g0, g1⟩ := hF1.f2
            obtain ⟨c0, c1⟩ := hF1.c2
            clear f0 f1
            have hq : fq 4 (k : Int) = (k : Int) := by unfold fq; rw [if_neg (by omega)]
            have HQ := Lib.hid hq
            clear hq
            go_wp2
            refine bodyPost_ret (v := gv (vgo z 0 0)) (by rw [HV.out]; simp [results, Try.results49, go_sem, c0, c1, HQ.out]) rfl ⟨rfl, ?_⟩
            iterate 2 (refine Below.setCell ?_ (by simp) _)
            exact hbd.trans (hb1.mono hbd.size)
          · have hbz : (bb == 0) = false := by simpa using hb0
            have hlt8 : bb < 128 := by omega
            have hv1 := HV0.out.trans (vgo_done (by omega) (fun h => hb0 h.2) (by omega))
            have HV := Lib.hid hv1
            have ha64 := acc_64 z k (by omega) (fun h => by rw [show (9 : Nat) = k by omega, ← HBE.out]; omega)
            clear hv1 hb0
            obtain ⟨T, hT⟩ : ∃ T, T = acc z (k + 1) := ⟨_, rfl⟩
            have ht0 := acc_top z (k + 1)
            have hTx : acc z k + bb * 128 ^ k = T := by rw [hT]; show _ = acc z k + z.getD k 0 % 128 * 128 ^ k; rw [← HBE.out, Int.emod_eq_of_lt (by omega) (by omega)]
            rw [← hT] at ht0 ha64
            have HT := Lib.hid hT
            have HT0 := Lib.hid ht0
            have HTX := Lib.hid hTx
            have hTb : 0 ≤ T := by rw [hT]; exact (acc_bd z (k + 1)).1
            clear hT ht0 hTx
            go_wp2_with fail
            go_loop [6, 7] (fun x i => ∃ j : Nat, j ≤ k + 1 ∧ i = .int .i64 ((j : Int) - 1) ∧ x = .int .u64 (T / 128 ^ j)) (fun _ i => (intOf i + 1).toNat)
            case atStart => exact ⟨k + 1, Nat.le_refl _, by go_num, by rw [HT0.out]⟩
            case round =>
              obtain ⟨j, hj, rfl, rfl⟩ := hrel
              rcases j with _ | j
              · have e1 : ((0 : Nat) : Int) - 1 = -1 := by omega
                rw [e1]
                clear e1
                obtain ⟨f0, f1⟩ := hF.f2
                obtain ⟨c0, c1⟩ := hF.c2
                have e2 : T / 128 ^ 0 = T := by simp
                rw [e2]
                clear e2
                go_wp2
                refine bodyPost_ret (v := gv (vgo z 0 0)) (by rw [HV.out, HTX.out]; simp [results, Try.results49, go_sem, c0, c1]) rfl ⟨rfl, ?_⟩
                exact below_one _ _
              · have hcj := HCZ.out j (by omega)
                have hbj := HBY.out (z.getD j 0) (by
                  have : j < z.length := by rw [hz.1]; omega
                  rw [List.getD_eq_getElem?_getD, List.getElem?_eq_getElem this]
                  exact List.getElem_mem _)
                have hst := acc_div z (k + 1) j (by omega)
                rw [← HT.out] at hst
                have X0 : 0 ≤ T / 128 ^ (j + 1) := Int.ediv_nonneg hTb (Int.le_of_lt (pow128_pos _))
                have X1 : T / 128 ^ j ≤ T := Int.ediv_le_self _ hTb
                have HST := Lib.hid hst
                have HX : 128 * (T / 128 ^ (j + 1)) + z.getD j 0 % 128 < 18446744073709551616 := by rw [← hst]; omega
                clear hst X1
                generalize z.getD j 0 = y at *
                obtain ⟨y0, y1⟩ := hbj
                generalize T / 128 ^ (j + 1) = Y at *
                have e1 : ((j + 1 : Nat) : Int) - 1 = j := by omega
                rw [e1]
                clear e1
                have j0 : (0 : Int) ≤ j := by omega
                have j1 : (j : Int) < n := by omega
                have j2 : 128 * Y < 18446744073709551616 := by omega
                have m0 : 0 ≤ y % 128 := by omega
                have m1 : y % 128 < 128 := by omega
                go_wp2
                go_round
                case rel => exact ⟨j, by omega, rfl, by rw [HST.out]⟩
                case measure => simp [intOf]
      · have hi9d : ((k : Int) == 9) = false := by simp; omega
        have H9 := Lib.hid hi9
        have ha64 := acc_64 z k (by omega) (fun h => absurd h hi9)
        clear hi9
        by_cases hb0 : bb = 0
        · by_cases hi0 : 0 < (k : Int)
          · have hv1 := HV0.out.trans (vgo_zero (by omega) hb0)
            subst hb0
            have HV := Lib.hid hv1
            clear hv1
            obtain ⟨f0, f1⟩ := hF.f2
            go_wp2_with fail
            refine (rat_any _ _ _).mono ?_
            rintro e w1 ⟨rfl, hb1⟩
            have hF1 := hF.below hb1
            obtain ⟨g0, g1⟩ := hF1.f2
            obtain ⟨c0, c1⟩ := hF1.c2
            clear f0 f1
            have hq : fq 4 (k : Int) = (k : Int) := by unfold fq; rw [if_neg (by omega)]
            have HQ := Lib.hid hq
            clear hq
            go_wp2
            refine bodyPost_ret (v := gv (vgo z 0 0)) (by rw [HV.out]; simp [results, Try.results49, go_sem, c0, c1, HQ.out]) rfl ⟨rfl, ?_⟩
            iterate 2 (refine Below.setCell ?_ (by simp) _)
            exact hbd.trans (hb1.mono hbd.size)
          · have hv1 := HV0.out.trans (vgo_done (fun h => H9.out h.1) (fun h => by omega) (by omega))
            subst hb0
            have HV := Lib.hid hv1
            clear hv1
            obtain ⟨T, hT⟩ : ∃ T, T = acc z (k + 1) := ⟨_, rfl⟩
            have ht0 := acc_top z (k + 1)
            have hTx : acc z k + 0 * 128 ^ k = T := by rw [hT]; show _ = acc z k + z.getD k 0 % 128 * 128 ^ k; rw [← HBE.out, Int.emod_eq_of_lt (by omega) (by omega)]
            rw [← hT] at ht0 ha64
            have HT := Lib.hid hT
            have HT0 := Lib.hid ht0
            have HTX := Lib.hid hTx
            have hTb : 0 ≤ T := by rw [hT]; exact (acc_bd z (k + 1)).1
            clear hT ht0 hTx
            go_wp2_with fail
            go_loop [6, 7] (fun x i => ∃ j : Nat, j ≤ k + 1 ∧ i = .int .i64 ((j : Int) - 1) ∧ x = .int .u64 (T / 128 ^ j)) (fun _ i => (intOf i + 1).toNat)
            case atStart => exact ⟨k + 1, Nat.le_refl _, by go_num, by rw [HT0.out]⟩
            case round =>
              obtain ⟨j, hj, rfl, rfl⟩ := hrel
              rcases j with _ | j
              · have e1 : ((0 : Nat) : Int) - 1 = -1 := by omega
                rw [e1]
                clear e1
                obtain ⟨f0, f1⟩ := hF.f2
                obtain ⟨c0, c1⟩ := hF.c2
                have e2 : T / 128 ^ 0 = T := by simp
                rw [e2]
                clear e2
                go_wp2
                refine bodyPost_ret (v := gv (vgo z 0 0)) (by rw [HV.out, HTX.out]; simp [results, Try.results49, go_sem, c0, c1]) rfl ⟨rfl, ?_⟩
                exact below_one _ _
              · have hcj := HCZ.out j (by omega)
                have hbj := HBY.out (z.getD j 0) (by
                  have : j < z.length := by rw [hz.1]; omega
                  rw [List.getD_eq_getElem?_getD, List.getElem?_eq_getElem this]
                  exact List.getElem_mem _)
                have hst := acc_div z (k + 1) j (by omega)
                rw [← HT.out] at hst
                have X0 : 0 ≤ T / 128 ^ (j + 1) := Int.ediv_nonneg hTb (Int.le_of_lt (pow128_pos _))
                have X1 : T / 128 ^ j ≤ T := Int.ediv_le_self _ hTb
                have HST := Lib.hid hst
                have HX : 128 * (T / 128 ^ (j + 1)) + z.getD j 0 % 128 < 18446744073709551616 := by rw [← hst]; omega
                clear hst X1
                generalize z.getD j 0 = y at *
                obtain ⟨y0, y1⟩ := hbj
                generalize T / 128 ^ (j + 1) = Y at *
                have e1 : ((j + 1 : Nat) : Int) - 1 = j := by omega
                rw [e1]
                clear e1
                have j0 : (0 : Int) ≤ j := by omega
                have j1 : (j : Int) < n := by omega
                have j2 : 128 * Y < 18446744073709551616 := by omega
                have m0 : 0 ≤ y % 128 := by omega
                have m1 : y % 128 < 128 := by omega
                go_wp2
                go_round
                case rel => exact ⟨j, by omega, rfl, by rw [HST.out]⟩
                case measure => simp [intOf]
        · have hbz : (bb == 0) = false := by simpa using hb0
          have HB0 := Lib.hid hb0
          clear hb0
          by_cases hlt8 : bb < 128
          · have hv1 := HV0.out.trans (vgo_done (fun h => H9.out h.1) (fun h => HB0.out h.2) hlt8)
            have HV := Lib.hid hv1
            clear hv1
            by_cases hi0 : 0 < (k : Int)
            · obtain ⟨T, hT⟩ : ∃ T, T = acc z (k + 1) := ⟨_, rfl⟩
              have ht0 := acc_top z (k + 1)
              have hTx : acc z k + bb * 128 ^ k = T := by rw [hT]; show _ = acc z k + z.getD k 0 % 128 * 128 ^ k; rw [← HBE.out, Int.emod_eq_of_lt (by omega) (by omega)]
              rw [← hT] at ht0 ha64
              have HT := Lib.hid hT
              have HT0 := Lib.hid ht0
              have HTX := Lib.hid hTx
              have hTb : 0 ≤ T := by rw [hT]; exact (acc_bd z (k + 1)).1
              clear hT ht0 hTx
              go_wp2_with fail
              go_loop [6, 7] (fun x i => ∃ j : Nat, j ≤ k + 1 ∧ i = .int .i64 ((j : Int) - 1) ∧ x = .int .u64 (T / 128 ^ j)) (fun _ i => (intOf i + 1).toNat)
              case atStart => exact ⟨k + 1, Nat.le_refl _, by go_num, by rw [HT0.out]⟩
              case round =>
                obtain ⟨j, hj, rfl, rfl⟩ := hrel
                rcases j with _ | j
                · have e1 : ((0 : Nat) : Int) - 1 = -1 := by omega
                  rw [e1]
                  clear e1
                  obtain ⟨f0, f1⟩ := hF.f2
                  obtain ⟨c0, c1⟩ := hF.c2
                  have e2 : T / 128 ^ 0 = T := by simp
                  rw [e2]
                  clear e2
                  go_wp2
                  refine bodyPost_ret (v := gv (vgo z 0 0)) (by rw [HV.out, HTX.out]; simp [results, Try.results49, go_sem, c0, c1]) rfl ⟨rfl, ?_⟩
                  exact below_one _ _
                · have hcj := HCZ.out j (by omega)
                  have hbj := HBY.out (z.getD j 0) (by
                    have : j < z.length := by rw [hz.1]; omega
                    rw [List.getD_eq_getElem?_getD, List.getElem?_eq_getElem this]
                    exact List.getElem_mem _)
                  have hst := acc_div z (k + 1) j (by omega)
                  rw [← HT.out] at hst
                  have X0 : 0 ≤ T / 128 ^ (j + 1) := Int.ediv_nonneg hTb (Int.le_of_lt (pow128_pos _))
                  have X1 : T / 128 ^ j ≤ T := Int.ediv_le_self _ hTb
                  have HST := Lib.hid hst
                  have HX : 128 * (T / 128 ^ (j + 1)) + z.getD j 0 % 128 < 18446744073709551616 := by rw [← hst]; omega
                  clear hst X1
                  generalize z.getD j 0 = y at *
                  obtain ⟨y0, y1⟩ := hbj
                  generalize T / 128 ^ (j + 1) = Y at *
                  have e1 : ((j + 1 : Nat) : Int) - 1 = j := by omega
                  rw [e1]
                  clear e1
                  have j0 : (0 : Int) ≤ j := by omega
                  have j1 : (j : Int) < n := by omega
                  have j2 : 128 * Y < 18446744073709551616 := by omega
                  have m0 : 0 ≤ y % 128 := by omega
                  have m1 : y % 128 < 128 := by omega
                  go_wp2
                  go_round
                  case rel => exact ⟨j, by omega, rfl, by rw [HST.out]⟩
                  case measure => simp [intOf]
            · obtain ⟨T, hT⟩ : ∃ T, T = acc z (k + 1) := ⟨_, rfl⟩
              have ht0 := acc_top z (k + 1)
              have hTx : acc z k + bb * 128 ^ k = T := by rw [hT]; show _ = acc z k + z.getD k 0 % 128 * 128 ^ k; rw [← HBE.out, Int.emod_eq_of_lt (by omega) (by omega)]
              rw [← hT] at ht0 ha64
              have HT := Lib.hid hT
              have HT0 := Lib.hid ht0
              have HTX := Lib.hid hTx
              have hTb : 0 ≤ T := by rw [hT]; exact (acc_bd z (k + 1)).1
              clear hT ht0 hTx
              go_wp2_with fail
              go_loop [6, 7] (fun x i => ∃ j : Nat, j ≤ k + 1 ∧ i = .int .i64 ((j : Int) - 1) ∧ x = .int .u64 (T / 128 ^ j)) (fun _ i => (intOf i + 1).toNat)
              case atStart => exact ⟨k + 1, Nat.le_refl _, by go_num, by rw [HT0.out]⟩
              case round =>
                obtain ⟨j, hj, rfl, rfl⟩ := hrel
                rcases j with _ | j
                · have e1 : ((0 : Nat) : Int) - 1 = -1 := by omega
                  rw [e1]
                  clear e1
                  obtain ⟨f0, f1⟩ := hF.f2
                  obtain ⟨c0, c1⟩ := hF.c2
                  have e2 : T / 128 ^ 0 = T := by simp
                  rw [e2]
                  clear e2
                  go_wp2
                  refine bodyPost_ret (v := gv (vgo z 0 0)) (by rw [HV.out, HTX.out]; simp [results, Try.results49, go_sem, c0, c1]) rfl ⟨rfl, ?_⟩
                  exact below_one _ _
                · have hcj := HCZ.out j (by omega)
                  have hbj := HBY.out (z.getD j 0) (by
                    have : j < z.length := by rw [hz.1]; omega
                    rw [List.getD_eq_getElem?_getD, List.getElem?_eq_getElem this]
                    exact List.getElem_mem _)
                  have hst := acc_div z (k + 1) j (by omega)
                  rw [← HT.out] at hst
                  have X0 : 0 ≤ T / 128 ^ (j + 1) := Int.ediv_nonneg hTb (Int.le_of_lt (pow128_pos _))
                  have X1 : T / 128 ^ j ≤ T := Int.ediv_le_self _ hTb
                  have HST := Lib.hid hst
                  have HX : 128 * (T / 128 ^ (j + 1)) + z.getD j 0 % 128 < 18446744073709551616 := by rw [← hst]; omega
                  clear hst X1
                  generalize z.getD j 0 = y at *
                  obtain ⟨y0, y1⟩ := hbj
                  generalize T / 128 ^ (j + 1) = Y at *
                  have e1 : ((j + 1 : Nat) : Int) - 1 = j := by omega
                  rw [e1]
                  clear e1
                  have j0 : (0 : Int) ≤ j := by omega
                  have j1 : (j : Int) < n := by omega
                  have j2 : 128 * Y < 18446744073709551616 := by omega
                  have m0 : 0 ≤ y % 128 := by omega
                  have m1 : y % 128 < 128 := by omega
                  go_wp2
                  go_round
                  case rel => exact ⟨j, by omega, rfl, by rw [HST.out]⟩
                  case measure => simp [intOf]
          · have hv1 := HV0.out.trans (vgo_more (fun h => H9.out h.1) (by omega))
            have HV := Lib.hid hv1
            clear hv1
            by_cases hi0 : 0 < (k : Int)
            · go_wp2
              go_roundw
              case rel => exact ⟨k + 1, by omega, by have := H9.out; omega, by go_num, by rw [HV.out, HBE.out]; rfl, trivial⟩
              case measure => simp [intOf]; omega
            · go_wp2
              go_roundw
              case rel => exact ⟨k + 1, by omega, by have := H9.out; omega, by go_num, by rw [HV.out, HBE.out]; rfl, trivial⟩
              case measure => simp [intOf]; omega
    · obtain rfl : k = n := by omega
      have hv1 := hv.trans (by rw [List.drop_eq_nil_of_le (by have := hz.1; omega), vgo_nil])
      have HV := Lib.hid hv1
      have hge : ¬ (k : Int) < k := by omega
      clear hv1 hv hlt
      obtain ⟨f0, f1⟩ := hF.f2
      go_wp2_with fail
      refine (rat_any _ _ _).mono ?_
      rintro e w1 ⟨rfl, hb1⟩
      have hF1 := hF.below hb1
      obtain ⟨g0, g1⟩ := hF1.f2
      obtain ⟨c0, c1⟩ := hF1.c2
      clear f0 f1
      have hq : fq 1 (k : Int) = (k : Int) := by unfold fq; rw [if_neg (by omega)]
      have HQ := Lib.hid hq
      clear hq
      go_wp2
      refine bodyPost_ret (v := gv (vgo z 0 0)) (by rw [HV.out]; simp [results, Try.results49, go_sem, c0, c1, HQ.out]) rfl ⟨rfl, ?_⟩
      iterate 2 (refine Below.setCell ?_ (by simp) _)
      exact hbd.trans (hb1.mono hbd.size)
end Go.Proofs.Ytkedmhopajpkhaa.Cur
