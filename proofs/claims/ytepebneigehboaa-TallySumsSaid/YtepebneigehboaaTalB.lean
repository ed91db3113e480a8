/- The contracts of package tally, II: of one and two numbers. -/
import Derived.Test.YtepebneigehboaaTalA
namespace Go.Proofs.Ytepebneigehboaa.Cur
open Go.RowKit Mem Flt
set_option linter.unusedVariables false
set_option maxRecDepth 100000


theorem right_any {x y : Nat} {n m : Int} (h : Pt x n) (h' : Pt y m) (w : World) :
    Calls Try.prog 11 #[.complex .f64 x y] w fun e w' => e = .returned (.bool (rt n m)) ∧ w = w' := by
  have hg := pt_gt0 h
  have hq := pt_eq0 h'
  have c1 := count_any h
  have c2 := count_any h'
  clear h h'
  by_cases h0 : 0 ≤ n ∧ n ≤ 1125899906842624
  · rw [decide_eq_true h0] at c1
    by_cases h1 : 0 ≤ m ∧ m ≤ 1125899906842624
    · rw [decide_eq_true h1] at c2
      by_cases h2 : 0 < n
      · rw [decide_eq_true h2] at hg
        have e : rt n m = true := decide_eq_true (by omega)
        rw [e]
        clear hq h0 h1 h2 e
        go_enter Try.func11, Try.ntmps11
        go_wp2_with fail
        refine (c1 _).mono ?_
        rintro e w' ⟨rfl, rfl⟩
        go_wp2_with fail
        refine (c2 _).mono ?_
        rintro e w' ⟨rfl, rfl⟩
        go_wp2
        go_ret
        exact ⟨rfl, rfl⟩
      · rw [decide_eq_false h2] at hg
        have e : rt n m = decide (m = 0) := decide_eq_decide.2 (by omega)
        rw [e, ← hq]
        clear hq h0 h1 h2 e
        go_enter Try.func11, Try.ntmps11
        go_wp2_with fail
        refine (c1 _).mono ?_
        rintro e w' ⟨rfl, rfl⟩
        go_wp2_with fail
        refine (c2 _).mono ?_
        rintro e w' ⟨rfl, rfl⟩
        go_wp2
        go_ret
        exact ⟨rfl, rfl⟩
    · rw [decide_eq_false h1] at c2
      have e : rt n m = false := decide_eq_false (by omega)
      rw [e]
      clear hq hg h0 h1 e
      go_enter Try.func11, Try.ntmps11
      go_wp2_with fail
      refine (c1 _).mono ?_
      rintro e w' ⟨rfl, rfl⟩
      go_wp2_with fail
      refine (c2 _).mono ?_
      rintro e w' ⟨rfl, rfl⟩
      go_wp2
      go_ret
      exact ⟨rfl, rfl⟩
  · rw [decide_eq_false h0] at c1
    have e : rt n m = false := decide_eq_false (by omega)
    rw [e]
    clear hq hg h0 e c2
    go_enter Try.func11, Try.ntmps11
    go_wp2_with fail
    refine (c1 _).mono ?_
    rintro e w' ⟨rfl, rfl⟩
    go_wp2
    go_ret
    exact ⟨rfl, rfl⟩

theorem rt_bd {n m : Int} (h : rt n m = true) : 0 ≤ n ∧ n ≤ 1125899906842624 ∧ 0 ≤ m ∧ m ≤ 1125899906842624 ∧ (0 < n ∨ m = 0) := of_decide_eq_true h
theorem rt_word {x y : Nat} {n m : Int} (h : Pt x n) (h' : Pt y m) (hr : rt n m = true) : Value.complex .f64 x y = nz n m := by
  obtain ⟨a, b, c, d, _⟩ := rt_bd hr
  unfold nz; rw [if_pos hr, h.in_ a b, h'.in_ c d]; rfl
theorem nz_not {n m : Int} (hr : rt n m = false) : nz n m = .complex .f64 0 0 := by unfold nz; rw [if_neg (by rw [hr]; decide)]
/-- The parts of a tally. -/
theorem nz_parts (n m : Int) : ∃ x y n' m', nz n m = .complex .f64 x y ∧ Pt x n' ∧ Pt y m' ∧ rt n' m' = true ∧ nz n' m' = nz n m ∧ ((rt n m = true ∧ n' = n ∧ m' = m) ∨ (rt n m = false ∧ n' = 0 ∧ m' = 0)) := by
  cases hr : rt n m
  · refine ⟨0, 0, 0, 0, nz_not hr, pt_zero, pt_zero, by decide, ?_, Or.inr ⟨rfl, rfl, rfl⟩⟩
    rw [nz_not hr]
    exact (rt_word pt_zero pt_zero (by decide)).symm
  · obtain ⟨a, b, c, d, _⟩ := rt_bd hr
    have p1 := pt_rung (n := n.toNat) (by omega)
    have p2 := pt_rung (n := m.toNat) (by omega)
    rw [show ((n.toNat : Nat) : Int) = n from by omega] at p1
    rw [show ((m.toNat : Nat) : Int) = m from by omega] at p2
    exact ⟨_, _, n, m, (rt_word p1 p2 hr).symm, p1, p2, hr, rfl, Or.inl ⟨rfl, rfl, rfl⟩⟩

theorem checked_any {x y : Nat} {n m : Int} (h : Pt x n) (h' : Pt y m) (w : World) :
    Calls Try.prog 26 #[.complex .f64 x y] w fun e w' => e = .returned (.tuple #[nz n m, .int .i64 (if rt n m then 0 else 17)]) ∧ w = w' := by
  have hr := right_any h h' w
  cases hb : rt n m
  · rw [hb] at hr
    rw [nz_not hb]
    go_enter Try.func26, Try.ntmps26
    go_wp2_with fail
    refine hr.mono ?_
    rintro e w' ⟨rfl, rfl⟩
    go_wp2
    go_ret2
    exact ⟨rfl, rfl⟩
  · rw [hb] at hr
    rw [← rt_word h h' hb]
    have u1 := uns_any h w
    have u2 := uns_any h' w
    clear h h'
    go_enter Try.func26, Try.ntmps26
    go_wp2_with fail
    refine hr.mono ?_
    rintro e w' ⟨rfl, rfl⟩
    go_wp2_with fail
    refine u1.mono ?_
    rintro e w' ⟨rfl, rfl⟩
    go_wp2_with fail
    refine u2.mono ?_
    rintro e w' ⟨rfl, rfl⟩
    go_wp2
    go_ret2
    exact ⟨rfl, rfl⟩

theorem swap_any {x y : Nat} {n m : Int} (h : Pt x n) (h' : Pt y m) (w : World) :
    Calls Try.prog 25 #[.complex .f64 x y] w fun e w' => e = .returned (.complex .f64 y x) ∧ w = w' := by
  have u1 := uns_any h w
  have u2 := uns_any h' w
  clear h h'
  go_enter Try.func25, Try.ntmps25
  go_wp2_with fail
  refine u2.mono ?_
  rintro e w' ⟨rfl, rfl⟩
  go_wp2_with fail
  refine u1.mono ?_
  rintro e w' ⟨rfl, rfl⟩
  go_wp2
  go_ret
  exact ⟨rfl, rfl⟩

theorem of_any (n m : Int) (w : World) :
    Calls Try.prog 7 #[.int .i64 n, .int .i64 m] w fun e w' => e = .returned (.tuple #[nz n m, .int .i64 (if rt n m then 0 else 17)]) ∧ w = w' := by
  have hc := checked_any (pt_int n) (pt_int m) w
  generalize nz n m = v at *
  generalize (if rt n m then (0 : Int) else 17) = c at *
  go_enter Try.func7, Try.ntmps7
  go_wp2_with fail
  refine hc.mono ?_
  rintro e w' ⟨rfl, rfl⟩
  go_wp2
  go_ret2
  exact ⟨rfl, rfl⟩

theorem one_any (n : Int) (w : World) :
    Calls Try.prog 14 #[.int .i64 n] w fun e w' => e = .returned (nz 1 n) ∧ w = w' := by
  have hc := of_any 1 n w
  generalize nz 1 n = v at *
  generalize (if rt 1 n then (0 : Int) else 17) = c at *
  go_enter Try.func14, Try.ntmps14
  go_wp2_with fail
  refine hc.mono ?_
  rintro e w' ⟨rfl, rfl⟩
  go_wp2
  go_ret
  exact ⟨rfl, rfl⟩

theorem things_any {x y : Nat} {n m : Int} (h : Pt x n) (h' : Pt y m) (w : World) :
    Calls Try.prog 12 #[.complex .f64 x y] w fun e w' => e = .returned (.int .i64 (if rt n m then n else 0)) ∧ w = w' := by
  have hr := right_any h h' w
  cases hb : rt n m
  · rw [hb] at hr
    clear h h'
    go_enter Try.func12, Try.ntmps12
    go_wp2_with fail
    refine hr.mono ?_
    rintro e w' ⟨rfl, rfl⟩
    go_wp2
    go_ret
    exact ⟨rfl, rfl⟩
  · rw [hb] at hr
    obtain ⟨a, b, c, d, _⟩ := rt_bd hb
    have hi := pt_toInt h a b
    have hcv := fun (w : World) => run_convert_float_int (P := Try.prog) w 55 3 .f64 .i64 x n (by kernel_rfl) Try.underlying3 hi
    clear h h' a b c d hi
    go_enter Try.func12, Try.ntmps12
    go_wp2_with fail
    refine hr.mono ?_
    rintro e w' ⟨rfl, rfl⟩
    go_wp2
    go_ret
    exact ⟨rfl, rfl⟩

theorem bytesT_any {x y : Nat} {n m : Int} (h : Pt x n) (h' : Pt y m) (w : World) :
    Calls Try.prog 13 #[.complex .f64 x y] w fun e w' => e = .returned (.int .i64 (if rt n m then m else 0)) ∧ w = w' := by
  have hr := right_any h h' w
  cases hb : rt n m
  · rw [hb] at hr
    clear h h'
    go_enter Try.func13, Try.ntmps13
    go_wp2_with fail
    refine hr.mono ?_
    rintro e w' ⟨rfl, rfl⟩
    go_wp2
    go_ret
    exact ⟨rfl, rfl⟩
  · rw [hb] at hr
    obtain ⟨a, b, c, d, _⟩ := rt_bd hb
    have hi := pt_toInt h' c d
    have hcv := fun (w : World) => run_convert_float_int (P := Try.prog) w 55 3 .f64 .i64 y m (by kernel_rfl) Try.underlying3 hi
    clear h h' a b c d hi
    go_enter Try.func13, Try.ntmps13
    go_wp2_with fail
    refine hr.mono ?_
    rintro e w' ⟨rfl, rfl⟩
    go_wp2
    go_ret
    exact ⟨rfl, rfl⟩

/-- a - b. -/
theorem csub_run {x y x' y' : Nat} {n m n' m' : Int} (h1 : Pt x n) (h2 : Pt y m) (h3 : Pt x' n') (h4 : Pt y' m') (ha : rt n m = true) (hb : rt n' m' = true) :
    ∃ u v, Pt u (n - n') ∧ Pt v (m - m') ∧ ∀ w, (binOp .sub 23 (.complex .f64 x y) (.complex .f64 x' y')).run Try.prog w = .ok (.complex .f64 u v) w := by
  obtain ⟨a, b, c, d, _⟩ := rt_bd ha
  obtain ⟨a', b', c', d', _⟩ := rt_bd hb
  obtain ⟨u, hu, pu⟩ := pt_sub h1 h3 a b a' b'
  obtain ⟨v, hv, pv⟩ := pt_sub h2 h4 c d c' d'
  exact ⟨u, v, pu, pv, fun w => run_complex_sum w .sub (Or.inr rfl) _ _ _ _ _ _ _ _ (by unfold cSumBits; rw [hu, hv]; rfl)⟩
/-- a + b. -/
theorem cadd_run {x y x' y' : Nat} {n m n' m' : Int} (h1 : Pt x n) (h2 : Pt y m) (h3 : Pt x' n') (h4 : Pt y' m') (ha : 0 ≤ n ∧ 0 ≤ m) (hb : rt n' m' = true) :
    ∃ u v, Pt u (n + n') ∧ Pt v (m + m') ∧ ∀ w, (binOp .add 23 (.complex .f64 x y) (.complex .f64 x' y')).run Try.prog w = .ok (.complex .f64 u v) w := by
  obtain ⟨a', b', c', d', _⟩ := rt_bd hb
  obtain ⟨u, hu, pu⟩ := pt_add h1 h3 ha.1 a' b'
  obtain ⟨v, hv, pv⟩ := pt_add h2 h4 ha.2 c' d'
  exact ⟨u, v, pu, pv, fun w => run_complex_sum w .add (Or.inl rfl) _ _ _ _ _ _ _ _ (by unfold cSumBits; rw [hu, hv]; rfl)⟩
/-- c * n. -/
theorem cmul_run {x y : Nat} {n m k : Int} (h1 : Pt x n) (h2 : Pt y m) (ha : rt n m = true) (k0 : 0 ≤ k) (k1 : k ≤ 9223372036854775807) :
    ∃ u v, Pt u (n * k) ∧ Pt v (m * k) ∧ ∀ w, (binOp .mul 23 (.complex .f64 x y) (.complex .f64 (floatOfInt .f64 k) 0)).run Try.prog w = .ok (.complex .f64 u v) w := by
  obtain ⟨a, b, c, d, _⟩ := rt_bd ha
  have hf := fin_int k0 (by omega)
  have hk := pt_int k
  have h0 : (0 : Nat) < Ieee.double.infRung := by decide
  obtain ⟨ac, hac, pac⟩ := pt_mul h1 hk a b k0 hf
  obtain ⟨bd, hbd, pbd⟩ := pt_mul h2 pt_zero c d (by omega) h0
  rw [Int.mul_zero] at pbd
  obtain rfl : bd = 0 := pbd.in_ (by omega) (by omega)
  obtain ⟨u, hu, pu⟩ := pt_sub0 pac (Int.mul_nonneg a k0)
  obtain ⟨ad, had, pad⟩ := pt_mul h1 pt_zero a b (by omega) h0
  rw [Int.mul_zero] at pad
  obtain rfl : ad = 0 := pad.in_ (by omega) (by omega)
  obtain ⟨bc, hbc, pbc⟩ := pt_mul h2 hk c d k0 hf
  obtain ⟨v, hv, pv⟩ := pt_add0 pbc (Int.mul_nonneg c k0)
  exact ⟨u, v, pu, pv, fun w => run_complex_mul w _ _ _ _ _ _ _ (by unfold cMulBits; rw [hac, hbd]; simp only [Option.bind_some]; rw [hu, had, hbc]; simp only [Option.bind_some]; rw [hv]; rfl)⟩

theorem without_any {x y x' y' : Nat} {n m n' m' : Int} (h1 : Pt x n) (h2 : Pt y m) (h3 : Pt x' n') (h4 : Pt y' m') (w : World) :
    Calls Try.prog 18 #[.complex .f64 x y, .complex .f64 x' y'] w fun e w' => e = .returned (if rt n m && rt n' m' then .tuple #[nz (n - n') (m - m'), .int .i64 (if rt (n - n') (m - m') then 0 else 17)] else .tuple #[.complex .f64 0 0, .int .i64 17]) ∧ w = w' := by
  have r1 := right_any h1 h2 w
  have r2 := right_any h3 h4 w
  cases ha : rt n m
  · rw [ha] at r1
    go_enter Try.func18, Try.ntmps18
    go_wp2_with fail
    refine r1.mono ?_
    rintro e w' ⟨rfl, rfl⟩
    go_wp2
    go_ret2
    exact ⟨rfl, rfl⟩
  · rw [ha] at r1
    cases hb : rt n' m'
    · rw [hb] at r2
      go_enter Try.func18, Try.ntmps18
      go_wp2_with fail
      refine r1.mono ?_
      rintro e w' ⟨rfl, rfl⟩
      go_wp2_with fail
      refine r2.mono ?_
      rintro e w' ⟨rfl, rfl⟩
      go_wp2
      go_ret2
      exact ⟨rfl, rfl⟩
    · rw [hb] at r2
      obtain ⟨u, v, pu, pv, hs⟩ := csub_run h1 h2 h3 h4 ha hb
      have hc := checked_any pu pv w
      clear h1 h2 h3 h4 pu pv ha hb
      rw [show (true && true) = true from rfl, if_pos rfl]
      generalize nz (n - n') (m - m') = z at *
      generalize (if rt (n - n') (m - m') = true then (0 : Int) else 17) = c at *
      go_enter Try.func18, Try.ntmps18
      go_wp2_with fail
      refine r1.mono ?_
      rintro e w' ⟨rfl, rfl⟩
      go_wp2_with fail
      refine r2.mono ?_
      rintro e w' ⟨rfl, rfl⟩
      go_wp2_with fail
      refine hc.mono ?_
      rintro e w' ⟨rfl, rfl⟩
      go_wp2
      go_ret2
      exact ⟨rfl, rfl⟩

theorem times_any {x y : Nat} {n m k : Int} (h1 : Pt x n) (h2 : Pt y m) (k1 : k ≤ 9223372036854775807) (w : World) :
    Calls Try.prog 22 #[.complex .f64 x y, .int .i64 k] w fun e w' => e = .returned (if rt n m && decide (0 ≤ k) then nz (n * k) (m * k) else .complex .f64 0 0) ∧ w = w' := by
  have r1 := right_any h1 h2 w
  cases ha : rt n m
  · rw [ha] at r1
    clear k1 h1 h2
    go_enter Try.func22, Try.ntmps22
    go_wp2_with fail
    refine r1.mono ?_
    rintro e w' ⟨rfl, rfl⟩
    go_wp2
    go_ret
    exact ⟨rfl, rfl⟩
  · rw [ha] at r1
    by_cases hk : 0 ≤ k
    · obtain ⟨u, v, pu, pv, hs⟩ := cmul_run h1 h2 ha hk k1
      have hc := checked_any pu pv w
      clear h1 h2 pu pv ha k1
      rw [decide_eq_true hk, show (true && true) = true from rfl, if_pos rfl]
      generalize nz (n * k) (m * k) = z at *
      generalize (if rt (n * k) (m * k) = true then (0 : Int) else 17) = c at *
      go_enter Try.func22, Try.ntmps22
      go_wp2_with fail
      refine r1.mono ?_
      rintro e w' ⟨rfl, rfl⟩
      go_wp2_with fail
      refine hc.mono ?_
      rintro e w' ⟨rfl, rfl⟩
      go_wp2
      go_ret
      exact ⟨rfl, rfl⟩
    · rw [decide_eq_false hk]
      clear k1 h1 h2
      go_enter Try.func22, Try.ntmps22
      go_wp2_with fail
      refine r1.mono ?_
      rintro e w' ⟨rfl, rfl⟩
      go_wp2
      go_ret
      exact ⟨rfl, rfl⟩
end Go.Proofs.Ytepebneigehboaa.Cur
