/- TallyRows: called with any rows of bytes, the law returns true; no condition. -/
import Derived.Test.YtepebneigehboaaRows
import Derived.Test.YtepebneigehboaaTalD
import Derived.ProofKit
import Derived.OpenShut
import Derived.ShutString
import Derived.ChangeOld
namespace Go.Proofs.Ytepebneigehboaa.tallyRows
open Go.ChangeShapes Go.WideShapes Go.ChangeAt Go.RowKit
open Go.ChangeMaps (open_string shut_string)
set_option linter.unusedVariables false

theorem own : ownKnob Try.prog.godebug = none := by kernel_rfl
theorem laidOut : laidOutB Try.prog = true := by kernel_rfl
open Cur Mem Flt


theorem rl'_mono {R : List (List Int)} {k j : Nat} (h : k ≤ j) : rl' R k ≤ rl' R j := by
  induction j with
  | zero => obtain rfl : k = 0 := by omega
            exact Int.le_refl _
  | succ j ih =>
    rcases Nat.lt_or_ge k (j + 1) with h1 | h1
    · have := ih (by omega)
      have e : rl' R (j + 1) = rl' R j + (R.getD j []).length := rfl
      omega
    · obtain rfl : k = j + 1 := by omega
      exact Int.le_refl _
theorem rl'_bd2 {R : List (List Int)} (k : Nat) (h : ∀ i, i < k → (R.getD i []).length ≤ 500) : 0 ≤ rl' R k ∧ rl' R k ≤ 500 * k := by
  induction k with
  | zero => exact ⟨Int.le_refl _, by unfold rl'; omega⟩
  | succ k ih =>
    have := ih (fun i hi => h i (by omega))
    have := h k (by omega)
    unfold rl'
    omega

set_option maxRecDepth 100000 in
set_option maxHeartbeats 4000000 in
theorem walk {H : Type} (enc : TypeId × Value → H) (w : World) (base : Nat) (v0 : Value) (d0 : DataW H) (p0 : List MemPlace) (g0 : Value.okWide Try.prog w .any base 50 v0) (h0 : DataW.Trod enc Try.prog w 0 (fun _ => true) true 50 v0 d0 p0) :
    Calls Try.prog 5 #[v0] w fun e w' => e = .returned (.bool true) ∧ Below w.heap.size w w' := by
  obtain ⟨A, n, mc, rfl, hle, hrows⟩ := open_rows g0 h0
  clear g0 h0
  obtain ⟨R, hR⟩ := rows_list hrows
  have HR := Lib.hid hR
  clear hR hrows
  go_enter Try.func5, Try.ntmps5
  go_wp2
  go_loop [3, 4] (fun v i => ∃ k : Nat, k ≤ n ∧ k ≤ 100 ∧ i = .int .i64 k ∧ v = .int .i64 (rl' R k) ∧ Hid (∀ j, j < k → (R.getD j []).length ≤ 500)) (fun _ i => n - (intOf i).toNat)
  case atStart => exact ⟨0, by omega, by omega, rfl, rfl, Lib.hid (fun j hj => absurd hj (by omega))⟩
  case round =>
    obtain ⟨k, hk, hk100, rfl, rfl, HL⟩ := hrel
    have hbd := rl'_bd2 k HL.out
    by_cases hlt : k < n
    · by_cases hlt2 : k < 100
      · obtain ⟨b, o, Ar, Lr, Cr, rfl, hc, hbs, hby, hnil, hlr⟩ := HR.out.2 k hlt
        have HN : Hid (rl' R (k + 1) = rl' R k + Lr) := Lib.hid (by rw [← hbs.1]; rfl)
        have HLn := Lib.hid hbs.1
        clear hbs hby hnil
        by_cases h5 : 500 < (Lr : Int)
        · have d5 : decide (500 < (Lr : Int)) = true := decide_eq_true h5
          go_wp2_with fail
          refine (live9_any _).mono ?_
          rintro e w9 ⟨rfl, hb9⟩
          go_wp2
          go_ret
          exact ⟨rfl, hb9⟩
        · have HL2 : Hid (∀ j, j < k + 1 → (R.getD j []).length ≤ 500) := Lib.hid (fun j hj => by
            rcases Nat.lt_or_ge j k with h | h
            · exact HL.out j h
            · obtain rfl : j = k := by omega
              rw [HLn.out]; omega)
          have d5 : decide (500 < (Lr : Int)) = false := decide_eq_false h5
          have hlr5 : (Lr : Int) ≤ 500 := by omega
          generalize rl' R k = t at *
          go_wp2
          go_round
          case rel => exact ⟨k + 1, by omega, by omega, by go_num, by rw [HN.out], HL2⟩
          case measure => simp [intOf]; omega
      · have hn : 100 < (n : Int) := by omega
        generalize rl' R k = t at *
        go_wp2_with fail
        refine (live9_any _).mono ?_
        rintro e w9 ⟨rfl, hb9⟩
        go_wp2
        go_ret
        exact ⟨rfl, hb9⟩
    · obtain rfl : k = n := by omega
      have hrt : rt k (rl' R k) = true := decide_eq_true (by
        have : k = 0 → rl' R k = 0 := fun h => by subst h; rfl
        omega)
      obtain ⟨a, b, c, d, _⟩ := rt_bd hrt
      have p1 := pt_rung (n := k) (by omega)
      have p2 := pt_rung (n := (rl' R k).toNat) (by omega)
      rw [show (((rl' R k).toNat : Nat) : Int) = rl' R k from by omega] at p2
      have hrw3 : ∀ (w : World), RowsL w A k R → _ := fun w h => rows_any A k mc R w h hk100 (fun i hi => HL.out i (by rw [← HR.out.1]; exact hi))
      rw [← rt_word p1 p2 hrt] at hrw3
      have has := as_any p1 p2 k (rl' R k) false
      have e2 : asb k (rl' R k) k (rl' R k) false = true := by unfold asb; rw [hrt]; simp
      rw [e2] at has
      unfold tq at has
      have q1 := pt_self p1
      have q2 := pt_self p2
      have HP1 := Lib.hid p1
      have HP2 := Lib.hid p2
      have HRT := Lib.hid hrt
      have HX : Hid (∀ x y : Nat, Pt x k → Pt y (rl' R k) → x = rung k ∧ y = rung (rl' R k).toNat) := Lib.hid (fun x y hx hy => ⟨hx.in_ a b, hy.in_ c d⟩)
      clear a b c d e2 p1 p2 hrt
      generalize rung k = X at *
      generalize rung (rl' R k).toNat = Y at *
      obtain ⟨T, hT⟩ : ∃ T, rl' R k = T := ⟨_, rfl⟩
      have HT := Lib.hid hT
      rw [hT] at has ⊢
      clear hT
      go_wp2
      go_loopw [5, 6] (fun v i wr => ∃ (j x y : Nat), j ≤ k ∧ i = .int .i64 ((j : Int) - 1) ∧ v = .complex .f64 x y ∧ Below w.heap.size w wr ∧ Hid (Pt x ((k : Int) - j) ∧ Pt y (rl' R k - rl' R j))) (fun _ i _ => ((intOf i) + 1).toNat)
      case atStart =>
        refine ⟨k, 0, 0, Nat.le_refl _, by go_num, rfl, Below.refl _ _, Lib.hid ⟨?_, ?_⟩⟩
        · rw [Int.sub_self]; exact pt_zero
        · rw [Int.sub_self]; exact pt_zero
      case round =>
        obtain ⟨j, x, y, hj, rfl, rfl, hbw, HP⟩ := hrel
        by_cases h0 : j = 0
        · subst h0
          obtain ⟨rfl, rfl⟩ := HX.out x y (by have := HP.out.1; simpa using this) (by have := HP.out.2; simpa [rl'] using this)
          go_wp2_with fail
          refine (hrw3 _ (HR.out.below hbw)).mono ?_
          rintro e w' ⟨rfl, rfl⟩
          go_wp2_with fail
          refine (has _).mono ?_
          rintro e w4 ⟨rfl, hb4⟩
          have hbd4 := hbw.trans (hb4.mono hbw.size)
          go_wp2_with fail
          refine (hrw3 _ (HR.out.below hbd4)).mono ?_
          rintro e w' ⟨rfl, rfl⟩
          go_wp2_with fail
          refine (live9_any _).mono ?_
          rintro e w5 ⟨rfl, hb5⟩
          have hbd5 := hbd4.trans (hb5.mono hbd4.size)
          go_wp2
          go_ret
          exact ⟨rfl, hbd5⟩
        · obtain ⟨j, rfl⟩ : ∃ i, j = i + 1 := ⟨j - 1, by omega⟩
          rw [show ((j + 1 : Nat) : Int) - 1 = (j : Int) by omega]
          obtain ⟨b, o, Ar, Lr, Cr, rfl, hc, hbs, hby, hnil, hlr⟩ := (HR.out.below hbw).2 j (by omega)
          have hlen := HL.out j (by omega)
          rw [hbs.1] at hlen
          have HN : rl' R (j + 1) = rl' R j + Lr := by rw [← hbs.1]; rfl
          have hm1 := rl'_mono (R := R) (show j + 1 ≤ k by omega)
          have hm0 := (rl'_bd2 (R := R) j (fun i hi => HL.out i (by omega))).1
          have hmk := (rl'_bd2 (R := R) k HL.out).2
          have hone := one_any Lr
          have hr1 : rt 1 Lr = true := decide_eq_true (by omega)
          obtain ⟨e1, a1, a2⟩ := nzw (x := rung (1 : Int).toNat) (y := rung (Lr : Int).toNat) hr1 rfl rfl
          rw [e1] at hone
          have hr2 : rt ((k : Int) - ((j + 1 : Nat) : Int)) (rl' R k - rl' R (j + 1)) = true := decide_eq_true (by
            have : k = j + 1 → rl' R k = rl' R (j + 1) := fun h => by rw [h]
            omega)
          have hr3 : rt ((k : Int) - j) (rl' R k - rl' R j) = true := decide_eq_true (by omega)
          obtain ⟨e3, c1, c2⟩ := nzw (x := rung ((k : Int) - j).toNat) (y := rung (rl' R k - rl' R j).toNat) hr3 rfl rfl
          have hts : ∀ (w : World), Calls Try.prog 16 #[.slice (some ⟨w.heap.size, 0, none⟩) 2 2] (w.alloc (.cells #[.complex .f64 (rung (1 : Int).toNat) (rung (Lr : Int).toNat), .complex .f64 x y] 23)) fun e w' => e = .returned (.complex .f64 (rung ((k : Int) - j).toNat) (rung (rl' R k - rl' R j).toNat)) ∧ (w.alloc (.cells #[.complex .f64 (rung (1 : Int).toNat) (rung (Lr : Int).toNat), .complex .f64 x y] 23)) = w' := fun w => by
            have := tsum_any _ 2 2 _ _ (two_cr w _ _ _ _ (1, (Lr : Int)) ((k : Int) - ((j + 1 : Nat) : Int), rl' R k - rl' R (j + 1)) a1 a2 HP.out.1 HP.out.2 23) (by omega)
            have e4 : sv [((1 : Int), (Lr : Int)), ((k : Int) - ((j + 1 : Nat) : Int), rl' R k - rl' R (j + 1))] 2 = nz ((k : Int) - j) (rl' R k - rl' R j) := by
              unfold sv
              have : allr [((1 : Int), (Lr : Int)), ((k : Int) - ((j + 1 : Nat) : Int), rl' R k - rl' R (j + 1))] 2 = true := by
                show ((true && rt 1 Lr) && rt ((k : Int) - ((j + 1 : Nat) : Int)) (rl' R k - rl' R (j + 1))) = true
                rw [hr1, hr2]; rfl
              rw [if_pos this]
              have t1 : tn [((1 : Int), (Lr : Int)), ((k : Int) - ((j + 1 : Nat) : Int), rl' R k - rl' R (j + 1))] 2 = (k : Int) - j := by
                show (0 + 1) + ((k : Int) - ((j + 1 : Nat) : Int)) = _
                omega
              have t2 : tm [((1 : Int), (Lr : Int)), ((k : Int) - ((j + 1 : Nat) : Int), rl' R k - rl' R (j + 1))] 2 = rl' R k - rl' R j := by
                show (0 + (Lr : Int)) + (rl' R k - rl' R (j + 1)) = _
                omega
              rw [t1, t2]
            rw [e4, e3] at this
            exact this
          have HC := Lib.hid (And.intro c1 c2)
          clear hbs hby hnil hlr hlen HN hm1 hm0 hmk hr1 e1 a1 a2 hr2 hr3 e3 c1 c2 hbd
          generalize rung (1 : Int).toNat = x1 at *
          generalize rung (Lr : Int).toNat = y1 at *
          generalize rung ((k : Int) - j).toNat = x3 at *
          generalize rung (rl' R k - rl' R j).toNat = y3 at *
          go_wp2_with fail
          refine (hone _).mono ?_
          rintro e w' ⟨rfl, rfl⟩
          go_wp2_with fail
          refine (hts _).mono ?_
          rintro e w' ⟨rfl, rfl⟩
          have hbw2 := hbw.alloc hbw.size (.cells #[.complex .f64 x1 y1, .complex .f64 x y] 23)
          go_wp2
          go_roundw
          case rel => exact ⟨j, x3, y3, by omega, by go_num, rfl, hbw2, HC⟩
          case measure => simp [intOf]

set_option maxRecDepth 100000 in
theorem lifted (os : Os) (started : os.Started) (H : Type) (enc : TypeId × Value → H) :
    ReturnsInHanded {} Try.checked os 5 .any (Rows.tallyRowsSpec.pre6 enc Try.prog Try.f5 Rows.tallyRowsRow.domain false) (Rows.tallyRowsSpec.post enc Try.prog Try.f5 false true false false) := by
  refine returnsInHanded_of_change (C := Try.checked) own started (by kernel_rfl) Try.func5
    (ChangeSpec.witness6 (enc := enc) (C := Try.checked) false ⟨#[], #[.slice none 0 0], []⟩ 8 (by kernel_rfl) (by kernel_rfl) (by kernel_rfl) (by kernel_rfl)) ?_
  intro W base args ds gs before hval0 hW hcnd _
  have hval : ∀ (j : Nat) t v, Try.f5.params[j]? = some t → args[j]? = some v → Value.okWide Try.prog W .any base t v := hval0
  have hW' := hW
  obtain ⟨p, q, hA0, hV, rfl, hfz, hnd⟩ := hW
  have hA : DataW.TrodAll enc Try.prog W 0 (fun _ => true) true Try.f5.params.toList args.toList ds p := hA0
  rw [Try.params5] at hA hval
  obtain ⟨v0, vs0, d0, ds0, p0, q0, hargs, rfl, rfl, h0, r0⟩ := trodAll_cons hA
  obtain ⟨rfl, rfl, rfl⟩ := trodAll_nil r0
  obtain rfl : args = #[v0] := by cases args; simp_all
  obtain ⟨rfl, rfl⟩ := trodVars_none hV
  have lt0 : ∀ x ∈ p0, x.block < W.heap.size := by obtain ⟨m, hm⟩ := h0; exact DataW.trod_lt m _ _ _ hm
  clear hA0 hval0
  refine (walk enc W base v0 d0 p0 (hval 0 50 v0 rfl rfl) h0).mono fun e W' ⟨he, bel⟩ => ?_
  subst he
  exact ⟨_, rfl, _, _, _, [], _, [], hW', trodAll_mk1 (shut_bool Try.underlying4 _), (trodAll_cons_mk (Below.trod laidOut (by kernel_rfl) (of_decide_eq_true (by kernel_rfl)) h0 bel lt0) trodAll_mk0), rfl, bel.frame _, fun h => by cases h⟩

theorem over : Rows.tallyRowsRow.holds Try.pinned (OpenSpec.ofChange Rows.tallyRowsSpec) :=
  OpenClaim.holds_of_wide 5 Try.f5 rfl rfl rfl rfl rfl rfl rfl ⟨rfl, rfl, rfl, rfl, rfl⟩ rfl rfl rfl rfl rfl (by kernel_rfl) Try.func5 (by kernel_rfl)
    (of_decide_eq_true (by kernel_rfl)) (by unfold Func.isWrapper; first | (rw [if_pos (by decide +kernel)]; kernel_rfl) | (rw [if_neg (by decide +kernel)]; exact ⟨rfl, rfl⟩))
    (fun os started H enc _ => lifted os started H enc)

/-- THE STATEMENT. -/
theorem proved : Rows.TallyRowsSaid := over
#print axioms proved
end Go.Proofs.Ytepebneigehboaa.tallyRows
