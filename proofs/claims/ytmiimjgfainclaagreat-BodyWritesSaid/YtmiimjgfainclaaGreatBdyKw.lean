/- As the seat's text, without what nothing here names. -/
import Derived.Test.YtmiimjgfainclaaGreatBdyIw
namespace Go.Proofs.YtmiimjgfainclaaGreat.Cur
open Go.RowKit Mem
set_option linter.unusedVariables false
set_option linter.unusedSimpArgs false
set_option maxRecDepth 100000
theorem prj_none (u : Int) (P : List Stp) : decide ((u, P) = ((0, []) : Prj)) = ((u == 0) && decide ((P.length : Int) = 0)) := by
  rw [Bool.eq_iff_iff]
  simp
set_option maxHeartbeats 8000000 in
theorem rright28_any (Q : Nat → Prop) (M : Ms) (a : Ma) (w : World) (hm : MsIn w Q M a) (hS : M.S.length ≤ 1000000) (hP : M.P.length ≤ 1000000) (hpl : plen 1000000 M.P) (hD : M.D.length ≤ 1000000) :
    Calls Tryz.prog 15 #[msagg M a] w (BPost (.bool (bdk M)) w) := by
  have hX := Blk.new w (msc M a) 32
  have hb := below_one w (.cells (msc M a) 32)
  obtain ⟨⟨x0, x1, x2, x3, x4, x5, x6⟩, x7, x8, x9, x10, x11, x12, x13⟩ := ms_cells hX
  have HM := Lib.hid (hm.below hb)
  have HX := Lib.hid hX
  have HB := Lib.hid hb
  have HPL := Lib.hid hpl
  have HSL := Lib.hid hS
  have HP := Lib.hid hP
  clear hm hX hb hpl hS hP
  unfold BPost
  by_cases hk1 : M.k < 1
  · have HV := Lib.hid (bdk_out (M := M) (by omega))
    go_enter Tryz.func15, Tryz.ntmps15
    go_wp2
    go_ret
    exact ⟨by rw [HV.out]; rfl, HB.out⟩
  by_cases hk2 : M.k > 14
  · have HV := Lib.hid (bdk_out (M := M) (by omega))
    go_enter Tryz.func15, Tryz.ntmps15
    go_wp2
    go_ret
    exact ⟨by rw [HV.out]; rfl, HB.out⟩
  have HV := Lib.hid (bdk_in (M := M) ⟨by omega, by omega⟩)
  have HH := Lib.hid (fun p w' => rhas28_any M.k p w')
  unfold BPost at HH
  have HF0 : Hid (bfit M 0 = if kh M.k 1 = true then psk M.p else decide (M.p = 0)) := Lib.hid rfl
  have HF1 : Hid (bfit M 1 = if kh M.k 2 = true then decide (1 ≤ M.c ∧ M.c ≤ 65536) else decide (M.c = 0)) := Lib.hid rfl
  have HF2 : Hid (bfit M 2 = if kh M.k 4 = true then decide (1 ≤ M.t ∧ M.t ≤ bmost M.k) else decide (M.t = 0)) := Lib.hid rfl
  have HF3 : Hid (bfit M 3 = if kh M.k 8 = true then decide (M.S.length ≤ 16) && risesB M.S else decide (M.S.length = 0)) := Lib.hid rfl
  have HF4 : Hid (bfit M 4 = if kh M.k 16 = true then lkok M.p M.L else decide (M.L.length = 0)) := Lib.hid rfl
  have HF5 : Hid (bfit M 5 = if kh M.k 32 = true then decide (M.D.length ≤ 1048576) && (bears M || decide (M.D.length = 0)) else decide (M.D.length = 0)) := Lib.hid rfl
  have HF6 : Hid (bfit M 6 = if kh M.k 64 = true then slok M.s else decide (M.s = (0, 0, 0))) := Lib.hid rfl
  have HF7 : Hid (bfit M 7 = if kh M.k 128 = true then prok (M.u, M.P) else decide ((M.u, M.P) = ((0, []) : Prj))) := Lib.hid rfl
  generalize bdk M = V at *
  generalize bfit M 0 = b0 at *
  generalize bfit M 1 = b1 at *
  generalize bfit M 2 = b2 at *
  generalize bfit M 3 = b3 at *
  generalize bfit M 4 = b4 at *
  generalize bfit M 5 = b5 at *
  generalize bfit M 6 = b6 at *
  generalize bfit M 7 = b7 at *
  go_enter Tryz.func15, Tryz.ntmps15
  go_upto_region 4 with (fail)
  generalize w.alloc (.cells (msc M a) 32) = w0 at *
  have HW0 : Hid (Below w0.heap.size w0 w0) := Lib.hid (Below.refl _ _)
  clear hk1 hk2
  go_cut [29] from 12 (fun v wx => v = .bool (!b0) ∧ Hid (Below w0.heap.size w0 wx))
  case first => as_aux_lemma =>
    cases hkh : kh M.k 1
    · have HKH := Lib.hid hkh
      have HE : Hid (b0 = decide (M.p = 0)) := Lib.hid (by rw [HF0.out, hkh]; rfl)
      clear hkh
      have hcH := HH.out 1 w0
      rw [HKH.out] at hcH
      go_wp2_with fail
      refine hcH.mono ?_
      rintro e v1 ⟨rfl, hb1⟩
      have HW1 := Lib.hid (HW0.out.trans (hb1.mono HW0.out.size))
      clear hcH hb1 x0 x1 x2 x3 x4 x5 x6 x7 x8 x9 x10 x11 x12 x13
      obtain ⟨⟨x0, x1, x2, x3, x4, x5, x6⟩, x7, x8, x9, x10, x11, x12, x13⟩ := ms_cells (HX.out.below HW1.out)
      have hcH := HH.out 1 v1
      rw [HKH.out] at hcH
      go_wp2_with fail
      refine hcH.mono ?_
      rintro e v2 ⟨rfl, hb1⟩
      have HW2 := Lib.hid (HW1.out.trans (hb1.mono HW1.out.size))
      clear hcH hb1 x0 x1 x2 x3 x4 x5 x6 x7 x8 x9 x10 x11 x12 x13
      obtain ⟨⟨x0, x1, x2, x3, x4, x5, x6⟩, x7, x8, x9, x10, x11, x12, x13⟩ := ms_cells (HX.out.below HW2.out)
      go_wp2
      go_meet
      case rel => exact ⟨by rw [HE.out]; first | rfl | (simp; done) | (simp; omega) | (congr 1; rw [Bool.eq_iff_iff]; simp; done) | (congr 1; rw [Bool.eq_iff_iff]; simp only [decide_eq_true_eq, Bool.not_eq_true', decide_eq_false_iff_not]; omega), HW2⟩
    · have HKH := Lib.hid hkh
      have HE : Hid (b0 = psk M.p) := Lib.hid (by rw [HF0.out, hkh]; rfl)
      have hcQ := fun w' => (rpos17_any M.p w').mono (R' := fun e w'' => e = .returned (.bool (psk M.p)) ∧ Below w'.heap.size w' w'') (fun e w'' h => ⟨h.1, by rw [← h.2]; exact Below.refl _ _⟩)
      have HCQ := Lib.hid hcQ
      clear hkh hcQ
      cases hps : psk M.p
      · rw [hps] at HE HCQ
        clear hps
        have hcH := HH.out 1 w0
        rw [HKH.out] at hcH
        go_wp2_with fail
        refine hcH.mono ?_
        rintro e v1 ⟨rfl, hb1⟩
        have HW1 := Lib.hid (HW0.out.trans (hb1.mono HW0.out.size))
        clear hcH hb1 x0 x1 x2 x3 x4 x5 x6 x7 x8 x9 x10 x11 x12 x13
        obtain ⟨⟨x0, x1, x2, x3, x4, x5, x6⟩, x7, x8, x9, x10, x11, x12, x13⟩ := ms_cells (HX.out.below HW1.out)
        have hcQ := HCQ.out v1
        go_wp2_with fail
        refine hcQ.mono ?_
        rintro e v2 ⟨rfl, hb1⟩
        have HW2 := Lib.hid (HW1.out.trans (hb1.mono HW1.out.size))
        clear hcQ hb1 x0 x1 x2 x3 x4 x5 x6 x7 x8 x9 x10 x11 x12 x13
        obtain ⟨⟨x0, x1, x2, x3, x4, x5, x6⟩, x7, x8, x9, x10, x11, x12, x13⟩ := ms_cells (HX.out.below HW2.out)
        go_wp2
        go_meet
        case rel => exact ⟨by rw [HE.out]; first | rfl | (simp; done) | (simp; omega) | (congr 1; rw [Bool.eq_iff_iff]; simp; done) | (congr 1; rw [Bool.eq_iff_iff]; simp only [decide_eq_true_eq, Bool.not_eq_true', decide_eq_false_iff_not]; omega), HW2⟩
      · rw [hps] at HE HCQ
        clear hps
        have hcH := HH.out 1 w0
        rw [HKH.out] at hcH
        go_wp2_with fail
        refine hcH.mono ?_
        rintro e v1 ⟨rfl, hb1⟩
        have HW1 := Lib.hid (HW0.out.trans (hb1.mono HW0.out.size))
        clear hcH hb1 x0 x1 x2 x3 x4 x5 x6 x7 x8 x9 x10 x11 x12 x13
        obtain ⟨⟨x0, x1, x2, x3, x4, x5, x6⟩, x7, x8, x9, x10, x11, x12, x13⟩ := ms_cells (HX.out.below HW1.out)
        have hcQ := HCQ.out v1
        go_wp2_with fail
        refine hcQ.mono ?_
        rintro e v2 ⟨rfl, hb1⟩
        have HW2 := Lib.hid (HW1.out.trans (hb1.mono HW1.out.size))
        clear hcQ hb1 x0 x1 x2 x3 x4 x5 x6 x7 x8 x9 x10 x11 x12 x13
        obtain ⟨⟨x0, x1, x2, x3, x4, x5, x6⟩, x7, x8, x9, x10, x11, x12, x13⟩ := ms_cells (HX.out.below HW2.out)
        have hcH := HH.out 1 v2
        rw [HKH.out] at hcH
        go_wp2_with fail
        refine hcH.mono ?_
        rintro e v3 ⟨rfl, hb1⟩
        have HW3 := Lib.hid (HW2.out.trans (hb1.mono HW2.out.size))
        clear hcH hb1 x0 x1 x2 x3 x4 x5 x6 x7 x8 x9 x10 x11 x12 x13
        obtain ⟨⟨x0, x1, x2, x3, x4, x5, x6⟩, x7, x8, x9, x10, x11, x12, x13⟩ := ms_cells (HX.out.below HW3.out)
        go_wp2
        go_meet
        case rel => exact ⟨by rw [HE.out]; first | rfl | (simp; done) | (simp; omega) | (congr 1; rw [Bool.eq_iff_iff]; simp; done) | (congr 1; rw [Bool.eq_iff_iff]; simp only [decide_eq_true_eq, Bool.not_eq_true', decide_eq_false_iff_not]; omega), HW3⟩
  case rest =>
    obtain ⟨rfl, HK0⟩ := hcut
    generalize wc = wk0 at *
    clear x0 x1 x2 x3 x4 x5 x6 x7 x8 x9 x10 x11 x12 x13
    obtain ⟨⟨x0, x1, x2, x3, x4, x5, x6⟩, x7, x8, x9, x10, x11, x12, x13⟩ := ms_cells (HX.out.below HK0.out)
    cases b0
    case false =>
      rw [Bool.false_and] at HV
      go_wp2
      go_ret
      exact ⟨by rw [HV.out]; rfl, HB.out.trans (HK0.out.mono HB.out.size)⟩
    rw [Bool.true_and] at HV
    go_upto_region 6 with (fail)
    go_cut [51] from 12 (fun v wx => v = .bool (!b1) ∧ Hid (Below w0.heap.size w0 wx))
    case first => as_aux_lemma =>
      cases hkh : kh M.k 2
      · have HKH := Lib.hid hkh
        have HE : Hid (b1 = decide (M.c = 0)) := Lib.hid (by rw [HF1.out, hkh]; rfl)
        clear hkh
        have hcH := HH.out 2 wk0
        rw [HKH.out] at hcH
        go_wp2_with fail
        refine hcH.mono ?_
        rintro e v1 ⟨rfl, hb1⟩
        have HW1 := Lib.hid (HK0.out.trans (hb1.mono HK0.out.size))
        clear hcH hb1 x0 x1 x2 x3 x4 x5 x6 x7 x8 x9 x10 x11 x12 x13
        obtain ⟨⟨x0, x1, x2, x3, x4, x5, x6⟩, x7, x8, x9, x10, x11, x12, x13⟩ := ms_cells (HX.out.below HW1.out)
        have hcH := HH.out 2 v1
        rw [HKH.out] at hcH
        go_wp2_with fail
        refine hcH.mono ?_
        rintro e v2 ⟨rfl, hb1⟩
        have HW2 := Lib.hid (HW1.out.trans (hb1.mono HW1.out.size))
        clear hcH hb1 x0 x1 x2 x3 x4 x5 x6 x7 x8 x9 x10 x11 x12 x13
        obtain ⟨⟨x0, x1, x2, x3, x4, x5, x6⟩, x7, x8, x9, x10, x11, x12, x13⟩ := ms_cells (HX.out.below HW2.out)
        go_wp2
        go_meet
        case rel => exact ⟨by rw [HE.out]; first | rfl | (simp; done) | (simp; omega) | (congr 1; rw [Bool.eq_iff_iff]; simp; done) | (congr 1; rw [Bool.eq_iff_iff]; simp only [decide_eq_true_eq, Bool.not_eq_true', decide_eq_false_iff_not]; omega), HW2⟩
      · have HKH := Lib.hid hkh
        by_cases h1 : M.c < 1
        · have HE : Hid (b1 = false) := Lib.hid (by rw [HF1.out, hkh, if_pos rfl]; exact decide_eq_false (by omega))
          clear hkh
          have hcH := HH.out 2 wk0
          rw [HKH.out] at hcH
          go_wp2_with fail
          refine hcH.mono ?_
          rintro e v1 ⟨rfl, hb1⟩
          have HW1 := Lib.hid (HK0.out.trans (hb1.mono HK0.out.size))
          clear hcH hb1 x0 x1 x2 x3 x4 x5 x6 x7 x8 x9 x10 x11 x12 x13
          obtain ⟨⟨x0, x1, x2, x3, x4, x5, x6⟩, x7, x8, x9, x10, x11, x12, x13⟩ := ms_cells (HX.out.below HW1.out)
          go_wp2
          go_meet
          case rel => exact ⟨by rw [HE.out]; first | rfl | (simp; done) | (simp; omega) | (congr 1; rw [Bool.eq_iff_iff]; simp; done) | (congr 1; rw [Bool.eq_iff_iff]; simp only [decide_eq_true_eq, Bool.not_eq_true', decide_eq_false_iff_not]; omega), HW1⟩
        by_cases h2 : M.c > 65536
        · have HE : Hid (b1 = false) := Lib.hid (by rw [HF1.out, hkh, if_pos rfl]; exact decide_eq_false (by omega))
          clear hkh
          have hcH := HH.out 2 wk0
          rw [HKH.out] at hcH
          go_wp2_with fail
          refine hcH.mono ?_
          rintro e v1 ⟨rfl, hb1⟩
          have HW1 := Lib.hid (HK0.out.trans (hb1.mono HK0.out.size))
          clear hcH hb1 x0 x1 x2 x3 x4 x5 x6 x7 x8 x9 x10 x11 x12 x13
          obtain ⟨⟨x0, x1, x2, x3, x4, x5, x6⟩, x7, x8, x9, x10, x11, x12, x13⟩ := ms_cells (HX.out.below HW1.out)
          go_wp2
          go_meet
          case rel => exact ⟨by rw [HE.out]; first | rfl | (simp; done) | (simp; omega) | (congr 1; rw [Bool.eq_iff_iff]; simp; done) | (congr 1; rw [Bool.eq_iff_iff]; simp only [decide_eq_true_eq, Bool.not_eq_true', decide_eq_false_iff_not]; omega), HW1⟩
        · have HE : Hid (b1 = true) := Lib.hid (by rw [HF1.out, hkh, if_pos rfl]; exact decide_eq_true (by omega))
          clear hkh
          have hcH := HH.out 2 wk0
          rw [HKH.out] at hcH
          go_wp2_with fail
          refine hcH.mono ?_
          rintro e v1 ⟨rfl, hb1⟩
          have HW1 := Lib.hid (HK0.out.trans (hb1.mono HK0.out.size))
          clear hcH hb1 x0 x1 x2 x3 x4 x5 x6 x7 x8 x9 x10 x11 x12 x13
          obtain ⟨⟨x0, x1, x2, x3, x4, x5, x6⟩, x7, x8, x9, x10, x11, x12, x13⟩ := ms_cells (HX.out.below HW1.out)
          have hcH := HH.out 2 v1
          rw [HKH.out] at hcH
          go_wp2_with fail
          refine hcH.mono ?_
          rintro e v2 ⟨rfl, hb1⟩
          have HW2 := Lib.hid (HW1.out.trans (hb1.mono HW1.out.size))
          clear hcH hb1 x0 x1 x2 x3 x4 x5 x6 x7 x8 x9 x10 x11 x12 x13
          obtain ⟨⟨x0, x1, x2, x3, x4, x5, x6⟩, x7, x8, x9, x10, x11, x12, x13⟩ := ms_cells (HX.out.below HW2.out)
          go_wp2
          go_meet
          case rel => exact ⟨by rw [HE.out]; first | rfl | (simp; done) | (simp; omega) | (congr 1; rw [Bool.eq_iff_iff]; simp; done) | (congr 1; rw [Bool.eq_iff_iff]; simp only [decide_eq_true_eq, Bool.not_eq_true', decide_eq_false_iff_not]; omega), HW2⟩
    case rest =>
      obtain ⟨rfl, HK1⟩ := hcut
      generalize wc = wk1 at *
      clear x0 x1 x2 x3 x4 x5 x6 x7 x8 x9 x10 x11 x12 x13
      obtain ⟨⟨x0, x1, x2, x3, x4, x5, x6⟩, x7, x8, x9, x10, x11, x12, x13⟩ := ms_cells (HX.out.below HK1.out)
      cases b1
      case false =>
        rw [Bool.false_and] at HV
        go_wp2
        go_ret
        exact ⟨by rw [HV.out]; rfl, HB.out.trans (HK1.out.mono HB.out.size)⟩
      rw [Bool.true_and] at HV
      go_upto_region 8 with (fail)
      go_cut [75] from 12 (fun v wx => v = .bool (!b2) ∧ Hid (Below w0.heap.size w0 wx))
      case first => as_aux_lemma =>
        cases hkh : kh M.k 4
        · have HE : Hid (b2 = decide (M.t = 0)) := Lib.hid (by rw [HF2.out, hkh]; rfl)
          have hc4 := fun w' => HH.out 4 w'
          simp only [hkh] at hc4
          have HC4 := Lib.hid hc4
          clear hc4 hkh
          have L1 : ∀ w', BlS wk1 w' → ((w'.cell? ⟨w.heap.size, 0, none⟩ = some (.int .i64 M.k) ∧ w'.cell? ⟨w.heap.size, 1, none⟩ = some (.int .u64 M.e) ∧ w'.cell? ⟨w.heap.size, 2, none⟩ = some (.int .u64 M.q) ∧ w'.cell? ⟨w.heap.size, 3, none⟩ = some (.int .u64 M.p) ∧ w'.cell? ⟨w.heap.size, 4, none⟩ = some (.int .i64 M.c) ∧ w'.cell? ⟨w.heap.size, 5, none⟩ = some (.int .i64 M.t) ∧ w'.cell? ⟨w.heap.size, 6, none⟩ = some (.slice a.A1 M.S.length a.m1)) ∧ w'.cell? ⟨w.heap.size, 7, none⟩ = some (.slice a.A2 M.L.length a.m2) ∧ w'.cell? ⟨w.heap.size, 8, none⟩ = some (.slice a.A3 M.D.length a.m3) ∧ w'.cell? ⟨w.heap.size, 9, none⟩ = some (.int .u64 M.s.1) ∧ w'.cell? ⟨w.heap.size, 10, none⟩ = some (.int .u64 M.s.2.1) ∧ w'.cell? ⟨w.heap.size, 11, none⟩ = some (.int .u64 M.s.2.2) ∧ w'.cell? ⟨w.heap.size, 12, none⟩ = some (.int .u64 M.u) ∧ w'.cell? ⟨w.heap.size, 13, none⟩ = some (.slice a.A4 M.P.length a.m4)) := fun w' h => ms_cells ((HX.out.below HK1.out).below h)
          clear x0 x1 x2 x3 x4 x5 x6 x7 x8 x9 x10 x11 x12 x13
          have hS : BlS wk1 wk1.drew := below_one' _
          refine Seq.wp_region_seq (BlS wk1) (by kernel_rfl) (by kernel_rfl) hS ?_
          generalize wk1.drew = wd at *
          repeat (first | (refine Seq.Seq.skip (by rfl) ?_; (try simp only [Act.put, List.setIfInBounds_toArray, List.set_cons_zero, List.set_cons_succ])) | (refine Seq.Seq.det ?_ (by rfl) (fun w hS => ?_) ?_; rotate_left; ((try dsimp only at hS); go_simp; (try rw [if_pos (by omega)]); with_reducible rfl); (try simp only [Act.put, List.setIfInBounds_toArray, List.set_cons_zero, List.set_cons_succ])))
          refine Seq.Seq.make (by rfl) (by rfl) (fun K Q' hK => ?_)
          go_simp
          go_at_call 60
          refine (HC4.out _).mono ?_
          rintro e v1 ⟨rfl, hc1⟩
          replace hS := Below.trans hS (hc1.mono (Below.size hS))
          clear hc1
          refine hK.out _ _ (hS) ?_
          clear hK K
          try simp only [Act.put, List.setIfInBounds_toArray, List.set_cons_zero, List.set_cons_succ]
          repeat (first | (refine Seq.Seq.skip (by rfl) ?_; (try simp only [Act.put, List.setIfInBounds_toArray, List.set_cons_zero, List.set_cons_succ])) | (refine Seq.Seq.det ?_ (by rfl) (fun w hS => ?_) ?_; rotate_left; ((try dsimp only at hS); go_simp; (try rw [if_pos (by omega)]); with_reducible rfl); (try simp only [Act.put, List.setIfInBounds_toArray, List.set_cons_zero, List.set_cons_succ])))
          refine Seq.Seq.make (by rfl) (by rfl) (fun K Q' hK => ?_)
          go_simp
          go_at_call 60
          refine (HC4.out _).mono ?_
          rintro e v1 ⟨rfl, hc1⟩
          replace hS := Below.trans hS (hc1.mono (Below.size hS))
          clear hc1
          refine hK.out _ _ (hS) ?_
          clear hK K
          try simp only [Act.put, List.setIfInBounds_toArray, List.set_cons_zero, List.set_cons_succ]
          repeat (first | (refine Seq.Seq.skip (by rfl) ?_; (try simp only [Act.put, List.setIfInBounds_toArray, List.set_cons_zero, List.set_cons_succ])) | (refine Seq.Seq.det ?_ (by rfl) (fun w hS => ?_) ?_; rotate_left; ((try dsimp only at hS); go_simp; (try rw [if_pos (by omega)]); with_reducible rfl); (try simp only [Act.put, List.setIfInBounds_toArray, List.set_cons_zero, List.set_cons_succ])))
          refine Seq.Seq.nil ?_
          go_wp2_with fail
          go_meet
          exact ⟨by rw [HE.out]; first | rfl | (simp; done) | (simp; omega) | (congr 1; rw [Bool.eq_iff_iff]; simp), Lib.hid (HK1.out.trans (Below.mono hS HK1.out.size))⟩
        · have HRM := Lib.hid (kh_state hkh)
          have hcm := fun w' => rmost28_any M.k w'
          unfold BPost at hcm
          have HCM := Lib.hid hcm
          clear hcm
          by_cases h1 : M.t < 1
          · have HE : Hid (b2 = false) := Lib.hid (by rw [HF2.out, hkh, if_pos rfl]; exact decide_eq_false (by omega))
            have hc4 := fun w' => HH.out 4 w'
            simp only [hkh] at hc4
            have HC4 := Lib.hid hc4
            clear hc4 hkh
            have L1 : ∀ w', BlS wk1 w' → ((w'.cell? ⟨w.heap.size, 0, none⟩ = some (.int .i64 M.k) ∧ w'.cell? ⟨w.heap.size, 1, none⟩ = some (.int .u64 M.e) ∧ w'.cell? ⟨w.heap.size, 2, none⟩ = some (.int .u64 M.q) ∧ w'.cell? ⟨w.heap.size, 3, none⟩ = some (.int .u64 M.p) ∧ w'.cell? ⟨w.heap.size, 4, none⟩ = some (.int .i64 M.c) ∧ w'.cell? ⟨w.heap.size, 5, none⟩ = some (.int .i64 M.t) ∧ w'.cell? ⟨w.heap.size, 6, none⟩ = some (.slice a.A1 M.S.length a.m1)) ∧ w'.cell? ⟨w.heap.size, 7, none⟩ = some (.slice a.A2 M.L.length a.m2) ∧ w'.cell? ⟨w.heap.size, 8, none⟩ = some (.slice a.A3 M.D.length a.m3) ∧ w'.cell? ⟨w.heap.size, 9, none⟩ = some (.int .u64 M.s.1) ∧ w'.cell? ⟨w.heap.size, 10, none⟩ = some (.int .u64 M.s.2.1) ∧ w'.cell? ⟨w.heap.size, 11, none⟩ = some (.int .u64 M.s.2.2) ∧ w'.cell? ⟨w.heap.size, 12, none⟩ = some (.int .u64 M.u) ∧ w'.cell? ⟨w.heap.size, 13, none⟩ = some (.slice a.A4 M.P.length a.m4)) := fun w' h => ms_cells ((HX.out.below HK1.out).below h)
            clear x0 x1 x2 x3 x4 x5 x6 x7 x8 x9 x10 x11 x12 x13
            have hS : BlS wk1 wk1.drew := below_one' _
            refine Seq.wp_region_seq (BlS wk1) (by kernel_rfl) (by kernel_rfl) hS ?_
            generalize wk1.drew = wd at *
            repeat (first | (refine Seq.Seq.skip (by rfl) ?_; (try simp only [Act.put, List.setIfInBounds_toArray, List.set_cons_zero, List.set_cons_succ])) | (refine Seq.Seq.det ?_ (by rfl) (fun w hS => ?_) ?_; rotate_left; ((try dsimp only at hS); go_simp; (try rw [if_pos (by omega)]); with_reducible rfl); (try simp only [Act.put, List.setIfInBounds_toArray, List.set_cons_zero, List.set_cons_succ])))
            refine Seq.Seq.make (by rfl) (by rfl) (fun K Q' hK => ?_)
            go_simp
            go_at_call 60
            refine (HC4.out _).mono ?_
            rintro e v1 ⟨rfl, hc1⟩
            replace hS := Below.trans hS (hc1.mono (Below.size hS))
            clear hc1
            refine hK.out _ _ (hS) ?_
            clear hK K
            try simp only [Act.put, List.setIfInBounds_toArray, List.set_cons_zero, List.set_cons_succ]
            repeat (first | (refine Seq.Seq.skip (by rfl) ?_; (try simp only [Act.put, List.setIfInBounds_toArray, List.set_cons_zero, List.set_cons_succ])) | (refine Seq.Seq.det ?_ (by rfl) (fun w hS => ?_) ?_; rotate_left; ((try dsimp only at hS); go_simp; (try rw [if_pos (by omega)]); with_reducible rfl); (try simp only [Act.put, List.setIfInBounds_toArray, List.set_cons_zero, List.set_cons_succ])))
            try rw [decide_eq_true h1]
            repeat (first | (refine Seq.Seq.skip (by rfl) ?_; (try simp only [Act.put, List.setIfInBounds_toArray, List.set_cons_zero, List.set_cons_succ])) | (refine Seq.Seq.det ?_ (by rfl) (fun w hS => ?_) ?_; rotate_left; ((try dsimp only at hS); go_simp; (try rw [if_pos (by omega)]); with_reducible rfl); (try simp only [Act.put, List.setIfInBounds_toArray, List.set_cons_zero, List.set_cons_succ])))
            refine Seq.Seq.nil ?_
            go_wp2_with fail
            go_meet
            exact ⟨by rw [HE.out]; first | rfl | (simp; done) | (simp; omega) | (congr 1; rw [Bool.eq_iff_iff]; simp), Lib.hid (HK1.out.trans (Below.mono hS HK1.out.size))⟩
          by_cases h2 : rmost M.k < M.t
          · have HE : Hid (b2 = false) := Lib.hid (by rw [HF2.out, hkh, if_pos rfl, ← HRM.out]; exact decide_eq_false (by omega))
            have hc4 := fun w' => HH.out 4 w'
            simp only [hkh] at hc4
            have HC4 := Lib.hid hc4
            clear hc4 hkh
            have L1 : ∀ w', BlS wk1 w' → ((w'.cell? ⟨w.heap.size, 0, none⟩ = some (.int .i64 M.k) ∧ w'.cell? ⟨w.heap.size, 1, none⟩ = some (.int .u64 M.e) ∧ w'.cell? ⟨w.heap.size, 2, none⟩ = some (.int .u64 M.q) ∧ w'.cell? ⟨w.heap.size, 3, none⟩ = some (.int .u64 M.p) ∧ w'.cell? ⟨w.heap.size, 4, none⟩ = some (.int .i64 M.c) ∧ w'.cell? ⟨w.heap.size, 5, none⟩ = some (.int .i64 M.t) ∧ w'.cell? ⟨w.heap.size, 6, none⟩ = some (.slice a.A1 M.S.length a.m1)) ∧ w'.cell? ⟨w.heap.size, 7, none⟩ = some (.slice a.A2 M.L.length a.m2) ∧ w'.cell? ⟨w.heap.size, 8, none⟩ = some (.slice a.A3 M.D.length a.m3) ∧ w'.cell? ⟨w.heap.size, 9, none⟩ = some (.int .u64 M.s.1) ∧ w'.cell? ⟨w.heap.size, 10, none⟩ = some (.int .u64 M.s.2.1) ∧ w'.cell? ⟨w.heap.size, 11, none⟩ = some (.int .u64 M.s.2.2) ∧ w'.cell? ⟨w.heap.size, 12, none⟩ = some (.int .u64 M.u) ∧ w'.cell? ⟨w.heap.size, 13, none⟩ = some (.slice a.A4 M.P.length a.m4)) := fun w' h => ms_cells ((HX.out.below HK1.out).below h)
            clear x0 x1 x2 x3 x4 x5 x6 x7 x8 x9 x10 x11 x12 x13
            have hS : BlS wk1 wk1.drew := below_one' _
            refine Seq.wp_region_seq (BlS wk1) (by kernel_rfl) (by kernel_rfl) hS ?_
            generalize wk1.drew = wd at *
            repeat (first | (refine Seq.Seq.skip (by rfl) ?_; (try simp only [Act.put, List.setIfInBounds_toArray, List.set_cons_zero, List.set_cons_succ])) | (refine Seq.Seq.det ?_ (by rfl) (fun w hS => ?_) ?_; rotate_left; ((try dsimp only at hS); go_simp; (try rw [if_pos (by omega)]); with_reducible rfl); (try simp only [Act.put, List.setIfInBounds_toArray, List.set_cons_zero, List.set_cons_succ])))
            refine Seq.Seq.make (by rfl) (by rfl) (fun K Q' hK => ?_)
            go_simp
            go_at_call 60
            refine (HC4.out _).mono ?_
            rintro e v1 ⟨rfl, hc1⟩
            replace hS := Below.trans hS (hc1.mono (Below.size hS))
            clear hc1
            refine hK.out _ _ (hS) ?_
            clear hK K
            try simp only [Act.put, List.setIfInBounds_toArray, List.set_cons_zero, List.set_cons_succ]
            repeat (first | (refine Seq.Seq.skip (by rfl) ?_; (try simp only [Act.put, List.setIfInBounds_toArray, List.set_cons_zero, List.set_cons_succ])) | (refine Seq.Seq.det ?_ (by rfl) (fun w hS => ?_) ?_; rotate_left; ((try dsimp only at hS); go_simp; (try rw [if_pos (by omega)]); with_reducible rfl); (try simp only [Act.put, List.setIfInBounds_toArray, List.set_cons_zero, List.set_cons_succ])))
            try rw [decide_eq_false h1]
            repeat (first | (refine Seq.Seq.skip (by rfl) ?_; (try simp only [Act.put, List.setIfInBounds_toArray, List.set_cons_zero, List.set_cons_succ])) | (refine Seq.Seq.det ?_ (by rfl) (fun w hS => ?_) ?_; rotate_left; ((try dsimp only at hS); go_simp; (try rw [if_pos (by omega)]); with_reducible rfl); (try simp only [Act.put, List.setIfInBounds_toArray, List.set_cons_zero, List.set_cons_succ])))
            refine Seq.Seq.make (by rfl) (by rfl) (fun K Q' hK => ?_)
            go_simp
            go_at_call 62
            refine (HCM.out _).mono ?_
            rintro e v1 ⟨rfl, hc1⟩
            replace hS := Below.trans hS (hc1.mono (Below.size hS))
            clear hc1
            refine hK.out _ _ (hS) ?_
            clear hK K
            try simp only [Act.put, List.setIfInBounds_toArray, List.set_cons_zero, List.set_cons_succ]
            repeat (first | (refine Seq.Seq.skip (by rfl) ?_; (try simp only [Act.put, List.setIfInBounds_toArray, List.set_cons_zero, List.set_cons_succ])) | (refine Seq.Seq.det ?_ (by rfl) (fun w hS => ?_) ?_; rotate_left; ((try dsimp only at hS); go_simp; (try rw [if_pos (by omega)]); with_reducible rfl); (try simp only [Act.put, List.setIfInBounds_toArray, List.set_cons_zero, List.set_cons_succ])))
            try rw [decide_eq_true h2]
            repeat (first | (refine Seq.Seq.skip (by rfl) ?_; (try simp only [Act.put, List.setIfInBounds_toArray, List.set_cons_zero, List.set_cons_succ])) | (refine Seq.Seq.det ?_ (by rfl) (fun w hS => ?_) ?_; rotate_left; ((try dsimp only at hS); go_simp; (try rw [if_pos (by omega)]); with_reducible rfl); (try simp only [Act.put, List.setIfInBounds_toArray, List.set_cons_zero, List.set_cons_succ])))
            refine Seq.Seq.nil ?_
            go_wp2_with fail
            go_meet
            exact ⟨by rw [HE.out]; first | rfl | (simp; done) | (simp; omega) | (congr 1; rw [Bool.eq_iff_iff]; simp), Lib.hid (HK1.out.trans (Below.mono hS HK1.out.size))⟩
          · have HE : Hid (b2 = true) := Lib.hid (by rw [HF2.out, hkh, if_pos rfl, ← HRM.out]; exact decide_eq_true (by omega))
            have hc4 := fun w' => HH.out 4 w'
            simp only [hkh] at hc4
            have HC4 := Lib.hid hc4
            clear hc4 hkh
            have L1 : ∀ w', BlS wk1 w' → ((w'.cell? ⟨w.heap.size, 0, none⟩ = some (.int .i64 M.k) ∧ w'.cell? ⟨w.heap.size, 1, none⟩ = some (.int .u64 M.e) ∧ w'.cell? ⟨w.heap.size, 2, none⟩ = some (.int .u64 M.q) ∧ w'.cell? ⟨w.heap.size, 3, none⟩ = some (.int .u64 M.p) ∧ w'.cell? ⟨w.heap.size, 4, none⟩ = some (.int .i64 M.c) ∧ w'.cell? ⟨w.heap.size, 5, none⟩ = some (.int .i64 M.t) ∧ w'.cell? ⟨w.heap.size, 6, none⟩ = some (.slice a.A1 M.S.length a.m1)) ∧ w'.cell? ⟨w.heap.size, 7, none⟩ = some (.slice a.A2 M.L.length a.m2) ∧ w'.cell? ⟨w.heap.size, 8, none⟩ = some (.slice a.A3 M.D.length a.m3) ∧ w'.cell? ⟨w.heap.size, 9, none⟩ = some (.int .u64 M.s.1) ∧ w'.cell? ⟨w.heap.size, 10, none⟩ = some (.int .u64 M.s.2.1) ∧ w'.cell? ⟨w.heap.size, 11, none⟩ = some (.int .u64 M.s.2.2) ∧ w'.cell? ⟨w.heap.size, 12, none⟩ = some (.int .u64 M.u) ∧ w'.cell? ⟨w.heap.size, 13, none⟩ = some (.slice a.A4 M.P.length a.m4)) := fun w' h => ms_cells ((HX.out.below HK1.out).below h)
            clear x0 x1 x2 x3 x4 x5 x6 x7 x8 x9 x10 x11 x12 x13
            have hS : BlS wk1 wk1.drew := below_one' _
            refine Seq.wp_region_seq (BlS wk1) (by kernel_rfl) (by kernel_rfl) hS ?_
            generalize wk1.drew = wd at *
            repeat (first | (refine Seq.Seq.skip (by rfl) ?_; (try simp only [Act.put, List.setIfInBounds_toArray, List.set_cons_zero, List.set_cons_succ])) | (refine Seq.Seq.det ?_ (by rfl) (fun w hS => ?_) ?_; rotate_left; ((try dsimp only at hS); go_simp; (try rw [if_pos (by omega)]); with_reducible rfl); (try simp only [Act.put, List.setIfInBounds_toArray, List.set_cons_zero, List.set_cons_succ])))
            refine Seq.Seq.make (by rfl) (by rfl) (fun K Q' hK => ?_)
            go_simp
            go_at_call 60
            refine (HC4.out _).mono ?_
            rintro e v1 ⟨rfl, hc1⟩
            replace hS := Below.trans hS (hc1.mono (Below.size hS))
            clear hc1
            refine hK.out _ _ (hS) ?_
            clear hK K
            try simp only [Act.put, List.setIfInBounds_toArray, List.set_cons_zero, List.set_cons_succ]
            repeat (first | (refine Seq.Seq.skip (by rfl) ?_; (try simp only [Act.put, List.setIfInBounds_toArray, List.set_cons_zero, List.set_cons_succ])) | (refine Seq.Seq.det ?_ (by rfl) (fun w hS => ?_) ?_; rotate_left; ((try dsimp only at hS); go_simp; (try rw [if_pos (by omega)]); with_reducible rfl); (try simp only [Act.put, List.setIfInBounds_toArray, List.set_cons_zero, List.set_cons_succ])))
            try rw [decide_eq_false h1]
            repeat (first | (refine Seq.Seq.skip (by rfl) ?_; (try simp only [Act.put, List.setIfInBounds_toArray, List.set_cons_zero, List.set_cons_succ])) | (refine Seq.Seq.det ?_ (by rfl) (fun w hS => ?_) ?_; rotate_left; ((try dsimp only at hS); go_simp; (try rw [if_pos (by omega)]); with_reducible rfl); (try simp only [Act.put, List.setIfInBounds_toArray, List.set_cons_zero, List.set_cons_succ])))
            refine Seq.Seq.make (by rfl) (by rfl) (fun K Q' hK => ?_)
            go_simp
            go_at_call 62
            refine (HCM.out _).mono ?_
            rintro e v1 ⟨rfl, hc1⟩
            replace hS := Below.trans hS (hc1.mono (Below.size hS))
            clear hc1
            refine hK.out _ _ (hS) ?_
            clear hK K
            try simp only [Act.put, List.setIfInBounds_toArray, List.set_cons_zero, List.set_cons_succ]
            repeat (first | (refine Seq.Seq.skip (by rfl) ?_; (try simp only [Act.put, List.setIfInBounds_toArray, List.set_cons_zero, List.set_cons_succ])) | (refine Seq.Seq.det ?_ (by rfl) (fun w hS => ?_) ?_; rotate_left; ((try dsimp only at hS); go_simp; (try rw [if_pos (by omega)]); with_reducible rfl); (try simp only [Act.put, List.setIfInBounds_toArray, List.set_cons_zero, List.set_cons_succ])))
            try rw [decide_eq_false h2]
            repeat (first | (refine Seq.Seq.skip (by rfl) ?_; (try simp only [Act.put, List.setIfInBounds_toArray, List.set_cons_zero, List.set_cons_succ])) | (refine Seq.Seq.det ?_ (by rfl) (fun w hS => ?_) ?_; rotate_left; ((try dsimp only at hS); go_simp; (try rw [if_pos (by omega)]); with_reducible rfl); (try simp only [Act.put, List.setIfInBounds_toArray, List.set_cons_zero, List.set_cons_succ])))
            refine Seq.Seq.make (by rfl) (by rfl) (fun K Q' hK => ?_)
            go_simp
            go_at_call 60
            refine (HC4.out _).mono ?_
            rintro e v1 ⟨rfl, hc1⟩
            replace hS := Below.trans hS (hc1.mono (Below.size hS))
            clear hc1
            refine hK.out _ _ (hS) ?_
            clear hK K
            try simp only [Act.put, List.setIfInBounds_toArray, List.set_cons_zero, List.set_cons_succ]
            repeat (first | (refine Seq.Seq.skip (by rfl) ?_; (try simp only [Act.put, List.setIfInBounds_toArray, List.set_cons_zero, List.set_cons_succ])) | (refine Seq.Seq.det ?_ (by rfl) (fun w hS => ?_) ?_; rotate_left; ((try dsimp only at hS); go_simp; (try rw [if_pos (by omega)]); with_reducible rfl); (try simp only [Act.put, List.setIfInBounds_toArray, List.set_cons_zero, List.set_cons_succ])))
            refine Seq.Seq.nil ?_
            go_wp2_with fail
            go_meet
            exact ⟨by rw [HE.out]; first | rfl | (simp; done) | (simp; omega) | (congr 1; rw [Bool.eq_iff_iff]; simp), Lib.hid (HK1.out.trans (Below.mono hS HK1.out.size))⟩
      case rest =>
        obtain ⟨rfl, HK2⟩ := hcut
        generalize wc = wk2 at *
        clear x0 x1 x2 x3 x4 x5 x6 x7 x8 x9 x10 x11 x12 x13
        obtain ⟨⟨x0, x1, x2, x3, x4, x5, x6⟩, x7, x8, x9, x10, x11, x12, x13⟩ := ms_cells (HX.out.below HK2.out)
        cases b2
        case false =>
          rw [Bool.false_and] at HV
          go_wp2
          go_ret
          exact ⟨by rw [HV.out]; rfl, HB.out.trans (HK2.out.mono HB.out.size)⟩
        rw [Bool.true_and] at HV
        go_upto_region 10 with (fail)
        go_cut [100] from 12 (fun v wx => v = .bool (!b3) ∧ Hid (Below w0.heap.size w0 wx))
        case first => as_aux_lemma =>
          cases hkh : kh M.k 8
          · have HKH := Lib.hid hkh
            have HE : Hid (b3 = decide (M.S.length = 0)) := Lib.hid (by rw [HF3.out, hkh]; rfl)
            clear hkh
            have hcH := HH.out 8 wk2
            rw [HKH.out] at hcH
            go_wp2_with fail
            refine hcH.mono ?_
            rintro e v1 ⟨rfl, hb1⟩
            have HW1 := Lib.hid (HK2.out.trans (hb1.mono HK2.out.size))
            clear hcH hb1 x0 x1 x2 x3 x4 x5 x6 x7 x8 x9 x10 x11 x12 x13
            obtain ⟨⟨x0, x1, x2, x3, x4, x5, x6⟩, x7, x8, x9, x10, x11, x12, x13⟩ := ms_cells (HX.out.below HW1.out)
            have hcH := HH.out 8 v1
            rw [HKH.out] at hcH
            go_wp2_with fail
            refine hcH.mono ?_
            rintro e v2 ⟨rfl, hb1⟩
            have HW2 := Lib.hid (HW1.out.trans (hb1.mono HW1.out.size))
            clear hcH hb1 x0 x1 x2 x3 x4 x5 x6 x7 x8 x9 x10 x11 x12 x13
            obtain ⟨⟨x0, x1, x2, x3, x4, x5, x6⟩, x7, x8, x9, x10, x11, x12, x13⟩ := ms_cells (HX.out.below HW2.out)
            go_wp2
            go_meet
            case rel => exact ⟨by rw [HE.out]; first | rfl | (simp; done) | (simp; omega) | (congr 1; rw [Bool.eq_iff_iff]; simp; done) | (congr 1; rw [Bool.eq_iff_iff]; simp only [decide_eq_true_eq, Bool.not_eq_true', decide_eq_false_iff_not]; omega), HW2⟩
          · have HKH := Lib.hid hkh
            by_cases h1 : (M.S.length : Int) > 16
            · have HE : Hid (b3 = false) := Lib.hid (by rw [HF3.out, hkh, if_pos rfl, decide_eq_false (by omega), Bool.false_and])
              clear hkh
              have hcH := HH.out 8 wk2
              rw [HKH.out] at hcH
              go_wp2_with fail
              refine hcH.mono ?_
              rintro e v1 ⟨rfl, hb1⟩
              have HW1 := Lib.hid (HK2.out.trans (hb1.mono HK2.out.size))
              clear hcH hb1 x0 x1 x2 x3 x4 x5 x6 x7 x8 x9 x10 x11 x12 x13
              obtain ⟨⟨x0, x1, x2, x3, x4, x5, x6⟩, x7, x8, x9, x10, x11, x12, x13⟩ := ms_cells (HX.out.below HW1.out)
              go_wp2
              go_meet
              case rel => exact ⟨by rw [HE.out]; first | rfl | (simp; done) | (simp; omega) | (congr 1; rw [Bool.eq_iff_iff]; simp; done) | (congr 1; rw [Bool.eq_iff_iff]; simp only [decide_eq_true_eq, Bool.not_eq_true', decide_eq_false_iff_not]; omega), HW1⟩
            · have HE : Hid (b3 = risesB M.S) := Lib.hid (by rw [HF3.out, hkh, if_pos rfl, decide_eq_true (by omega), Bool.true_and])
              have hcQ := fun w' (h : Below w0.heap.size w0 w') => rrises_any a.A1 M.S.length a.m1 M.S w' (HM.out.below h).us HSL.out (HM.out.below h).sb
              unfold BPost at hcQ
              have HCQ := Lib.hid hcQ
              clear hkh hcQ
              cases hps : risesB M.S
              · rw [hps] at HE HCQ
                clear hps
                have hcH := HH.out 8 wk2
                rw [HKH.out] at hcH
                go_wp2_with fail
                refine hcH.mono ?_
                rintro e v1 ⟨rfl, hb1⟩
                have HW1 := Lib.hid (HK2.out.trans (hb1.mono HK2.out.size))
                clear hcH hb1 x0 x1 x2 x3 x4 x5 x6 x7 x8 x9 x10 x11 x12 x13
                obtain ⟨⟨x0, x1, x2, x3, x4, x5, x6⟩, x7, x8, x9, x10, x11, x12, x13⟩ := ms_cells (HX.out.below HW1.out)
                have hcQ := HCQ.out v1 HW1.out
                go_wp2_with fail
                refine hcQ.mono ?_
                rintro e v2 ⟨rfl, hb1⟩
                have HW2 := Lib.hid (HW1.out.trans (hb1.mono HW1.out.size))
                clear hcQ hb1 x0 x1 x2 x3 x4 x5 x6 x7 x8 x9 x10 x11 x12 x13
                obtain ⟨⟨x0, x1, x2, x3, x4, x5, x6⟩, x7, x8, x9, x10, x11, x12, x13⟩ := ms_cells (HX.out.below HW2.out)
                go_wp2
                go_meet
                case rel => exact ⟨by rw [HE.out]; first | rfl | (simp; done) | (simp; omega) | (congr 1; rw [Bool.eq_iff_iff]; simp; done) | (congr 1; rw [Bool.eq_iff_iff]; simp only [decide_eq_true_eq, Bool.not_eq_true', decide_eq_false_iff_not]; omega), HW2⟩
              · rw [hps] at HE HCQ
                clear hps
                have hcH := HH.out 8 wk2
                rw [HKH.out] at hcH
                go_wp2_with fail
                refine hcH.mono ?_
                rintro e v1 ⟨rfl, hb1⟩
                have HW1 := Lib.hid (HK2.out.trans (hb1.mono HK2.out.size))
                clear hcH hb1 x0 x1 x2 x3 x4 x5 x6 x7 x8 x9 x10 x11 x12 x13
                obtain ⟨⟨x0, x1, x2, x3, x4, x5, x6⟩, x7, x8, x9, x10, x11, x12, x13⟩ := ms_cells (HX.out.below HW1.out)
                have hcQ := HCQ.out v1 HW1.out
                go_wp2_with fail
                refine hcQ.mono ?_
                rintro e v2 ⟨rfl, hb1⟩
                have HW2 := Lib.hid (HW1.out.trans (hb1.mono HW1.out.size))
                clear hcQ hb1 x0 x1 x2 x3 x4 x5 x6 x7 x8 x9 x10 x11 x12 x13
                obtain ⟨⟨x0, x1, x2, x3, x4, x5, x6⟩, x7, x8, x9, x10, x11, x12, x13⟩ := ms_cells (HX.out.below HW2.out)
                have hcH := HH.out 8 v2
                rw [HKH.out] at hcH
                go_wp2_with fail
                refine hcH.mono ?_
                rintro e v3 ⟨rfl, hb1⟩
                have HW3 := Lib.hid (HW2.out.trans (hb1.mono HW2.out.size))
                clear hcH hb1 x0 x1 x2 x3 x4 x5 x6 x7 x8 x9 x10 x11 x12 x13
                obtain ⟨⟨x0, x1, x2, x3, x4, x5, x6⟩, x7, x8, x9, x10, x11, x12, x13⟩ := ms_cells (HX.out.below HW3.out)
                go_wp2
                go_meet
                case rel => exact ⟨by rw [HE.out]; first | rfl | (simp; done) | (simp; omega) | (congr 1; rw [Bool.eq_iff_iff]; simp; done) | (congr 1; rw [Bool.eq_iff_iff]; simp only [decide_eq_true_eq, Bool.not_eq_true', decide_eq_false_iff_not]; omega), HW3⟩
        case rest =>
          obtain ⟨rfl, HK3⟩ := hcut
          generalize wc = wk3 at *
          clear x0 x1 x2 x3 x4 x5 x6 x7 x8 x9 x10 x11 x12 x13
          obtain ⟨⟨x0, x1, x2, x3, x4, x5, x6⟩, x7, x8, x9, x10, x11, x12, x13⟩ := ms_cells (HX.out.below HK3.out)
          cases b3
          case false =>
            rw [Bool.false_and] at HV
            go_wp2
            go_ret
            exact ⟨by rw [HV.out]; rfl, HB.out.trans (HK3.out.mono HB.out.size)⟩
          rw [Bool.true_and] at HV
          go_upto_region 12 with (fail)
          go_cut [121] from 12 (fun v wx => v = .bool (!b4) ∧ Hid (Below w0.heap.size w0 wx))
          case first => as_aux_lemma =>
            cases hkh : kh M.k 16
            · have HKH := Lib.hid hkh
              have HE : Hid (b4 = decide (M.L.length = 0)) := Lib.hid (by rw [HF4.out, hkh]; rfl)
              clear hkh
              have hcH := HH.out 16 wk3
              rw [HKH.out] at hcH
              go_wp2_with fail
              refine hcH.mono ?_
              rintro e v1 ⟨rfl, hb1⟩
              have HW1 := Lib.hid (HK3.out.trans (hb1.mono HK3.out.size))
              clear hcH hb1 x0 x1 x2 x3 x4 x5 x6 x7 x8 x9 x10 x11 x12 x13
              obtain ⟨⟨x0, x1, x2, x3, x4, x5, x6⟩, x7, x8, x9, x10, x11, x12, x13⟩ := ms_cells (HX.out.below HW1.out)
              have hcH := HH.out 16 v1
              rw [HKH.out] at hcH
              go_wp2_with fail
              refine hcH.mono ?_
              rintro e v2 ⟨rfl, hb1⟩
              have HW2 := Lib.hid (HW1.out.trans (hb1.mono HW1.out.size))
              clear hcH hb1 x0 x1 x2 x3 x4 x5 x6 x7 x8 x9 x10 x11 x12 x13
              obtain ⟨⟨x0, x1, x2, x3, x4, x5, x6⟩, x7, x8, x9, x10, x11, x12, x13⟩ := ms_cells (HX.out.below HW2.out)
              go_wp2
              go_meet
              case rel => exact ⟨by rw [HE.out]; first | rfl | (simp; done) | (simp; omega) | (congr 1; rw [Bool.eq_iff_iff]; simp; done) | (congr 1; rw [Bool.eq_iff_iff]; simp only [decide_eq_true_eq, Bool.not_eq_true', decide_eq_false_iff_not]; omega), HW2⟩
            · have HKH := Lib.hid hkh
              have HE : Hid (b4 = lkok M.p M.L) := Lib.hid (by rw [HF4.out, hkh]; rfl)
              have hcQ := fun w' (h : Below w0.heap.size w0 w') => rlkright_any _ M.p a.A2 M.L.length a.m2 M.L w' (HM.out.below h).lks HM.out.hp.1 HM.out.hp.2
              unfold BPost at hcQ
              have HCQ := Lib.hid hcQ
              clear hkh hcQ
              cases hps : lkok M.p M.L
              · rw [hps] at HE HCQ
                clear hps
                have hcH := HH.out 16 wk3
                rw [HKH.out] at hcH
                go_wp2_with fail
                refine hcH.mono ?_
                rintro e v1 ⟨rfl, hb1⟩
                have HW1 := Lib.hid (HK3.out.trans (hb1.mono HK3.out.size))
                clear hcH hb1 x0 x1 x2 x3 x4 x5 x6 x7 x8 x9 x10 x11 x12 x13
                obtain ⟨⟨x0, x1, x2, x3, x4, x5, x6⟩, x7, x8, x9, x10, x11, x12, x13⟩ := ms_cells (HX.out.below HW1.out)
                have hcQ := HCQ.out v1 HW1.out
                go_wp2_with fail
                refine hcQ.mono ?_
                rintro e v2 ⟨rfl, hb1⟩
                have HW2 := Lib.hid (HW1.out.trans (hb1.mono HW1.out.size))
                clear hcQ hb1 x0 x1 x2 x3 x4 x5 x6 x7 x8 x9 x10 x11 x12 x13
                obtain ⟨⟨x0, x1, x2, x3, x4, x5, x6⟩, x7, x8, x9, x10, x11, x12, x13⟩ := ms_cells (HX.out.below HW2.out)
                go_wp2
                go_meet
                case rel => exact ⟨by rw [HE.out]; first | rfl | (simp; done) | (simp; omega) | (congr 1; rw [Bool.eq_iff_iff]; simp; done) | (congr 1; rw [Bool.eq_iff_iff]; simp only [decide_eq_true_eq, Bool.not_eq_true', decide_eq_false_iff_not]; omega), HW2⟩
              · rw [hps] at HE HCQ
                clear hps
                have hcH := HH.out 16 wk3
                rw [HKH.out] at hcH
                go_wp2_with fail
                refine hcH.mono ?_
                rintro e v1 ⟨rfl, hb1⟩
                have HW1 := Lib.hid (HK3.out.trans (hb1.mono HK3.out.size))
                clear hcH hb1 x0 x1 x2 x3 x4 x5 x6 x7 x8 x9 x10 x11 x12 x13
                obtain ⟨⟨x0, x1, x2, x3, x4, x5, x6⟩, x7, x8, x9, x10, x11, x12, x13⟩ := ms_cells (HX.out.below HW1.out)
                have hcQ := HCQ.out v1 HW1.out
                go_wp2_with fail
                refine hcQ.mono ?_
                rintro e v2 ⟨rfl, hb1⟩
                have HW2 := Lib.hid (HW1.out.trans (hb1.mono HW1.out.size))
                clear hcQ hb1 x0 x1 x2 x3 x4 x5 x6 x7 x8 x9 x10 x11 x12 x13
                obtain ⟨⟨x0, x1, x2, x3, x4, x5, x6⟩, x7, x8, x9, x10, x11, x12, x13⟩ := ms_cells (HX.out.below HW2.out)
                have hcH := HH.out 16 v2
                rw [HKH.out] at hcH
                go_wp2_with fail
                refine hcH.mono ?_
                rintro e v3 ⟨rfl, hb1⟩
                have HW3 := Lib.hid (HW2.out.trans (hb1.mono HW2.out.size))
                clear hcH hb1 x0 x1 x2 x3 x4 x5 x6 x7 x8 x9 x10 x11 x12 x13
                obtain ⟨⟨x0, x1, x2, x3, x4, x5, x6⟩, x7, x8, x9, x10, x11, x12, x13⟩ := ms_cells (HX.out.below HW3.out)
                go_wp2
                go_meet
                case rel => exact ⟨by rw [HE.out]; first | rfl | (simp; done) | (simp; omega) | (congr 1; rw [Bool.eq_iff_iff]; simp; done) | (congr 1; rw [Bool.eq_iff_iff]; simp only [decide_eq_true_eq, Bool.not_eq_true', decide_eq_false_iff_not]; omega), HW3⟩
          case rest =>
            obtain ⟨rfl, HK4⟩ := hcut
            generalize wc = wk4 at *
            clear x0 x1 x2 x3 x4 x5 x6 x7 x8 x9 x10 x11 x12 x13
            obtain ⟨⟨x0, x1, x2, x3, x4, x5, x6⟩, x7, x8, x9, x10, x11, x12, x13⟩ := ms_cells (HX.out.below HK4.out)
            cases b4
            case false =>
              rw [Bool.false_and] at HV
              go_wp2
              go_ret
              exact ⟨by rw [HV.out]; rfl, HB.out.trans (HK4.out.mono HB.out.size)⟩
            rw [Bool.true_and] at HV
            go_upto_region 14 with (fail)
            go_cut [138] from 12 (fun v wx => v = .bool (!b5) ∧ Hid (Below w0.heap.size w0 wx))
            case first => as_aux_lemma =>
              have hb5 := rblk_is M
              have HD0 : Hid (M.D.length ≤ 1048576) := Lib.hid (by omega)
              have hcQ := fun w' => rblock28_any M.k M.t w'
              unfold BPost at hcQ
              have HCQ := Lib.hid hcQ
              clear hcQ
              by_cases h1 : (M.D.length : Int) > 0
              · have HE : Hid (b5 = rblk M.k M.t) := Lib.hid (by rw [HF5.out, hb5, decide_eq_true HD0.out, Bool.true_and, decide_eq_false (show ¬ M.D.length = 0 by omega), Bool.or_false]; cases kh M.k 32 <;> rfl)
                clear hb5
                cases hps : rblk M.k M.t
                · rw [hps] at HE HCQ
                  clear hps
                  have hcQ := HCQ.out wk4
                  go_wp2_with fail
                  refine hcQ.mono ?_
                  rintro e v2 ⟨rfl, hb1⟩
                  have HW2 := Lib.hid (HK4.out.trans (hb1.mono HK4.out.size))
                  clear hcQ hb1 x0 x1 x2 x3 x4 x5 x6 x7 x8 x9 x10 x11 x12 x13
                  obtain ⟨⟨x0, x1, x2, x3, x4, x5, x6⟩, x7, x8, x9, x10, x11, x12, x13⟩ := ms_cells (HX.out.below HW2.out)
                  go_wp2
                  go_meet
                  case rel => exact ⟨by rw [HE.out]; first | rfl | (simp; done) | (simp; omega) | (congr 1; rw [Bool.eq_iff_iff]; simp; done) | (congr 1; rw [Bool.eq_iff_iff]; simp only [decide_eq_true_eq, Bool.not_eq_true', decide_eq_false_iff_not]; omega), HW2⟩
                · rw [hps] at HE HCQ
                  clear hps
                  have hcQ := HCQ.out wk4
                  go_wp2_with fail
                  refine hcQ.mono ?_
                  rintro e v2 ⟨rfl, hb1⟩
                  have HW2 := Lib.hid (HK4.out.trans (hb1.mono HK4.out.size))
                  clear hcQ hb1 x0 x1 x2 x3 x4 x5 x6 x7 x8 x9 x10 x11 x12 x13
                  obtain ⟨⟨x0, x1, x2, x3, x4, x5, x6⟩, x7, x8, x9, x10, x11, x12, x13⟩ := ms_cells (HX.out.below HW2.out)
                  have h5 : ¬ (1048576 : Int) < M.D.length := by omega
                  go_wp2
                  go_meet
                  case rel => exact ⟨by rw [HE.out]; first | rfl | (simp; done) | (simp; omega) | (congr 1; rw [Bool.eq_iff_iff]; simp; done) | (congr 1; rw [Bool.eq_iff_iff]; simp only [decide_eq_true_eq, Bool.not_eq_true', decide_eq_false_iff_not]; omega), HW2⟩
              · have HE : Hid (b5 = true) := Lib.hid (by rw [HF5.out, decide_eq_true HD0.out, Bool.true_and, decide_eq_true (show M.D.length = 0 by omega), Bool.or_true]; cases kh M.k 32 <;> rfl)
                clear hb5
                have h5 : ¬ (1048576 : Int) < M.D.length := by omega
                go_wp2
                go_meet
                case rel => exact ⟨by rw [HE.out]; first | rfl | (simp; done) | (simp; omega) | (congr 1; rw [Bool.eq_iff_iff]; simp; done) | (congr 1; rw [Bool.eq_iff_iff]; simp only [decide_eq_true_eq, Bool.not_eq_true', decide_eq_false_iff_not]; omega), HK4⟩
            case rest =>
              obtain ⟨rfl, HK5⟩ := hcut
              generalize wc = wk5 at *
              clear x0 x1 x2 x3 x4 x5 x6 x7 x8 x9 x10 x11 x12 x13
              obtain ⟨⟨x0, x1, x2, x3, x4, x5, x6⟩, x7, x8, x9, x10, x11, x12, x13⟩ := ms_cells (HX.out.below HK5.out)
              cases b5
              case false =>
                rw [Bool.false_and] at HV
                go_wp2
                go_ret
                exact ⟨by rw [HV.out]; rfl, HB.out.trans (HK5.out.mono HB.out.size)⟩
              rw [Bool.true_and] at HV
              go_upto_region 16 with (fail)
              have hsn := fun w' => seal_neqw M.s.1 M.s.2.1 M.s.2.2 0 0 0 w'
              go_cut [157] from 12 (fun v wx => v = .bool (!b6) ∧ Hid (Below w0.heap.size w0 wx))
              case first => as_aux_lemma =>
                cases hkh : kh M.k 64
                · have HKH := Lib.hid hkh
                  have HE : Hid (b6 = decide (((M.s.1, M.s.2.1, M.s.2.2) : Sl3) = (0, 0, 0))) := Lib.hid (by rw [HF6.out, hkh]; rfl)
                  clear hkh
                  have hcH := HH.out 64 wk5
                  rw [HKH.out] at hcH
                  go_wp2_with fail
                  refine hcH.mono ?_
                  rintro e v1 ⟨rfl, hb1⟩
                  have HW1 := Lib.hid (HK5.out.trans (hb1.mono HK5.out.size))
                  clear hcH hb1 x0 x1 x2 x3 x4 x5 x6 x7 x8 x9 x10 x11 x12 x13
                  obtain ⟨⟨x0, x1, x2, x3, x4, x5, x6⟩, x7, x8, x9, x10, x11, x12, x13⟩ := ms_cells (HX.out.below HW1.out)
                  have hcH := HH.out 64 v1
                  rw [HKH.out] at hcH
                  go_wp2_with fail
                  refine hcH.mono ?_
                  rintro e v2 ⟨rfl, hb1⟩
                  have HW2 := Lib.hid (HW1.out.trans (hb1.mono HW1.out.size))
                  clear hcH hb1 x0 x1 x2 x3 x4 x5 x6 x7 x8 x9 x10 x11 x12 x13
                  obtain ⟨⟨x0, x1, x2, x3, x4, x5, x6⟩, x7, x8, x9, x10, x11, x12, x13⟩ := ms_cells (HX.out.below HW2.out)
                  go_wp2
                  go_meet
                  case rel => exact ⟨by rw [HE.out]; first | rfl | (simp; done) | (simp; omega) | (congr 1; rw [Bool.eq_iff_iff]; simp; done) | (congr 1; rw [Bool.eq_iff_iff]; simp only [decide_eq_true_eq, Bool.not_eq_true', decide_eq_false_iff_not]; omega), HW2⟩
                · have HKH := Lib.hid hkh
                  have HE : Hid (b6 = slok M.s) := Lib.hid (by rw [HF6.out, hkh]; rfl)
                  have hcQ := fun w' (h : Below w0.heap.size w0 w') => rright18_any M.s HM.out.hs.1.1 w'
                  unfold BPost at hcQ
                  have HCQ := Lib.hid hcQ
                  clear hkh hcQ
                  cases hps : slok M.s
                  · rw [hps] at HE HCQ
                    clear hps
                    have hcH := HH.out 64 wk5
                    rw [HKH.out] at hcH
                    go_wp2_with fail
                    refine hcH.mono ?_
                    rintro e v1 ⟨rfl, hb1⟩
                    have HW1 := Lib.hid (HK5.out.trans (hb1.mono HK5.out.size))
                    clear hcH hb1 x0 x1 x2 x3 x4 x5 x6 x7 x8 x9 x10 x11 x12 x13
                    obtain ⟨⟨x0, x1, x2, x3, x4, x5, x6⟩, x7, x8, x9, x10, x11, x12, x13⟩ := ms_cells (HX.out.below HW1.out)
                    have hcQ := HCQ.out v1 HW1.out
                    go_wp2_with fail
                    refine hcQ.mono ?_
                    rintro e v2 ⟨rfl, hb1⟩
                    have HW2 := Lib.hid (HW1.out.trans (hb1.mono HW1.out.size))
                    clear hcQ hb1 x0 x1 x2 x3 x4 x5 x6 x7 x8 x9 x10 x11 x12 x13
                    obtain ⟨⟨x0, x1, x2, x3, x4, x5, x6⟩, x7, x8, x9, x10, x11, x12, x13⟩ := ms_cells (HX.out.below HW2.out)
                    go_wp2
                    go_meet
                    case rel => exact ⟨by rw [HE.out]; first | rfl | (simp; done) | (simp; omega) | (congr 1; rw [Bool.eq_iff_iff]; simp; done) | (congr 1; rw [Bool.eq_iff_iff]; simp only [decide_eq_true_eq, Bool.not_eq_true', decide_eq_false_iff_not]; omega), HW2⟩
                  · rw [hps] at HE HCQ
                    clear hps
                    have hcH := HH.out 64 wk5
                    rw [HKH.out] at hcH
                    go_wp2_with fail
                    refine hcH.mono ?_
                    rintro e v1 ⟨rfl, hb1⟩
                    have HW1 := Lib.hid (HK5.out.trans (hb1.mono HK5.out.size))
                    clear hcH hb1 x0 x1 x2 x3 x4 x5 x6 x7 x8 x9 x10 x11 x12 x13
                    obtain ⟨⟨x0, x1, x2, x3, x4, x5, x6⟩, x7, x8, x9, x10, x11, x12, x13⟩ := ms_cells (HX.out.below HW1.out)
                    have hcQ := HCQ.out v1 HW1.out
                    go_wp2_with fail
                    refine hcQ.mono ?_
                    rintro e v2 ⟨rfl, hb1⟩
                    have HW2 := Lib.hid (HW1.out.trans (hb1.mono HW1.out.size))
                    clear hcQ hb1 x0 x1 x2 x3 x4 x5 x6 x7 x8 x9 x10 x11 x12 x13
                    obtain ⟨⟨x0, x1, x2, x3, x4, x5, x6⟩, x7, x8, x9, x10, x11, x12, x13⟩ := ms_cells (HX.out.below HW2.out)
                    have hcH := HH.out 64 v2
                    rw [HKH.out] at hcH
                    go_wp2_with fail
                    refine hcH.mono ?_
                    rintro e v3 ⟨rfl, hb1⟩
                    have HW3 := Lib.hid (HW2.out.trans (hb1.mono HW2.out.size))
                    clear hcH hb1 x0 x1 x2 x3 x4 x5 x6 x7 x8 x9 x10 x11 x12 x13
                    obtain ⟨⟨x0, x1, x2, x3, x4, x5, x6⟩, x7, x8, x9, x10, x11, x12, x13⟩ := ms_cells (HX.out.below HW3.out)
                    go_wp2
                    go_meet
                    case rel => exact ⟨by rw [HE.out]; first | rfl | (simp; done) | (simp; omega) | (congr 1; rw [Bool.eq_iff_iff]; simp; done) | (congr 1; rw [Bool.eq_iff_iff]; simp only [decide_eq_true_eq, Bool.not_eq_true', decide_eq_false_iff_not]; omega), HW3⟩
              case rest =>
                clear hsn
                obtain ⟨rfl, HK6⟩ := hcut
                generalize wc = wk6 at *
                clear x0 x1 x2 x3 x4 x5 x6 x7 x8 x9 x10 x11 x12 x13
                obtain ⟨⟨x0, x1, x2, x3, x4, x5, x6⟩, x7, x8, x9, x10, x11, x12, x13⟩ := ms_cells (HX.out.below HK6.out)
                cases b6
                case false =>
                  rw [Bool.false_and] at HV
                  go_wp2
                  go_ret
                  exact ⟨by rw [HV.out]; rfl, HB.out.trans (HK6.out.mono HB.out.size)⟩
                rw [Bool.true_and] at HV
                go_upto_region 18 with (fail)
                have hcQ := fun w' (h : Below w0.heap.size w0 w') => rprright_any _ M.u a.A4 M.P.length a.m4 M.P w' (HM.out.below h).pts HP.out HPL.out HM.out.hu.1
                unfold BPost at hcQ
                have HCQ := Lib.hid hcQ
                clear hcQ
                cases hkh : kh M.k 128
                · have HKH := Lib.hid hkh
                  have HE : Hid (b7 = decide ((M.u, M.P) = ((0, []) : Prj))) := Lib.hid (by rw [HF7.out, hkh]; rfl)
                  clear hkh HCQ
                  have hcH := HH.out 128 wk6
                  rw [HKH.out] at hcH
                  go_wp2_with fail
                  refine hcH.mono ?_
                  rintro e v1 ⟨rfl, hb1⟩
                  have HW1 := Lib.hid (HK6.out.trans (hb1.mono HK6.out.size))
                  clear hcH hb1 x0 x1 x2 x3 x4 x5 x6 x7 x8 x9 x10 x11 x12 x13
                  obtain ⟨⟨x0, x1, x2, x3, x4, x5, x6⟩, x7, x8, x9, x10, x11, x12, x13⟩ := ms_cells (HX.out.below HW1.out)
                  have hcH := HH.out 128 v1
                  rw [HKH.out] at hcH
                  go_wp2_with fail
                  refine hcH.mono ?_
                  rintro e v2 ⟨rfl, hb1⟩
                  have HW2 := Lib.hid (HW1.out.trans (hb1.mono HW1.out.size))
                  clear hcH hb1 x0 x1 x2 x3 x4 x5 x6 x7 x8 x9 x10 x11 x12 x13
                  obtain ⟨⟨x0, x1, x2, x3, x4, x5, x6⟩, x7, x8, x9, x10, x11, x12, x13⟩ := ms_cells (HX.out.below HW2.out)
                  have HZ := Lib.hid (prj_none M.u M.P)
                  by_cases hu : M.u = 0
                  · have hu1 : (M.u == 0) = true := by simpa using hu
                    rw [hu1, Bool.true_and] at HZ
                    clear hu
                    go_wp2
                    go_ret
                    exact ⟨by rw [HV.out, HE.out, HZ.out]; rfl, HB.out.trans (HW2.out.mono HB.out.size)⟩
                  · have hu1 : (M.u == 0) = false := by simpa using hu
                    rw [hu1, Bool.false_and] at HZ
                    clear hu
                    go_wp2
                    go_ret
                    exact ⟨by rw [HV.out, HE.out, HZ.out]; rfl, HB.out.trans (HW2.out.mono HB.out.size)⟩
                · have HKH := Lib.hid hkh
                  have HE : Hid (b7 = prok (M.u, M.P)) := Lib.hid (by rw [HF7.out, hkh]; rfl)
                  clear hkh
                  cases hps : prok (M.u, M.P)
                  · rw [hps] at HE HCQ
                    clear hps
                    have hcH := HH.out 128 wk6
                    rw [HKH.out] at hcH
                    go_wp2_with fail
                    refine hcH.mono ?_
                    rintro e v1 ⟨rfl, hb1⟩
                    have HW1 := Lib.hid (HK6.out.trans (hb1.mono HK6.out.size))
                    clear hcH hb1 x0 x1 x2 x3 x4 x5 x6 x7 x8 x9 x10 x11 x12 x13
                    obtain ⟨⟨x0, x1, x2, x3, x4, x5, x6⟩, x7, x8, x9, x10, x11, x12, x13⟩ := ms_cells (HX.out.below HW1.out)
                    have hcQ := HCQ.out v1 HW1.out
                    go_wp2_with fail
                    refine hcQ.mono ?_
                    rintro e v2 ⟨rfl, hb1⟩
                    have HW2 := Lib.hid (HW1.out.trans (hb1.mono HW1.out.size))
                    clear hcQ hb1 x0 x1 x2 x3 x4 x5 x6 x7 x8 x9 x10 x11 x12 x13
                    obtain ⟨⟨x0, x1, x2, x3, x4, x5, x6⟩, x7, x8, x9, x10, x11, x12, x13⟩ := ms_cells (HX.out.below HW2.out)
                    have hcH := HH.out 128 v2
                    rw [HKH.out] at hcH
                    go_wp2_with fail
                    refine hcH.mono ?_
                    rintro e v3 ⟨rfl, hb1⟩
                    have HW3 := Lib.hid (HW2.out.trans (hb1.mono HW2.out.size))
                    clear hcH hb1 x0 x1 x2 x3 x4 x5 x6 x7 x8 x9 x10 x11 x12 x13
                    obtain ⟨⟨x0, x1, x2, x3, x4, x5, x6⟩, x7, x8, x9, x10, x11, x12, x13⟩ := ms_cells (HX.out.below HW3.out)
                    go_wp2
                    go_ret
                    exact ⟨by rw [HV.out, HE.out]; rfl, HB.out.trans (HW3.out.mono HB.out.size)⟩
                  · rw [hps] at HE HCQ
                    clear hps
                    have hcH := HH.out 128 wk6
                    rw [HKH.out] at hcH
                    go_wp2_with fail
                    refine hcH.mono ?_
                    rintro e v1 ⟨rfl, hb1⟩
                    have HW1 := Lib.hid (HK6.out.trans (hb1.mono HK6.out.size))
                    clear hcH hb1 x0 x1 x2 x3 x4 x5 x6 x7 x8 x9 x10 x11 x12 x13
                    obtain ⟨⟨x0, x1, x2, x3, x4, x5, x6⟩, x7, x8, x9, x10, x11, x12, x13⟩ := ms_cells (HX.out.below HW1.out)
                    have hcQ := HCQ.out v1 HW1.out
                    go_wp2_with fail
                    refine hcQ.mono ?_
                    rintro e v2 ⟨rfl, hb1⟩
                    have HW2 := Lib.hid (HW1.out.trans (hb1.mono HW1.out.size))
                    clear hcQ hb1 x0 x1 x2 x3 x4 x5 x6 x7 x8 x9 x10 x11 x12 x13
                    obtain ⟨⟨x0, x1, x2, x3, x4, x5, x6⟩, x7, x8, x9, x10, x11, x12, x13⟩ := ms_cells (HX.out.below HW2.out)
                    go_wp2
                    go_ret
                    exact ⟨by rw [HV.out, HE.out]; rfl, HB.out.trans (HW2.out.mono HB.out.size)⟩
end Go.Proofs.YtmiimjgfainclaaGreat.Cur
