/- As the seat's text, without what nothing here names. -/
import Derived.Test.YtmiimjgfainclaaGreatBdyIw
import Derived.Test.YtmiimjgfainclaaGreatBdyDw
namespace Go.Proofs.YtmiimjgfainclaaGreat.Cur
open Go.RowKit Mem
set_option linter.unusedVariables false
set_option linter.unusedSimpArgs false
set_option maxRecDepth 100000
set_option maxHeartbeats 8000000 in
theorem rbytes28_any (Q : Nat → Prop) (M : Ms) (a : Ma) (w : World) (hm : MsIn w Q M a) (hok : bdk M = true) (hD : M.D.length ≤ 1000) :
    Calls Tryz.prog 19 #[msagg M a] w (RowPost (bdz M) w) := by
  have hX := Blk.new w (msc M a) 32
  have hb := below_one w (.cells (msc M a) 32)
  have hsz : (w.alloc (.cells (msc M a) 32)).heap.size = w.heap.size + 1 := by simp
  obtain ⟨⟨x0, x1, x2, x3, x4, x5, x6⟩, x7, x8, x9, x10, x11, x12, x13⟩ := ms_cells hX
  have HM := Lib.hid (hm.below hb)
  have HX := Lib.hid hX
  have HB := Lib.hid hb
  have HSZ := Lib.hid hsz
  have HD := Lib.hid hD
  have HOK := Lib.hid hok
  have HR := Lib.hid (fun i hi hk => bdk_right hok (i := i) hi hk)
  have HLE := Lib.hid (fun i hi => bdp_len hok hD i hi)
  have HFL := Lib.hid (fun i hi hk => (bdf_len hok hD (i := i) hi hk).1)
  have HH := Lib.hid (fun p w' => rhas28_any M.k p w')
  unfold BPost at HH
  have HZ : Hid (bdz M = bdp M 8) := Lib.hid rfl
  rw [HZ.out]
  clear hm hX hb hok hD hsz
  go_enter Tryz.func19, Tryz.ntmps19
  go_upto_region 3 with (fail)
  generalize w.alloc (.cells (msc M a) 32) = w0 at *
  have ho : Own w0 w0.heap.size (.slice none 0 0) (bdp M 0) := Own.nil _ _
  have HO := Lib.hid ho
  have HW : Hid (Below w0.heap.size w0 w0) := Lib.hid (Below.refl _ _)
  clear ho
  have hcB := HH.out 1 w0
  go_upto_if 8 with (go_at_call 60; refine hcB.mono ?_; rintro e wq ⟨rfl, hbq⟩)
  have HWq := Lib.hid (HW.out.trans (hbq.mono HW.out.size))
  have HOq := Lib.hid (HO.out.below hbq)
  clear hcB hbq HW HO x0 x1 x2 x3 x4 x5 x6 x7 x8 x9 x10 x11 x12 x13
  obtain ⟨⟨x0, x1, x2, x3, x4, x5, x6⟩, x7, x8, x9, x10, x11, x12, x13⟩ := ms_cells (HX.out.below HWq.out)
  have HW := Lib.hid HWq.out
  have HO := Lib.hid HOq.out
  clear HWq HOq
  generalize wq = wk at *
  go_cut [3] from 5 (fun v wx => Hid (Own wx w0.heap.size v (bdp M 1) ∧ Below w0.heap.size w0 wx))
  case first =>
    cases hkh : kh M.k 1
    · have HN : Hid (bdp M 1 = bdp M 0) := Lib.hid (bdp_no hkh)
      clear hkh
      go_wp2
      go_meet
      case rel => exact Lib.hid ⟨by rw [HN.out]; exact HO.out, HW.out⟩
    · have HY : Hid (bdp M 1 = bdp M 0 ++ bdf M 0) := Lib.hid (bdp_yes (i := 0) hkh)
      have hl := HFL.out 0 (by omega) hkh
      have hle := HLE.out 0 (by omega)
      have HL : Hid ((bdp M 0).length + (bdf M 0).length ≤ 1000000) := Lib.hid (by omega)
      have hcQ := rbytes_any 10 M.p wk (vsz_le _) HM.out.hp.1 HM.out.hp.2
      clear hkh hl hle
      go_wp2_with fail
      refine hcQ.mono ?_
      rintro e w1 ⟨A1, m1, rfl, hb1, hbs1, hnil1, _⟩
      have ho1 := HO.out.below hb1
      have hbw1 := HW.out.trans (hb1.mono HW.out.size)
      have hB1 := hbw1.size
      clear hb1 x0 x1 x2 x3 x4 x5 x6 x7 x8 x9 x10 x11 x12 x13
      go_wp2_with (at_builtin; go_must (refine list_append_gr rfl (.tmp 9) (.tmp 12) rfl w0.heap.size _ _ rfl ho1 _ _ _ _ rfl hbs1 hnil1 HL.out hB1 ?_; intro v8 w8 ho8 hg8 hgr8; have hb8 := Own.belowOf hbw1 hB1 ho1 hg8; clear hg8 hgr8 hbs1 hnil1 hbw1 hB1 ho1))
      go_meet
      case rel => exact Lib.hid ⟨by rw [HY.out]; exact ho8, hb8⟩
  case rest =>
    obtain ⟨ho, hw⟩ := hcut.out
    generalize wc = wk1 at *
    have HO := Lib.hid ho
    have HW := Lib.hid hw
    clear hcut ho hw
    obtain ⟨⟨x0, x1, x2, x3, x4, x5, x6⟩, x7, x8, x9, x10, x11, x12, x13⟩ := ms_cells (HX.out.below HW.out)
    have hcB := HH.out 2 wk1
    go_upto_if 15 with (go_at_call 60; refine hcB.mono ?_; rintro e wq ⟨rfl, hbq⟩)
    have HWq := Lib.hid (HW.out.trans (hbq.mono HW.out.size))
    have HOq := Lib.hid (HO.out.below hbq)
    clear hcB hbq HW HO x0 x1 x2 x3 x4 x5 x6 x7 x8 x9 x10 x11 x12 x13
    obtain ⟨⟨x0, x1, x2, x3, x4, x5, x6⟩, x7, x8, x9, x10, x11, x12, x13⟩ := ms_cells (HX.out.below HWq.out)
    have HW := Lib.hid HWq.out
    have HO := Lib.hid HOq.out
    clear HWq HOq
    generalize wq = wk at *
    go_cut [3] from 5 (fun v wx => Hid (Own wx w0.heap.size v (bdp M 2) ∧ Below w0.heap.size w0 wx))
    case first =>
      cases hkh : kh M.k 2
      · have HN : Hid (bdp M 2 = bdp M 1) := Lib.hid (bdp_no hkh)
        clear hkh
        go_wp2
        go_meet
        case rel => exact Lib.hid ⟨by rw [HN.out]; exact HO.out, HW.out⟩
      · have HY : Hid (bdp M 2 = bdp M 1 ++ bdf M 1) := Lib.hid (bdp_yes (i := 1) hkh)
        have hl := HFL.out 1 (by omega) hkh
        have hle := HLE.out 1 (by omega)
        have HL : Hid ((bdp M 1).length + (bdf M 1).length ≤ 1000000) := Lib.hid (by omega)
        have HR1 : Hid (1 ≤ M.c ∧ M.c ≤ 65536) := Lib.hid (of_decide_eq_true (HR.out 1 (by omega) hkh))
        have e9 : IntKind.u64.wrap M.c = M.c := IntWalk.u64_in _ (by have := HR1.out; omega)
        have hcQ := rbytes_any 10 M.c wk (vsz_le _) (by have := HR1.out; omega) (by have := HR1.out; omega)
        clear hkh hl hle
        go_wp2_with fail
        refine hcQ.mono ?_
        rintro e w1 ⟨A1, m1, rfl, hb1, hbs1, hnil1, _⟩
        have ho1 := HO.out.below hb1
        have hbw1 := HW.out.trans (hb1.mono HW.out.size)
        have hB1 := hbw1.size
        clear hb1 x0 x1 x2 x3 x4 x5 x6 x7 x8 x9 x10 x11 x12 x13
        go_wp2_with (at_builtin; go_must (refine list_append_gr rfl (.tmp 16) (.tmp 20) rfl w0.heap.size _ _ rfl ho1 _ _ _ _ rfl hbs1 hnil1 HL.out hB1 ?_; intro v8 w8 ho8 hg8 hgr8; have hb8 := Own.belowOf hbw1 hB1 ho1 hg8; clear hg8 hgr8 hbs1 hnil1 hbw1 hB1 ho1))
        go_meet
        case rel => exact Lib.hid ⟨by rw [HY.out]; exact ho8, hb8⟩
    case rest =>
      obtain ⟨ho, hw⟩ := hcut.out
      generalize wc = wk2 at *
      have HO := Lib.hid ho
      have HW := Lib.hid hw
      clear hcut ho hw
      obtain ⟨⟨x0, x1, x2, x3, x4, x5, x6⟩, x7, x8, x9, x10, x11, x12, x13⟩ := ms_cells (HX.out.below HW.out)
      have hcB := HH.out 4 wk2
      go_upto_if 23 with (go_at_call 60; refine hcB.mono ?_; rintro e wq ⟨rfl, hbq⟩)
      have HWq := Lib.hid (HW.out.trans (hbq.mono HW.out.size))
      have HOq := Lib.hid (HO.out.below hbq)
      clear hcB hbq HW HO x0 x1 x2 x3 x4 x5 x6 x7 x8 x9 x10 x11 x12 x13
      obtain ⟨⟨x0, x1, x2, x3, x4, x5, x6⟩, x7, x8, x9, x10, x11, x12, x13⟩ := ms_cells (HX.out.below HWq.out)
      have HW := Lib.hid HWq.out
      have HO := Lib.hid HOq.out
      clear HWq HOq
      generalize wq = wk at *
      go_cut [3] from 5 (fun v wx => Hid (Own wx w0.heap.size v (bdp M 3) ∧ Below w0.heap.size w0 wx))
      case first =>
        cases hkh : kh M.k 4
        · have HN : Hid (bdp M 3 = bdp M 2) := Lib.hid (bdp_no hkh)
          clear hkh
          go_wp2
          go_meet
          case rel => exact Lib.hid ⟨by rw [HN.out]; exact HO.out, HW.out⟩
        · have HY : Hid (bdp M 3 = bdp M 2 ++ bdf M 2) := Lib.hid (bdp_yes (i := 2) hkh)
          have hl := HFL.out 2 (by omega) hkh
          have hle := HLE.out 2 (by omega)
          have HL : Hid ((bdp M 2).length + (bdf M 2).length ≤ 1000000) := Lib.hid (by omega)
          have HR2 : Hid (1 ≤ M.t ∧ M.t ≤ bmost M.k) := Lib.hid (of_decide_eq_true (HR.out 2 (by omega) hkh))
          have e9 : IntKind.u8.wrap M.t = M.t := IntWalk.u8_in _ (by have := HR2.out; unfold bmost at this; split at this <;> omega)
          clear hkh hl hle
          have hA := below_one wk (.cells #[.int .u8 M.t] 5)
          have hoA := HO.out.below hA
          have hbsA := (Own.built wk M.t).bs.2
          have hbA := HW.out.trans (hA.mono HW.out.size)
          have hBA := hbA.size
          clear hA
          go_wp2_with (at_builtin; go_must (refine list_append_gr rfl (.tmp 24) (.tmp 28) rfl w0.heap.size _ _ rfl hoA _ 1 1 [M.t] rfl hbsA (by simp) HL.out hBA ?_; intro v8 w8 ho8 hg8 hgr8; have hb8 := Own.belowOf hbA hBA hoA hg8; clear hg8 hgr8 hbsA hbA hBA hoA))
          go_meet
          case rel => exact Lib.hid ⟨by rw [HY.out]; exact ho8, hb8⟩
      case rest =>
        obtain ⟨ho, hw⟩ := hcut.out
        generalize wc = wk3 at *
        have HO := Lib.hid ho
        have HW := Lib.hid hw
        clear hcut ho hw
        obtain ⟨⟨x0, x1, x2, x3, x4, x5, x6⟩, x7, x8, x9, x10, x11, x12, x13⟩ := ms_cells (HX.out.below HW.out)
        have hcB := HH.out 8 wk3
        go_upto_if 31 with (go_at_call 60; refine hcB.mono ?_; rintro e wq ⟨rfl, hbq⟩)
        have HWq := Lib.hid (HW.out.trans (hbq.mono HW.out.size))
        have HOq := Lib.hid (HO.out.below hbq)
        clear hcB hbq HW HO x0 x1 x2 x3 x4 x5 x6 x7 x8 x9 x10 x11 x12 x13
        obtain ⟨⟨x0, x1, x2, x3, x4, x5, x6⟩, x7, x8, x9, x10, x11, x12, x13⟩ := ms_cells (HX.out.below HWq.out)
        have HW := Lib.hid HWq.out
        have HO := Lib.hid HOq.out
        clear HWq HOq
        generalize wq = wk at *
        go_cut [3] from 5 (fun v wx => Hid (Own wx w0.heap.size v (bdp M 4) ∧ Below w0.heap.size w0 wx))
        case first =>
          cases hkh : kh M.k 8
          · have HN : Hid (bdp M 4 = bdp M 3) := Lib.hid (bdp_no hkh)
            clear hkh
            go_wp2
            go_meet
            case rel => exact Lib.hid ⟨by rw [HN.out]; exact HO.out, HW.out⟩
          · have HY : Hid (bdp M 4 = bdp M 3 ++ bdf M 3) := Lib.hid (bdp_yes (i := 3) hkh)
            have hl := HFL.out 3 (by omega) hkh
            have hle := HLE.out 3 (by omega)
            have HL : Hid ((bdp M 3).length + (bdf M 3).length ≤ 1000000) := Lib.hid (by omega)
            have HR3 : Hid (M.S.length ≤ 16 ∧ risesB M.S = true) := Lib.hid (by have h : (decide (M.S.length ≤ 16) && risesB M.S) = true := HR.out 3 (by omega) hkh; rw [Bool.and_eq_true] at h; exact ⟨of_decide_eq_true h.1, h.2⟩)
            have e9 : IntKind.u8.wrap (M.S.length : Int) = M.S.length := IntWalk.u8_in _ (by have := HR3.out; omega)
            have HV : Hid (bdf M 3 = [(M.S.length : Int)] ++ rz M.S) := Lib.hid (by show vz M.S.length ++ rz M.S = _; rw [vz_lt _ (by have := HR3.out; omega)])
            clear hkh hl hle
            have HL1 : Hid ((bdp M 3).length + 1 ≤ 1000000) := Lib.hid (by have := HL.out; rw [HV.out, List.length_append, List.length_singleton] at this; omega)
            have HL2 : Hid ((bdp M 3 ++ [(M.S.length : Int)]).length + (rz M.S).length ≤ 1000000) := Lib.hid (by have := HL.out; rw [HV.out, List.length_append, List.length_singleton] at this; rw [List.length_append, List.length_singleton]; omega)
            have hA := below_one wk (.cells #[.int .u8 (M.S.length : Int)] 5)
            have hoA := HO.out.below hA
            have hbsA := (Own.built wk (M.S.length : Int)).bs.2
            have hbA := HW.out.trans (hA.mono HW.out.size)
            have hBA := hbA.size
            clear hA
            go_wp2_with (at_builtin; go_must (refine list_append_gr rfl (.tmp 32) (.tmp 37) rfl w0.heap.size _ _ rfl hoA _ 1 1 [(M.S.length : Int)] rfl hbsA (by simp) HL1.out hBA ?_; intro v7 w7 ho7 hg7 hgr7; have hb7 := Own.belowOf hbA hBA hoA hg7; have x6' := (ms_cells (HX.out.below hb7)).1.2.2.2.2.2.2; have hcQ := rrz_any a.A1 M.S.length a.m1 M.S w7 (HM.out.below hb7).us (by have := HR3.out; omega) HM.out.sb HR3.out.2; clear hg7 hgr7 hbsA hbA hBA hoA x0 x1 x2 x3 x4 x5 x6 x7 x8 x9 x10 x11 x12 x13))
            have HO7 := Lib.hid ho7
            have HW7 := Lib.hid hb7
            clear ho7 hb7
            refine hcQ.mono ?_
            rintro e w1 ⟨A1, m1, rfl, hb1, hbs1, hnil1, _⟩
            have ho1 := HO7.out.below hb1
            have hbw1 := HW7.out.trans (hb1.mono HW7.out.size)
            have hB1 := hbw1.size
            clear hb1 x6'
            go_wp2_with (at_builtin; go_must (refine list_append_gr rfl (.tmp 39) (.tmp 42) rfl w0.heap.size _ _ rfl ho1 _ _ _ _ rfl hbs1 hnil1 HL2.out hB1 ?_; intro v8 w8 ho8 hg8 hgr8; have hb8 := Own.belowOf hbw1 hB1 ho1 hg8; clear hg8 hgr8 hbs1 hnil1 hbw1 hB1 ho1))
            go_meet
            case rel => exact Lib.hid ⟨by rw [HY.out, HV.out, ← List.append_assoc]; exact ho8, hb8⟩
        case rest =>
          obtain ⟨ho, hw⟩ := hcut.out
          generalize wc = wk4 at *
          have HO := Lib.hid ho
          have HW := Lib.hid hw
          clear hcut ho hw
          obtain ⟨⟨x0, x1, x2, x3, x4, x5, x6⟩, x7, x8, x9, x10, x11, x12, x13⟩ := ms_cells (HX.out.below HW.out)
          have hcB := HH.out 16 wk4
          go_upto_if 45 with (go_at_call 60; refine hcB.mono ?_; rintro e wq ⟨rfl, hbq⟩)
          have HWq := Lib.hid (HW.out.trans (hbq.mono HW.out.size))
          have HOq := Lib.hid (HO.out.below hbq)
          clear hcB hbq HW HO x0 x1 x2 x3 x4 x5 x6 x7 x8 x9 x10 x11 x12 x13
          obtain ⟨⟨x0, x1, x2, x3, x4, x5, x6⟩, x7, x8, x9, x10, x11, x12, x13⟩ := ms_cells (HX.out.below HWq.out)
          have HW := Lib.hid HWq.out
          have HO := Lib.hid HOq.out
          clear HWq HOq
          generalize wq = wk at *
          go_cut [3] from 5 (fun v wx => Hid (Own wx w0.heap.size v (bdp M 5) ∧ Below w0.heap.size w0 wx))
          case first =>
            cases hkh : kh M.k 16
            · have HN : Hid (bdp M 5 = bdp M 4) := Lib.hid (bdp_no hkh)
              clear hkh
              go_wp2
              go_meet
              case rel => exact Lib.hid ⟨by rw [HN.out]; exact HO.out, HW.out⟩
            · have HY : Hid (bdp M 5 = bdp M 4 ++ bdf M 4) := Lib.hid (bdp_yes (i := 4) hkh)
              have hl := HFL.out 4 (by omega) hkh
              have hle := HLE.out 4 (by omega)
              have HL : Hid ((bdp M 4).length + (bdf M 4).length ≤ 1000000) := Lib.hid (by omega)
              have HR4 : Hid (lkok M.p M.L = true) := Lib.hid (HR.out 4 (by omega) hkh)
              have hcQ := rlkbytes_any _ M.p a.A2 M.L.length a.m2 M.L wk (HM.out.below HW.out).lks HM.out.hp.1 HM.out.hp.2 HR4.out
              clear hkh hl hle
              go_wp2_with fail
              refine hcQ.mono ?_
              rintro e w1 ⟨A1, m1, rfl, hb1, hbs1, hnil1, _⟩
              have ho1 := HO.out.below hb1
              have hbw1 := HW.out.trans (hb1.mono HW.out.size)
              have hB1 := hbw1.size
              clear hb1 x0 x1 x2 x3 x4 x5 x6 x7 x8 x9 x10 x11 x12 x13
              go_wp2_with (at_builtin; go_must (refine list_append_gr rfl (.tmp 46) (.tmp 51) rfl w0.heap.size _ _ rfl ho1 _ _ _ _ rfl hbs1 hnil1 HL.out hB1 ?_; intro v8 w8 ho8 hg8 hgr8; have hb8 := Own.belowOf hbw1 hB1 ho1 hg8; clear hg8 hgr8 hbs1 hnil1 hbw1 hB1 ho1))
              go_meet
              case rel => exact Lib.hid ⟨by rw [HY.out]; exact ho8, hb8⟩
          case rest =>
            obtain ⟨ho, hw⟩ := hcut.out
            generalize wc = wk5 at *
            have HO := Lib.hid ho
            have HW := Lib.hid hw
            clear hcut ho hw
            obtain ⟨⟨x0, x1, x2, x3, x4, x5, x6⟩, x7, x8, x9, x10, x11, x12, x13⟩ := ms_cells (HX.out.below HW.out)
            have hcB := rblock28_any M.k M.t wk5
            unfold BPost at hcB
            go_upto_if 56 with (go_at_call 20; refine hcB.mono ?_; rintro e wq ⟨rfl, hbq⟩)
            have HWq := Lib.hid (HW.out.trans (hbq.mono HW.out.size))
            have HOq := Lib.hid (HO.out.below hbq)
            clear hcB hbq HW HO x0 x1 x2 x3 x4 x5 x6 x7 x8 x9 x10 x11 x12 x13
            obtain ⟨⟨x0, x1, x2, x3, x4, x5, x6⟩, x7, x8, x9, x10, x11, x12, x13⟩ := ms_cells (HX.out.below HWq.out)
            have HW := Lib.hid HWq.out
            have HO := Lib.hid HOq.out
            clear HWq HOq
            generalize wq = wk at *
            go_cut [3] from 5 (fun v wx => Hid (Own wx w0.heap.size v (bdp M 6) ∧ Below w0.heap.size w0 wx))
            case first =>
              cases hkh : rblk M.k M.t
              · have HN : Hid (bdp M 6 = bdp M 5) := Lib.hid (by
                  rw [rblk_is] at hkh
                  show bdp M 5 ++ (if kh M.k 32 = true then (if bears M = true then bkb M.D else []) else []) = _
                  cases h1 : kh M.k 32
                  · simp
                  · rw [h1, Bool.true_and] at hkh; rw [hkh]; simp)
                clear hkh
                go_wp2
                go_meet
                case rel => exact Lib.hid ⟨by rw [HN.out]; exact HO.out, HW.out⟩
              · have hkb : kh M.k 32 = true ∧ bears M = true := by rw [rblk_is, Bool.and_eq_true] at hkh; exact hkh
                have HY : Hid (bdp M 6 = bdp M 5 ++ bkb M.D) := Lib.hid (by rw [bdp_yes (i := 5) hkb.1]; show bdp M 5 ++ (if bears M = true then bkb M.D else []) = _; rw [if_pos hkb.2])
                have hl := HFL.out 5 (by omega) hkb.1
                have hle := HLE.out 5 (by omega)
                have HL : Hid ((bdp M 5).length + (bkb M.D).length ≤ 1000000) := Lib.hid (by have h3 : (bdf M 5).length = (bkb M.D).length := (by show (if bears M = true then bkb M.D else []).length = _; rw [if_pos hkb.2]); omega)
                have hcQ := r16bytes_any (HM.out.below HW.out).bs HM.out.hD2 HM.out.db HM.out.hD1 (by have := HD.out; omega)
                clear hkh hl hle hkb
                go_wp2_with fail
                refine hcQ.mono ?_
                rintro e w1 ⟨A1, m1, rfl, hb1, hbs1, hnil1, _⟩
                have ho1 := HO.out.below hb1
                have hbw1 := HW.out.trans (hb1.mono HW.out.size)
                have hB1 := hbw1.size
                clear hb1 x0 x1 x2 x3 x4 x5 x6 x7 x8 x9 x10 x11 x12 x13
                go_wp2_with (at_builtin; go_must (refine list_append_gr rfl (.tmp 57) (.tmp 60) rfl w0.heap.size _ _ rfl ho1 _ _ _ _ rfl hbs1 hnil1 HL.out hB1 ?_; intro v8 w8 ho8 hg8 hgr8; have hb8 := Own.belowOf hbw1 hB1 ho1 hg8; clear hg8 hgr8 hbs1 hnil1 hbw1 hB1 ho1))
                go_meet
                case rel => exact Lib.hid ⟨by rw [HY.out]; exact ho8, hb8⟩
            case rest =>
              obtain ⟨ho, hw⟩ := hcut.out
              generalize wc = wk6 at *
              have HO := Lib.hid ho
              have HW := Lib.hid hw
              clear hcut ho hw
              obtain ⟨⟨x0, x1, x2, x3, x4, x5, x6⟩, x7, x8, x9, x10, x11, x12, x13⟩ := ms_cells (HX.out.below HW.out)
              have hcB := HH.out 64 wk6
              go_upto_if 63 with (go_at_call 60; refine hcB.mono ?_; rintro e wq ⟨rfl, hbq⟩)
              have HWq := Lib.hid (HW.out.trans (hbq.mono HW.out.size))
              have HOq := Lib.hid (HO.out.below hbq)
              clear hcB hbq HW HO x0 x1 x2 x3 x4 x5 x6 x7 x8 x9 x10 x11 x12 x13
              obtain ⟨⟨x0, x1, x2, x3, x4, x5, x6⟩, x7, x8, x9, x10, x11, x12, x13⟩ := ms_cells (HX.out.below HWq.out)
              have HW := Lib.hid HWq.out
              have HO := Lib.hid HOq.out
              clear HWq HOq
              generalize wq = wk at *
              go_cut [3] from 5 (fun v wx => Hid (Own wx w0.heap.size v (bdp M 7) ∧ Below w0.heap.size w0 wx))
              case first =>
                cases hkh : kh M.k 64
                · have HN : Hid (bdp M 7 = bdp M 6) := Lib.hid (bdp_no hkh)
                  clear hkh
                  go_wp2
                  go_meet
                  case rel => exact Lib.hid ⟨by rw [HN.out]; exact HO.out, HW.out⟩
                · have HY : Hid (bdp M 7 = bdp M 6 ++ bdf M 6) := Lib.hid (bdp_yes (i := 6) hkh)
                  have hl := HFL.out 6 (by omega) hkh
                  have hle := HLE.out 6 (by omega)
                  have HL : Hid ((bdp M 6).length + (bdf M 6).length ≤ 1000000) := Lib.hid (by omega)
                  have hcQ := rbytes18_any M.s HM.out.hs wk
                  clear hkh hl hle
                  go_wp2_with fail
                  refine hcQ.mono ?_
                  rintro e w1 ⟨A1, m1, rfl, hb1, hbs1, hnil1, _⟩
                  have ho1 := HO.out.below hb1
                  have hbw1 := HW.out.trans (hb1.mono HW.out.size)
                  have hB1 := hbw1.size
                  clear hb1 x0 x1 x2 x3 x4 x5 x6 x7 x8 x9 x10 x11 x12 x13
                  go_wp2_with (at_builtin; go_must (refine list_append_gr rfl (.tmp 64) (.tmp 67) rfl w0.heap.size _ _ rfl ho1 _ _ _ _ rfl hbs1 hnil1 HL.out hB1 ?_; intro v8 w8 ho8 hg8 hgr8; have hb8 := Own.belowOf hbw1 hB1 ho1 hg8; clear hg8 hgr8 hbs1 hnil1 hbw1 hB1 ho1))
                  go_meet
                  case rel => exact Lib.hid ⟨by rw [HY.out]; exact ho8, hb8⟩
              case rest =>
                obtain ⟨ho, hw⟩ := hcut.out
                generalize wc = wk7 at *
                have HO := Lib.hid ho
                have HW := Lib.hid hw
                clear hcut ho hw
                obtain ⟨⟨x0, x1, x2, x3, x4, x5, x6⟩, x7, x8, x9, x10, x11, x12, x13⟩ := ms_cells (HX.out.below HW.out)
                have hcB := HH.out 128 wk7
                go_upto_if 70 with (go_at_call 60; refine hcB.mono ?_; rintro e wq ⟨rfl, hbq⟩)
                have HWq := Lib.hid (HW.out.trans (hbq.mono HW.out.size))
                have HOq := Lib.hid (HO.out.below hbq)
                clear hcB hbq HW HO x0 x1 x2 x3 x4 x5 x6 x7 x8 x9 x10 x11 x12 x13
                obtain ⟨⟨x0, x1, x2, x3, x4, x5, x6⟩, x7, x8, x9, x10, x11, x12, x13⟩ := ms_cells (HX.out.below HWq.out)
                have HW := Lib.hid HWq.out
                have HO := Lib.hid HOq.out
                clear HWq HOq
                generalize wq = wk at *
                go_cut [3] from 5 (fun v wx => Hid (Own wx w0.heap.size v (bdp M 8) ∧ Below w0.heap.size w0 wx))
                case first =>
                  cases hkh : kh M.k 128
                  · have HN : Hid (bdp M 8 = bdp M 7) := Lib.hid (bdp_no hkh)
                    clear hkh
                    go_wp2
                    go_meet
                    case rel => exact Lib.hid ⟨by rw [HN.out]; exact HO.out, HW.out⟩
                  · have HY : Hid (bdp M 8 = bdp M 7 ++ bdf M 7) := Lib.hid (bdp_yes (i := 7) hkh)
                    have hl := HFL.out 7 (by omega) hkh
                    have hle := HLE.out 7 (by omega)
                    have HL : Hid ((bdp M 7).length + (bdf M 7).length ≤ 1000000) := Lib.hid (by omega)
                    have HR7 : Hid (prok (M.u, M.P) = true) := Lib.hid (HR.out 7 (by omega) hkh)
                    have hcQ := rprbytes_any _ M.u a.A4 M.P.length a.m4 M.P wk HR7.out (HM.out.below HW.out).pts
                    clear hkh hl hle
                    go_wp2_with fail
                    refine hcQ.mono ?_
                    rintro e w1 ⟨A1, m1, rfl, hb1, hbs1, hnil1, _⟩
                    have ho1 := HO.out.below hb1
                    have hbw1 := HW.out.trans (hb1.mono HW.out.size)
                    have hB1 := hbw1.size
                    clear hb1 x0 x1 x2 x3 x4 x5 x6 x7 x8 x9 x10 x11 x12 x13
                    go_wp2_with (at_builtin; go_must (refine list_append_gr rfl (.tmp 71) (.tmp 74) rfl w0.heap.size _ _ rfl ho1 _ _ _ _ rfl hbs1 hnil1 HL.out hB1 ?_; intro v8 w8 ho8 hg8 hgr8; have hb8 := Own.belowOf hbw1 hB1 ho1 hg8; clear hg8 hgr8 hbs1 hnil1 hbw1 hB1 ho1))
                    go_meet
                    case rel => exact Lib.hid ⟨by rw [HY.out]; exact ho8, hb8⟩
                case rest =>
                  obtain ⟨ho, hw⟩ := hcut.out
                  generalize wc = wk8 at *
                  have HO := Lib.hid ho
                  have HW := Lib.hid hw
                  clear hcut ho hw
                  obtain ⟨⟨x0, x1, x2, x3, x4, x5, x6⟩, x7, x8, x9, x10, x11, x12, x13⟩ := ms_cells (HX.out.below HW.out)
                  go_wp2
                  go_ret
                  obtain ⟨A, c, hv⟩ := HO.out.slice
                  subst hv
                  exact Own.rowPost (B := 0) (HO.out.base (B' := w.heap.size) (fun g hg => by have := HO.out.ge g hg; have := HSZ.out; omega)) (HB.out.trans (HW.out.mono HB.out.size))
end Go.Proofs.YtmiimjgfainclaaGreat.Cur
