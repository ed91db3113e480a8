/- Peek: the document's Chained. -/
import Derived.Test.YtgdcbfekekefiaaPekQ
import Derived.Test.YtgdcbfekekefiaaK36
import Derived.Test.YtgdcbfekekefiaaK35
import Derived.Test.YtgdcbfekekefiaaK25
import Derived.Test.YtgdcbfekekefiaaSeqF
namespace Go.Proofs.Ytgdcbfekekefiaa.Cur
open Go.RowKit Mem
set_option linter.unusedVariables false
set_option maxRecDepth 100000



set_option maxHeartbeats 8000000 in
theorem rchained_any (P : Nat → Prop) (e b : Int) (A : Option Addr) (n m : Nat) (L : List En) (w : World) (hz : Ens w P A n L) (hn : n ≤ 1000) (hs : esm L) (e0 : 0 ≤ e) (b0 : 0 ≤ b) (b9 : b < 18446744073709551616) :
    Calls Try.prog 23 #[btagg e b A n m] w (BPost (.bool (chnb e b L)) w) := by
  unfold BPost
  have hX := Blk.new w (btenc e b A n m) 25
  have hb := below_one w (.cells (btenc e b A n m) 25)
  have HX := Lib.hid hX
  obtain ⟨x0, x1, x2⟩ := hX.c3
  clear hX
  have hR := rbright_any P e b A n m L _ (hz.below hb) (by omega) hs e0 b0 b9
  unfold BPost at hR
  have HZ := Lib.hid hz
  have HSM := Lib.hid hs
  have HLN := Lib.hid hz.1
  have hsz : (w.alloc (.cells (btenc e b A n m) 25)).heap.size = w.heap.size + 1 := by simp
  clear hz hs
  cases hbt : btk (e, b, L)
  case false =>
    rw [hbt] at hR
    have HNO : Hid (chnb e b L = false) := Lib.hid (by unfold chnb; rw [hbt]; rfl)
    clear hbt
    go_enter Try.func23, Try.ntmps23
    go_wp2_with fail
    refine hR.mono ?_
    rintro en w1 ⟨rfl, hb1⟩
    replace hb := hb.trans (hb1.mono hb.size)
    clear hR hb1 x0 x1 x2
    go_wp2
    go_ret
    exact ⟨by rw [HNO.out]; rfl, hb⟩
  case true =>
    rw [hbt] at hR
    have hfit := btk_fit hbt
    have HIF := Lib.hid (chnb_iff hbt)
    have hn16 : 1 ≤ n := by
      have h := hbt
      unfold btk at h
      simp only [Bool.and_eq_true] at h
      have h2 := of_decide_eq_true h.1.1.2
      have h3 := HLN.out
      have h4 : (L.length : Int) = n := by rw [h3]
      have h5 : 1 ≤ (L.length : Int) := h2.1
      omega
    have hbn : b + n ≤ 4611686018427387904 := by
      have h3 := HLN.out
      have h4 : (L.length : Int) = n := by rw [h3]
      omega
    clear hbt hfit
    have hzw := HZ.out
    obtain ⟨g, o, rfl, _, _, _⟩ := hzw.cells (by omega)
    obtain ⟨hd, hg, hhd⟩ := ens_hdr hzw (by omega)
    have HD := Lib.hid hhd
    have hlen : ∀ k, k < n → (hd k).2.1 = (L.getD k en0).1.length ∧ (hd k).2.1 ≤ 50 := fun k hk => by
      have := (hhd k hk).2.1
      have := (HSM.out k).1
      omega
    have HLE := Lib.hid hlen
    clear hzw hhd hlen
    go_enter Try.func23, Try.ntmps23
    go_wp2_with fail
    refine hR.mono ?_
    rintro en w1 ⟨rfl, hb1⟩
    have hX1 := HX.out.below hb1
    replace hb := hb.trans (hb1.mono hb.size)
    clear hR hb1 x0 x1 x2
    have HX1 := Lib.hid hX1
    have HB1 := Lib.hid hb
    clear hb hX1 HX
    go_wp2
    go_loopw [3] (fun v wr => ∃ i : Nat, i ≤ n ∧ v = .int .i64 i ∧ (∀ i', i' < i → ∀ j, j < (L.getD i' en0).1.length → cgo (tlat exb b (lksOf L) tl0 i') ((L.getD i' en0).1.getD j lk0) = true) ∧ Below w1.heap.size w1 wr) (fun v _ => n - (intOf v).toNat)
    case atStart => exact ⟨0, Nat.zero_le _, rfl, fun i' hi => by omega, Below.refl _ _⟩
    case round =>
      obtain ⟨i, hi, rfl, hok, hbr⟩ := hrel
      obtain ⟨x0, x1, x2⟩ := (HX1.out.below hbr).c3
      have HBR := Lib.hid hbr
      have HOK := Lib.hid hok
      by_cases hin : i < n
      · have hin2 : (i : Int) < n := by omega
        clear hok hbr
        go_wp2
        clear x0 x1 x2
        go_loopw [4] (fun v wr => ∃ k : Nat, k ≤ (L.getD i en0).1.length ∧ v = .int .i64 k ∧ (∀ j, j < k → cgo (tlat exb b (lksOf L) tl0 i) ((L.getD i en0).1.getD j lk0) = true) ∧ Below w1.heap.size w1 wr) (fun v _ => 100 - (intOf v).toNat)
        case atStart => exact ⟨0, Nat.zero_le _, rfl, fun j hj => by omega, HBR.out⟩
        case round =>
          obtain ⟨k, hk, rfl, hkok, hbk⟩ := hrel
          obtain ⟨x0, x1, x2⟩ := (HX1.out.below hbk).c3
          have hbw := HB1.out.trans (hbk.mono HB1.out.size)
          have hce := (HD.out i hin).1 _ hbw
          obtain ⟨hl1, hl2⟩ := HLE.out i hin
          by_cases hkl : k < (L.getD i en0).1.length
          · obtain ⟨g1, o1, e1, _, _, hc1⟩ := (HD.out i hin).2.cells (by omega)
            obtain ⟨s, z, a, lz, mz, he, hsb, hzl, hlm, hnl, hus, hzb, _, _, hcell⟩ := hc1 k (by omega)
            subst hzl
            rw [e1] at hce
            obtain ⟨y0, y1⟩ := hcell _ hbw
            have hkl2 : (k : Int) < (hd i).2.1 := by omega
            have hA := below_one wr (.cells (lkc s a z.length mz) 57)
            have hX5 := Blk.new wr (lkc s a z.length mz) 57
            have hb5 := hbw.trans (hA.mono hbw.size)
            have hb15 := hbk.trans (hA.mono hbk.size)
            have HZL : Hid (z.length ≤ 50) := Lib.hid (by
              have := (HSM.out i).2.1.at_ k
              rw [he] at this
              exact this)
            have HE := Lib.hid (And.intro he (And.intro hsb (And.intro hzb (And.intro hlm hnl))))
            have HUS := Lib.hid hus
            have HKO := Lib.hid hkok
            have HX5 := Lib.hid hX5
            have HB5 := Lib.hid hb5
            have HB15 := Lib.hid hb15
            clear hc1 hcell hus hzb hX5 hA hb5 hb15 hkok hlm hnl he hbk hbw
            go_upto_region 10 with (fail)
            try rw [show decide (k < (L[i]?.getD en0).1.length) = true from decide_eq_true (by rw [← List.getD_eq_getElem?_getD]; exact hkl)]
            clear x0 x1 x2 y0 y1 hce
            generalize wr.alloc (.cells (lkc s a z.length mz) 57) = w5 at *
            generalize wr.heap.size = bx at *
            go_wp2
            go_loopw [6] (fun v wr => ∃ j' : Nat, j' ≤ i ∧ v = .int .i64 ((j' : Int) - 1) ∧ (∀ m, j' ≤ m → m < i → fnl (L.getD m en0).1 s < 0) ∧ Below w5.heap.size w5 wr) (fun v _ => (intOf v + 1).toNat)
            case atStart => exact ⟨i, Nat.le_refl _, rfl, fun m h1 h2 => by omega, Below.refl _ _⟩
            case round =>
              obtain ⟨j', hj', rfl, hno, hbq⟩ := hrel
              by_cases hj0 : j' = 0
              · have HNX : Hid (∀ j, j < k + 1 → cgo (tlat exb b (lksOf L) tl0 i) ((L.getD i en0).1.getD j lk0) = true) := Lib.hid (fun j hj => by
                  by_cases h : j = k
                  · subst h; rw [HE.out.1]; exact cgo_none (fun m hm => hno m (by omega) hm)
                  · exact HKO.out j (by omega))
                have HBQ := Lib.hid (HB15.out.trans (hbq.mono HB15.out.size))
                have hneg : ¬ (0 : Int) ≤ (j' : Int) - 1 := by omega
                clear hno hbq
                go_wp2
                go_roundw
                case rel => exact ⟨k + 1, by omega, by rw [Int.natCast_add]; rfl, HNX.out, HBQ.out⟩
                case measure => simp [intOf]; omega
              · obtain ⟨j, rfl⟩ : ∃ j, j' = j + 1 := ⟨j' - 1, by omega⟩
                have ej : (((j + 1 : Nat) : Int) - 1) = (j : Int) := by omega
                rw [ej]
                have hjn : j < n := by omega
                have hjn2 : (j : Int) < n := by omega
                have hj02 : (0 : Int) ≤ j := by omega
                have hb1r := HB15.out.trans (hbq.mono HB15.out.size)
                have hbwr := HB5.out.trans (hbq.mono HB5.out.size)
                have LJ : ∀ w'', Below wr.heap.size wr w'' → ((w''.cell? ⟨w.heap.size, 1, none⟩ = some (.int .u64 b) ∧ w''.cell? ⟨w.heap.size, 2, none⟩ = some (.slice (some ⟨g, o, none⟩) n m)) ∧ w''.cell? ⟨g, o + j * 2, none⟩ = some (.slice (hd j).1 (hd j).2.1 (hd j).2.2)) ∧ (w''.cell? ⟨bx, 0, none⟩ = some (.int .u64 s) ∧ w''.cell? ⟨bx, 1, none⟩ = some (.slice a z.length mz)) := fun w'' h =>
                  ⟨⟨⟨((HX1.out.below hb1r).below h).c3.2.1, ((HX1.out.below hb1r).below h).c3.2.2⟩, (HD.out j hjn).1 w'' (hbwr.trans (h.mono hbwr.size))⟩, ((HX5.out.below hbq).below h).c2⟩
                obtain ⟨q, hq⟩ : ∃ q, q = fnl (L.getD j en0).1 s := ⟨_, rfl⟩
                have hfd : ∀ w'', Below wr.heap.size wr w'' → Calls Try.prog 45 #[.slice (hd j).1 (hd j).2.1 (hd j).2.2, .int .u64 s] w'' fun e w3 => e = .returned (.int .i64 q) ∧ Below w''.heap.size w'' w3 := fun w'' h => by
                  have h2 := rfind_any P (hd j).1 (hd j).2.1 (hd j).2.2 (L.getD j en0).1 s w'' (((HD.out j hjn).2.below hbwr).below h) (by have := (HLE.out j hjn).2; omega)
                  rw [← hq] at h2
                  exact h2
                have hql := fnl_lt (L.getD j en0).1 s
                rw [← hq] at hql
                have HQ := Lib.hid (And.intro hq hql)
                clear hq hql
                have HJ := Lib.hid hj'
                have HNO := Lib.hid hno
                have HBQ := Lib.hid hbq
                have HBW := Lib.hid hbwr
                clear hno hbq hb1r hbwr ej hj0 hj'
                go_wp2
                have hS : Below wr.heap.size wr wr.drew := below_one' _
                refine Seq.wp_region_seq (fun w'' => Below wr.heap.size wr w'') (by kernel_rfl) (by kernel_rfl) hS ?_
                generalize wr.drew = wd at *
                repeat (first | (refine Seq.Seq.skip (by rfl) ?_; (try simp only [Act.put, List.setIfInBounds_toArray, List.set_cons_zero, List.set_cons_succ])) | (refine Seq.Seq.det ?_ (by rfl) (fun w hS => ?_) ?_; rotate_left; ((try dsimp only at hS); go_simp; (try rw [if_pos (by omega)]); with_reducible rfl); (try simp only [Act.put, List.setIfInBounds_toArray, List.set_cons_zero, List.set_cons_succ])))
                refine Seq.Seq.make (by rfl) (by rfl) (fun K Q' hK => ?_)
                go_simp
                go_at_call 45
                refine (hfd _ hS).mono ?_
                rintro en v1 ⟨rfl, hbv⟩
                replace hS := Below.trans hS (hbv.mono (Below.size hS))
                clear hbv hfd
                refine hK.out _ _ (hS) ?_
                clear hK K
                try simp only [Act.put, List.setIfInBounds_toArray, List.set_cons_zero, List.set_cons_succ]
                repeat (first | (refine Seq.Seq.skip (by rfl) ?_; (try simp only [Act.put, List.setIfInBounds_toArray, List.set_cons_zero, List.set_cons_succ])) | (refine Seq.Seq.det ?_ (by rfl) (fun w hS => ?_) ?_; rotate_left; ((try dsimp only at hS); go_simp; (try rw [if_pos (by omega)]); with_reducible rfl); (try simp only [Act.put, List.setIfInBounds_toArray, List.set_cons_zero, List.set_cons_succ])))
                refine Seq.Seq.nil ?_
                by_cases hneg : q < 0
                · have HNX : Hid (∀ m, j ≤ m → m < i → fnl (L.getD m en0).1 s < 0) := Lib.hid (fun m h1 h2 => by
                    by_cases h : m = j
                    · subst h; rw [← HQ.out.1]; exact hneg
                    · exact HNO.out m (by omega) h2)
                  have HBV := Lib.hid (HBQ.out.trans (hS.mono HBQ.out.size))
                  clear hS LJ
                  go_wp2
                  go_roundw
                  case rel => exact ⟨j, by have := HJ.out; omega, rfl, HNX.out, HBV.out⟩
                  case measure => simp [intOf] <;> omega
                · obtain ⟨q', rfl⟩ : ∃ q' : Nat, q = q' := ⟨q.toNat, by omega⟩
                  have hq2 : q' < (L.getD j en0).1.length := by have := HQ.out.2; omega
                  obtain ⟨g3, o3, e3, _, _, hc3⟩ := (HD.out j hjn).2.cells (by have := (HLE.out j hjn).1; omega)
                  obtain ⟨s3, z3, a3, l3, m3, he3, hsb3, hzl3, hlm3, hnl3, hus3, hzb3, _, _, hcell3⟩ := hc3 q' (by have := (HLE.out j hjn).1; omega)
                  subst hzl3
                  have hz3 : z3.length ≤ 50 := by
                    have := (HSM.out j).2.1.at_ q'
                    rw [he3] at this
                    exact this
                  have hq3 : (q' : Int) < (hd j).2.1 := by have := (HLE.out j hjn).1; omega
                  have hq4 : ¬ (q' : Int) < 0 := by omega
                  have hb1v := HBQ.out.trans (hS.mono HBQ.out.size)
                  have hbwv := HBW.out.trans (hS.mono HBW.out.size)
                  have ew1 : IntKind.u64.wrap (j : Int) = j := IntWalk.u64_in _ (by omega)
                  have ew2 : IntKind.u64.wrap (b + j) = b + j := IntWalk.u64_in _ (by omega)
                  have L9 : ∀ w'', Below v1.heap.size v1 w'' → (((w''.cell? ⟨w.heap.size, 1, none⟩ = some (.int .u64 b) ∧ w''.cell? ⟨w.heap.size, 2, none⟩ = some (.slice (some ⟨g, o, none⟩) n m)) ∧ w''.cell? ⟨g, o + j * 2, none⟩ = some (.slice (some ⟨g3, o3, none⟩) (hd j).2.1 (hd j).2.2)) ∧ (w''.cell? ⟨bx, 0, none⟩ = some (.int .u64 s) ∧ w''.cell? ⟨bx, 1, none⟩ = some (.slice a z.length mz))) ∧ (w''.cell? ⟨g3, o3 + q' * 2, none⟩ = some (.int .u64 s3) ∧ w''.cell? ⟨g3, o3 + q' * 2 + 1, none⟩ = some (.slice a3 z3.length m3)) := fun w'' h => by
                    have h5 := LJ w'' (Below.trans hS (h.mono (Below.size hS)))
                    rw [e3] at h5
                    exact ⟨h5, hcell3 w'' (hbwv.trans (h.mono hbwv.size))⟩
                  have hex := fun w'' (h : Below v1.heap.size v1 w'') => rextend_any s3 a3 z3.length m3 z3 (b + j) w'' hsb3 ((hus3.below hbwv).below h) hzb3 (by omega) (by omega) (by omega)
                  unfold LOwPost at hex
                  have HV1 := Lib.hid (HBQ.out.trans (hS.mono HBQ.out.size))
                  have HUV := Lib.hid (HUS.out.below hbwv)
                  have HE3 := Lib.hid he3
                  have HHZ := Lib.hid hz3
                  clear hS LJ hc3 hcell3 hus3 hzb3 hlm3 hnl3 he3 hb1v hbwv e3
                  go_wp2
                  have hS : Below v1.heap.size v1 v1.drew := below_one' _
                  refine SeqF.wp_region_float (fun w'' => Below v1.heap.size v1 w'') 15 (by kernel_rfl) rfl (by kernel_rfl) hS ?_
                  generalize v1.drew = wd9 at *
                  simp only [List.eraseIdx]
                  repeat (first | (refine SeqF.Float.skip (by rfl) (by rfl) (by rfl) ?_; (try simp only [Act.put, List.setIfInBounds_toArray, List.set_cons_zero, List.set_cons_succ])) | (refine SeqF.Float.det ?_ (by rfl) (by rfl) (by rfl) (fun w hS => ?_) ?_; rotate_left; ((try dsimp only at hS); go_simp; (try rw [if_pos (by omega)]); with_reducible rfl); (try simp only [Act.put, List.setIfInBounds_toArray, List.set_cons_zero, List.set_cons_succ])))
                  refine SeqF.Float.fork (by rfl) (by rfl) (by rfl) ?_ (fun K Q' hK => ?_)
                  · refine Seq.Seq.make (by rfl) (by rfl) (fun K Q' hK => ?_)
                    go_simp
                    have hA := below_one wd9 (.cells (lkc 0 none 0 0) 57)
                    have hS2 := Below.trans hS (hA.mono (Below.size hS))
                    have hX := Blk.new wd9 (lkc 0 none 0 0) 57
                    refine hK.out _ _ (hS2) ?_
                    clear hK K
                    try simp only [Act.put, List.setIfInBounds_toArray, List.set_cons_zero, List.set_cons_succ]
                    have hfb : v1.heap.size ≤ wd9.heap.size := Below.size hS
                    have hfl : (wd9.alloc (.cells (lkc 0 none 0 0) 57)).heap.size = wd9.heap.size + 1 := by simp
                    clear hA hS
                    generalize wd9.heap.size = fb at *
                    generalize wd9.alloc (.cells (lkc 0 none 0 0) 57) = wa at *
                    have hS := hS2
                    clear hS2
                    refine Seq.Seq.make (by rfl) (by rfl) (fun K Q' hK => ?_)
                    go_simp
                    go_at_call 47
                    refine (hex _ hS).mono ?_
                    rintro en v2 ⟨A4, m4, rfl, hbv, hR4⟩
                    have hX1 := hX.below hbv
                    have hS3 := Below.trans hS (hbv.mono (Below.size hS))
                    clear hX hex
                    refine hK.out _ _ (hS3) ?_
                    clear hK K
                    try simp only [Act.put, List.setIfInBounds_toArray, List.set_cons_zero, List.set_cons_succ]
                    repeat (first | (refine Seq.Seq.skip (by rfl) ?_; (try simp only [Act.put, List.setIfInBounds_toArray, List.set_cons_zero, List.set_cons_succ])) | (refine Seq.Seq.det ?_ (by rfl) (fun w hS => ?_) ?_; rotate_left; ((try dsimp only at hS); go_simp; (try rw [if_pos (by omega)]); with_reducible rfl); (try simp only [Act.put, List.setIfInBounds_toArray, List.set_cons_zero, List.set_cons_succ])))
                    obtain ⟨x0, x1⟩ := hX1.c2
                    obtain ⟨g8, g9⟩ := hX1.f2
                    obtain ⟨hXS, hkS⟩ := set2k hX1 (.int .u64 (ext (b + j) (s3, z3)).1) (.slice A4 (ext (b + j) (s3, z3)).2.length m4)
                    have hS4 := Kp.below hS3 (Nat.le_refl _) hkS hfb
                    have hR7 := LkE.keep hR4 fun x hx hl => hkS.block x hl (by have h9 : wa.heap.size ≤ x := hx; omega)
                    clear hX1 hS hS3 hbv hR4 hkS
                    refine Seq.Seq.make (by rfl) (by rfl) (fun K Q' hK => ?_)
                    go_simp
                    refine hK.out _ _ (hS4) ?_
                    clear hK K
                    try simp only [Act.put, List.setIfInBounds_toArray, List.set_cons_zero, List.set_cons_succ]
                    refine Seq.Seq.nil ?_
                    clear x0 x1 g8 g9 L9
                    generalize hw7 : World.setCell _ _ _ = w7 at hXS hS4 hR7 ⊢
                    obtain ⟨A0, m0, hc0, _, _, _, hus7, _⟩ := link_parts hR7
                    obtain ⟨rfl, rfl⟩ : A4 = A0 ∧ m4 = m0 := by simpa [ext] using hc0
                    have hb1w := HV1.out.trans (hS4.mono HV1.out.size)
                    obtain ⟨t0, t1⟩ := hXS.c2
                    obtain ⟨t2, t3⟩ := (HX5.out.below hb1w).c2
                    have hsm := rsame5_gen A4 a ((b + j) :: z3.take 3).length z.length m4 mz ((b + j) :: z3.take 3) z w7 hus7 (HUV.out.below hS4) (by simp; omega) (by have := HZL.out; omega)
                    have hb6 := HB15.out.trans (hb1w.mono HB15.out.size)
                    have hbf := HB5.out.trans (hb1w.mono HB5.out.size)
                    clear hw7 hc0 hus7 hS4 hXS hR7 hb1w
                    go_wp2_with fail
                    refine hsm.mono ?_
                    rintro en w8 ⟨rfl, hb8⟩
                    have hcg := cgo_some (b := b) (L := L) (i := i) (j := j) (x := (s, z)) (by show 0 ≤ fnl (L.getD j en0).1 s; rw [← HQ.out.1]; omega) (by have := HJ.out; omega) (fun m h1 h2 => HNO.out m (by omega) h2)
                    have hq9 : (fnl (L.getD j en0).1 (s, z).1).toNat = q' := by show (fnl (L.getD j en0).1 s).toNat = q'; rw [← HQ.out.1]; omega
                    rw [hq9, HE3.out] at hcg
                    dsimp only at hcg
                    by_cases heq : (b + j) :: z3.take 3 = z
                    · rw [decide_eq_true heq]
                      have HNX : Hid (∀ j, j < k + 1 → cgo (tlat exb b (lksOf L) tl0 i) ((L.getD i en0).1.getD j lk0) = true) := Lib.hid (fun j2 hj2 => by
                        by_cases h : j2 = k
                        · subst h; rw [HE.out.1, hcg]; exact decide_eq_true heq.symm
                        · exact HKO.out j2 (by omega))
                      have HB8 := Lib.hid (hb6.trans (hb8.mono hb6.size))
                      clear hcg heq hb8 hb6 hbf t0 t1 t2 t3
                      go_wp2
                      go_roundw
                      case rel => exact ⟨k + 1, by omega, by rw [Int.natCast_add]; rfl, HNX.out, HB8.out⟩
                      case measure => simp [intOf]; omega
                    · rw [decide_eq_false heq]
                      have HFN : Hid (chnb e b L = false) := Lib.hid (by
                        cases hh : chnb e b L
                        · rfl
                        · have h5 := HIF.out.1 hh i (by have := HLN.out; omega) k hkl
                          rw [HE.out.1, hcg] at h5
                          exact absurd (of_decide_eq_true h5).symm heq)
                      have hfin := hbf.trans (hb8.mono hbf.size)
                      clear hcg heq hb8 hb6 t0 t1 t2 t3
                      go_wp2
                      go_ret
                      exact ⟨by rw [HFN.out]; rfl, hfin⟩
                  · go_simp
                    go_at_call 47
                    refine (hex _ hS).mono ?_
                    rintro en v2 ⟨A4, m4, rfl, hbv, hR4⟩
                    have hS3 := Below.trans hS (hbv.mono (Below.size hS))
                    refine hK.out _ _ (hS3) ?_
                    clear hK K
                    try simp only [Act.put, List.setIfInBounds_toArray, List.set_cons_zero, List.set_cons_succ]
                    clear hS hex
                    have hS := hS3
                    repeat (first | (refine SeqF.Float.skip (by rfl) (by rfl) (by rfl) ?_; (try simp only [Act.put, List.setIfInBounds_toArray, List.set_cons_zero, List.set_cons_succ])) | (refine SeqF.Float.det ?_ (by rfl) (by rfl) (by rfl) (fun w hS => ?_) ?_; rotate_left; ((try dsimp only at hS); go_simp; (try rw [if_pos (by omega)]); with_reducible rfl); (try simp only [Act.put, List.setIfInBounds_toArray, List.set_cons_zero, List.set_cons_succ])))
                    refine SeqF.Float.stop (by rfl) ?_
                    refine Seq.Seq.make (by rfl) (by rfl) (fun K Q' hK => ?_)
                    go_simp
                    have hA := below_one v2 (.cells (lkc 0 none 0 0) 57)
                    have hS2 := Below.trans hS (hA.mono (Below.size hS))
                    have hX := Blk.new v2 (lkc 0 none 0 0) 57
                    refine hK.out _ _ (hS2) ?_
                    clear hK K
                    try simp only [Act.put, List.setIfInBounds_toArray, List.set_cons_zero, List.set_cons_succ]
                    have hfb : v1.heap.size ≤ v2.heap.size := Below.size hS
                    have hR6 := LkE.keep (LkE.mono hR4 (Q := fun x => x < v2.heap.size) fun x _ hl => hl) fun x _ hl => hA.block x hl
                    clear hA hS hS3 hbv hR4
                    generalize v2.heap.size = fb at *
                    generalize v2.alloc (.cells (lkc 0 none 0 0) 57) = wa at *
                    obtain ⟨x0, x1⟩ := hX.c2
                    obtain ⟨g8, g9⟩ := hX.f2
                    obtain ⟨hXS, hkS⟩ := set2k hX (.int .u64 (ext (b + j) (s3, z3)).1) (.slice A4 (ext (b + j) (s3, z3)).2.length m4)
                    have hS4 := Kp.below hS2 (Nat.le_refl _) hkS hfb
                    have hR7 := LkE.keep hR6 fun x hx hl => hkS.block x hl (by omega)
                    clear hX hS2 hR6 hkS
                    refine Seq.Seq.make (by rfl) (by rfl) (fun K Q' hK => ?_)
                    go_simp
                    refine hK.out _ _ (hS4) ?_
                    clear hK K
                    try simp only [Act.put, List.setIfInBounds_toArray, List.set_cons_zero, List.set_cons_succ]
                    refine Seq.Seq.nil ?_
                    clear x0 x1 g8 g9 L9
                    generalize hw7 : World.setCell _ _ _ = w7 at hXS hS4 hR7 ⊢
                    obtain ⟨A0, m0, hc0, _, _, _, hus7, _⟩ := link_parts hR7
                    obtain ⟨rfl, rfl⟩ : A4 = A0 ∧ m4 = m0 := by simpa [ext] using hc0
                    have hb1w := HV1.out.trans (hS4.mono HV1.out.size)
                    obtain ⟨t0, t1⟩ := hXS.c2
                    obtain ⟨t2, t3⟩ := (HX5.out.below hb1w).c2
                    have hsm := rsame5_gen A4 a ((b + j) :: z3.take 3).length z.length m4 mz ((b + j) :: z3.take 3) z w7 hus7 (HUV.out.below hS4) (by simp; omega) (by have := HZL.out; omega)
                    have hb6 := HB15.out.trans (hb1w.mono HB15.out.size)
                    have hbf := HB5.out.trans (hb1w.mono HB5.out.size)
                    clear hw7 hc0 hus7 hS4 hXS hR7 hb1w
                    go_wp2_with fail
                    refine hsm.mono ?_
                    rintro en w8 ⟨rfl, hb8⟩
                    have hcg := cgo_some (b := b) (L := L) (i := i) (j := j) (x := (s, z)) (by show 0 ≤ fnl (L.getD j en0).1 s; rw [← HQ.out.1]; omega) (by have := HJ.out; omega) (fun m h1 h2 => HNO.out m (by omega) h2)
                    have hq9 : (fnl (L.getD j en0).1 (s, z).1).toNat = q' := by show (fnl (L.getD j en0).1 s).toNat = q'; rw [← HQ.out.1]; omega
                    rw [hq9, HE3.out] at hcg
                    dsimp only at hcg
                    by_cases heq : (b + j) :: z3.take 3 = z
                    · rw [decide_eq_true heq]
                      have HNX : Hid (∀ j, j < k + 1 → cgo (tlat exb b (lksOf L) tl0 i) ((L.getD i en0).1.getD j lk0) = true) := Lib.hid (fun j2 hj2 => by
                        by_cases h : j2 = k
                        · subst h; rw [HE.out.1, hcg]; exact decide_eq_true heq.symm
                        · exact HKO.out j2 (by omega))
                      have HB8 := Lib.hid (hb6.trans (hb8.mono hb6.size))
                      clear hcg heq hb8 hb6 hbf t0 t1 t2 t3
                      go_wp2
                      go_roundw
                      case rel => exact ⟨k + 1, by omega, by rw [Int.natCast_add]; rfl, HNX.out, HB8.out⟩
                      case measure => simp [intOf]; omega
                    · rw [decide_eq_false heq]
                      have HFN : Hid (chnb e b L = false) := Lib.hid (by
                        cases hh : chnb e b L
                        · rfl
                        · have h5 := HIF.out.1 hh i (by have := HLN.out; omega) k hkl
                          rw [HE.out.1, hcg] at h5
                          exact absurd (of_decide_eq_true h5).symm heq)
                      have hfin := hbf.trans (hb8.mono hbf.size)
                      clear hcg heq hb8 hb6 t0 t1 t2 t3
                      go_wp2
                      go_ret
                      exact ⟨by rw [HFN.out]; rfl, hfin⟩
          · have hkl2 : ¬ (k : Int) < (hd i).2.1 := by omega
            have HNX : Hid (∀ i', i' < i + 1 → ∀ j, j < (L.getD i' en0).1.length → cgo (tlat exb b (lksOf L) tl0 i') ((L.getD i' en0).1.getD j lk0) = true) := Lib.hid (fun i' hi' j hj => by
              by_cases h : i' = i
              · subst h; exact hkok j (by omega)
              · exact HOK.out i' (by omega) j hj)
            have HBK := Lib.hid hbk
            clear hkok hbk
            go_wp2
            go_roundw
            case rel => exact ⟨i + 1, by omega, by rw [Int.natCast_add]; rfl, HNX.out, HBK.out⟩
            case measure => simp [intOf]; omega
      · have HFI : Hid (chnb e b L = true) := Lib.hid (HIF.out.2 fun i' hi' j hj => hok i' (by have := HLN.out; omega) j hj)
        have hin2 : ¬ (i : Int) < n := by omega
        have hbd := HB1.out.trans (hbr.mono HB1.out.size)
        clear hok hbr
        go_wp2
        go_ret
        exact ⟨by rw [HFI.out]; rfl, hbd⟩
end Go.Proofs.Ytgdcbfekekefiaa.Cur
