/- As the seat's text, without what nothing here names. -/
import Derived.Test.YtlealkfkddhnnaaGreatRows
import Derived.Test.YtlealkfkddhnnaaGreatBtcLw
import Derived.Test.YtlealkfkddhnnaaGreatBtcJw
import Derived.ProofKit
import Derived.OpenShut
import Derived.ShutString
import Derived.ChangeOld
namespace Go.Proofs.YtlealkfkddhnnaaGreat.batchWrites
open Go.ChangeShapes Go.WideShapes Go.ChangeAt Go.RowKit
open Go.ChangeMaps (open_string shut_string)
set_option linter.unusedVariables false
theorem own : ownKnob Tryz.prog.godebug = none := by kernel_rfl
theorem laidOut : laidOutB Tryz.prog = true := by kernel_rfl
open Cur Mem
set_option maxRecDepth 100000
set_option maxHeartbeats 8000000 in
theorem walk {H : Type} (enc : TypeId × Value → H) (w : World) (base : Nat) (v0 : Value) (d0 : DataW H) (p0 : List MemPlace) (g0 : Value.okWide Tryz.prog w .any base 25 v0) (h0 : DataW.Trod enc Tryz.prog w 0 (fun _ => true) true 25 v0 d0 p0) (v1 : Value) (d1 : DataW H) (p1 : List MemPlace) (g1 : Value.okWide Tryz.prog w .any base 25 v1) (h1 : DataW.Trod enc Tryz.prog w 0 (fun _ => true) true 25 v1 d1 p1) :
    Calls Tryz.prog 3 #[v0, v1] w fun e w' => e = .returned (.bool true) ∧ Below w.heap.size w w' := by
  obtain ⟨ep, bs, A, n, m, L, rfl, ⟨e0, e9⟩, ⟨b0, b9⟩, hnm, hnil, hz⟩ := open_batch g0 h0
  obtain ⟨eo, bo, Ao, no, mo, Lo, rfl, ⟨eo0, eo9⟩, ⟨bo0, bo9⟩, hnmo, hnilo, hzo⟩ := open_batch g1 h1
  clear g0 h0 g1 h1
  have hX := (Blk.new w (btenc ep bs A n m) 25).alloc (.cells (btenc eo bo Ao no mo) 25)
  have hY := Blk.new (w.alloc (.cells (btenc ep bs A n m) 25)) (btenc eo bo Ao no mo) 25
  rw [World.size_alloc] at hY
  have hb2 := below_two w (.cells (btenc ep bs A n m) 25) (.cells (btenc eo bo Ao no mo) 25)
  have HZ := Lib.hid (hz.below hb2)
  have HZO := Lib.hid (hzo.below hb2)
  have HbE := Lib.hid hb2
  have HX := Lib.hid hX
  have HY := Lib.hid hY
  have hsz : ((w.alloc (.cells (btenc ep bs A n m) 25)).alloc (.cells (btenc eo bo Ao no mo) 25)).heap.size = w.heap.size + 2 := by simp
  have hwE : w.heap.size + 2 ≤ ((w.alloc (.cells (btenc ep bs A n m) 25)).alloc (.cells (btenc eo bo Ao no mo) 25)).heap.size := by omega
  obtain ⟨x0, x1, x2⟩ := hX.c3
  clear hz hzo hX hY hb2 hsz
  go_enter Tryz.func3, Tryz.ntmps3
  go_wp2_with fail
  clear x0 x1 x2
  generalize (w.alloc (.cells (btenc ep bs A n m) 25)).alloc (.cells (btenc eo bo Ao no mo) 25) = wE at *
  refine (long25_any _ ep bs A n m L wE HZ.out).mono ?_
  rintro e w1 ⟨lb, rfl, hbd, hlong⟩
  cases lb
  case true =>
    clear hlong
    go_wp2_with fail
    refine (live25_any _).mono ?_
    rintro e wl ⟨rfl, hbl⟩
    replace hbd := hbd.trans (hbl.mono hbd.size)
    go_wp2
    go_ret
    exact ⟨rfl, HbE.out.trans (hbd.mono HbE.out.size)⟩
  obtain ⟨hn30, hsm, hjl⟩ := hlong rfl
  have HSM := Lib.hid hsm
  have HJL := Lib.hid hjl
  clear hlong hsm hjl
  obtain ⟨y0, y1, y2⟩ := (HY.out.below hbd).c3
  go_wp2_with fail
  clear y0 y1 y2
  refine (long25_any _ eo bo Ao no mo Lo w1 (HZO.out.below hbd)).mono ?_
  rintro e w2 ⟨lb, rfl, hb2, hlong⟩
  replace hbd := hbd.trans (hb2.mono hbd.size)
  clear hb2
  cases lb
  case true =>
    clear hlong
    go_wp2_with fail
    refine (live25_any _).mono ?_
    rintro e wl ⟨rfl, hbl⟩
    replace hbd := hbd.trans (hbl.mono hbd.size)
    go_wp2
    go_ret
    exact ⟨rfl, HbE.out.trans (hbd.mono HbE.out.size)⟩
  obtain ⟨hno30, hsmo, _⟩ := hlong rfl
  have HSMO := Lib.hid hsmo
  clear hlong hsmo
  have HLN := Lib.hid HZ.out.1
  have HDB : Hid (∀ x ∈ L, ∀ y ∈ x.2, 0 ≤ y ∧ y < 256) := Lib.hid (fun x hx => (HZ.out.bds x hx).2)
  have HBR := Lib.hid (fun w' (h : HkS wE w') => bright_any _ ep bs A n m L w' (HZ.out.below h) (by omega) HSM.out b0 b9)
  have HRR := Lib.hid (fun w' (h : HkS wE w') => rbright_any _ ep bs A n m L w' (HZ.out.below h) (by omega) HSM.out e0 b0 b9)
  have HEN := Lib.hid (fun w' (h : HkS wE w') => bend_any ep bs A n m w' (by omega))
  have HSA := Lib.hid (fun w' (h : HkS wE w') => bsame25_any _ _ ep bs eo bo A Ao n m no mo L Lo w' (HZ.out.below h) (HZO.out.below h) (by omega) (by omega) HSM.out HSMO.out)
  have HSR := Lib.hid (fun w' (h : HkS wE w') => rsame25_any _ _ ep bs eo bo A Ao n m no mo L Lo w' (HZ.out.below h) (HZO.out.below h) (by omega) (by omega) HSM.out HSMO.out)
  have HCO := Lib.hid (fun w' (h : HkS wE w') => bcopy_any _ ep bs A n m L w' (HZ.out.below h) (by omega) (fun k => ⟨by have := (HSM.out k).1; omega, (HSM.out k).2.1.le (by omega), by have := (HSM.out k).2.2; omega⟩))
  have HBY := Lib.hid (fun w' (h : HkS wE w') => bbytes_any (fun b' => b' < w.heap.size) ep bs A n m L w' (HZ.out.below h) (fun b' hb => by have := Below.size h; omega) (by omega) HSM.out e0 e9 b0 b9 (by have := HJL.out; omega))
  unfold BPost at HBR HRR HEN HSA HSR
  unfold CbtPost at HCO
  obtain ⟨D, hD⟩ : ∃ D, D = decide (((ep, bs, L) : Bt) = (eo, bo, Lo)) := ⟨_, rfl⟩
  rw [← hD] at HSA HSR
  have hDD : (D != D) = false := by cases D <;> rfl
  obtain ⟨V, hV⟩ : ∃ V, V = IntKind.u64.wrap (bs + n) := ⟨_, rfl⟩
  rw [← hV] at HEN
  have hVV : (V != V) = false := by simp
  have hV2 := hV.symm
  have en1 : IntKind.u64.wrap (n : Int) = n := IntWalk.u64_in _ (by omega)
  have LX : ∀ w', HkS wE w' → (w'.cell? ⟨w.heap.size, 0, none⟩ = some (.int .u64 ep) ∧ w'.cell? ⟨w.heap.size, 1, none⟩ = some (.int .u64 bs)) ∧ w'.cell? ⟨w.heap.size, 2, none⟩ = some (.slice A n m) := fun w' h => ⟨⟨(HX.out.below h).c3.1, (HX.out.below h).c3.2.1⟩, (HX.out.below h).c3.2.2⟩
  have LY : ∀ w', HkS wE w' → (w'.cell? ⟨w.heap.size + 1, 0, none⟩ = some (.int .u64 eo) ∧ w'.cell? ⟨w.heap.size + 1, 1, none⟩ = some (.int .u64 bo)) ∧ w'.cell? ⟨w.heap.size + 1, 2, none⟩ = some (.slice Ao no mo) := fun w' h => ⟨⟨(HY.out.below h).c3.1, (HY.out.below h).c3.2.1⟩, (HY.out.below h).c3.2.2⟩
  have HLX := Lib.hid LX
  have HLY := Lib.hid LY
  clear hD hV LX LY
  obtain ⟨x0, x1, x2⟩ := (HX.out.below hbd).c3
  go_wp2_with fail
  clear x0 x1 x2
  refine (HBY.out _ hbd).mono ?_
  rintro e w3 ⟨hb3, ⟨hok, g, rfl, hg, hbs⟩ | ⟨hok, rfl⟩⟩
  · replace hbd := hbd.trans (hb3.mono hbd.size)
    rw [hok] at HBR HRR
    have HOK := Lib.hid hok
    have HLE := Lib.hid (btb_len hok (by have := HJL.out; omega) (jn_byte HZ.out))
    have HPI : Hid (puts (btis ep bs L) [] 65536 0 = (btb (ep, bs, L), 0)) := Lib.hid (by
      rw [puts_fits (by rw [btis_flat]; have := HLE.out; simp; omega), btis_flat, List.nil_append])
    have HRB := Lib.hid (fun w' (h : HkS wE w') => rbytes25_any _ ep bs A n m L w' (HZ.out.below h) HSM.out e0 e9 b0 b9 hok (by have := HJL.out; omega))
    have HLT := Lib.hid (fun h0 => hbs.lt h0)
    have HBB : Hid (∀ x ∈ btb (ep, bs, L), 0 ≤ x ∧ x < 256) := Lib.hid (btb_byte hok (by have := HJL.out; omega) (jn_byte HZ.out) e0 e9 b0 b9 (fun x hx => (HZ.out.bds x hx).1))
    clear hb3 hg hok HBY
    have hs2 := Below.size hbd
    go_wp2_with fail
    refine (wnew_any 65536 w3 (by omega)).mono ?_
    rintro e w4 ⟨wb, rfl, hbb, hb4, hw4⟩
    rw [if_neg (by omega)] at hw4
    have hbd4 := hbd.trans (hb4.mono hbd.size)
    obtain ⟨x0, x1, x2⟩ := (HX.out.below hbd4).c3
    have hbs4 := hbs.below hb4
    have hs34 := hb4.size
    clear hbs
    go_wp2_with fail
    clear x0 x1 x2
    refine (bput_yes (fun b' => b' < w.heap.size) ep bs A n m L hw4 (HZ.out.below hbd4) HSM.out e0 e9 b0 b9 HOK.out (fun b' h _ => hw4.off_lt (by have h2 : b' < w.heap.size := h; omega)) (by simp) hs34 (by have := HJL.out; omega)).mono ?_
    rintro e w5 ⟨r5, rfl, hk5, _, hw5⟩
    rw [HPI.out] at hw5
    have hb5 := hw4.belowOf hb4 (Nat.le_refl _) hk5 (Nat.le_refl _)
    have hbs5 := hbs4.ks hk5 (fun h0 ad ha => hw4.off_lt (HLT.out h0 ad ha))
    replace hbd := hbd.trans (hb5.mono hbd.size)
    clear hk5 hw4 hbs4 hb4 hbd4 hb5
    go_wp2_with fail
    refine (wbytes_good (z := btb (ep, bs, L)) hw5 (by have := HLE.out; omega)).mono ?_
    rintro e w6 ⟨g2, rfl, hg2, hb6, hblk⟩
    have hp6 := Bs.of_block hblk
    have hs6 := hbs5.below hb6
    replace hbd := hbd.trans (hb6.mono hbd.size)
    obtain ⟨l, hl⟩ : ∃ l, l = (btb (ep, bs, L)).length := ⟨_, rfl⟩
    rw [← hl] at hp6 hs6
    rw [← hl]
    have HLL := Lib.hid hl
    clear hw5 hbs5 hb6 hblk hl hs34
    go_wp2_with fail
    refine (bsame_any _ _ _ _ _ _ (btb (ep, bs, L)) (btb (ep, bs, L)) _ hp6 hs6 HBB.out HBB.out).mono ?_
    rintro e w7 ⟨rfl, rfl⟩
    rw [decide_eq_true rfl]
    have HP6 := Lib.hid (And.intro hs6 hbd)
    clear hp6 hs6
    go_wp2
    have hbd := HP6.out.2
    have HS6 := Lib.hid HP6.out.1
    have hw6 := hbd.size
    clear HP6
    have hcv : ∀ w', HkS w6 w' → HkS wE w' := fun w' h => hbd.trans (Below.mono h hbd.size)
    have HCV := Lib.hid hcv
    have LX : ∀ w', HkS w6 w' → (w'.cell? ⟨w.heap.size, 0, none⟩ = some (.int .u64 ep) ∧ w'.cell? ⟨w.heap.size, 1, none⟩ = some (.int .u64 bs)) ∧ w'.cell? ⟨w.heap.size, 2, none⟩ = some (.slice A n m) := fun w' h => HLX.out w' (hcv w' h)
    have LY : ∀ w', HkS w6 w' → (w'.cell? ⟨w.heap.size + 1, 0, none⟩ = some (.int .u64 eo) ∧ w'.cell? ⟨w.heap.size + 1, 1, none⟩ = some (.int .u64 bo)) ∧ w'.cell? ⟨w.heap.size + 1, 2, none⟩ = some (.slice Ao no mo) := fun w' h => HLY.out w' (hcv w' h)
    have hS : HkS w6 w6.drew := below_one' _
    clear hcv hbd
    refine Seq.wp_region_seq (HkS w6) (by kernel_rfl) (by kernel_rfl) hS ?_
    generalize w6.drew = wd at *
    repeat (first | (refine Seq.Seq.skip (by rfl) ?_; (try simp only [Act.put, List.setIfInBounds_toArray, List.set_cons_zero, List.set_cons_succ])) | (refine Seq.Seq.det ?_ (by rfl) (fun w hS => ?_) ?_; rotate_left; ((try dsimp only at hS); go_simp; (try rw [if_pos (by omega)]); with_reducible rfl); (try simp only [Act.put, List.setIfInBounds_toArray, List.set_cons_zero, List.set_cons_succ])))
    refine Seq.Seq.make (by rfl) (by rfl) (fun K Q' hK => ?_)
    go_simp
    go_at_call 14
    refine (HBR.out _ (HCV.out _ hS)).mono ?_
    rintro e v1 ⟨rfl, hc1⟩
    replace hS := Below.trans hS (hc1.mono (Below.size hS))
    clear hc1
    refine hK.out _ _ (hS) ?_
    clear hK K
    try simp only [Act.put, List.setIfInBounds_toArray, List.set_cons_zero, List.set_cons_succ]
    repeat (first | (refine Seq.Seq.skip (by rfl) ?_; (try simp only [Act.put, List.setIfInBounds_toArray, List.set_cons_zero, List.set_cons_succ])) | (refine Seq.Seq.det ?_ (by rfl) (fun w hS => ?_) ?_; rotate_left; ((try dsimp only at hS); go_simp; (try rw [if_pos (by omega)]); with_reducible rfl); (try simp only [Act.put, List.setIfInBounds_toArray, List.set_cons_zero, List.set_cons_succ])))
    refine Seq.Seq.make (by rfl) (by rfl) (fun K Q' hK => ?_)
    go_simp
    go_at_call 15
    refine (HRR.out _ (HCV.out _ hS)).mono ?_
    rintro e v1 ⟨rfl, hc1⟩
    replace hS := Below.trans hS (hc1.mono (Below.size hS))
    clear hc1
    refine hK.out _ _ (hS) ?_
    clear hK K
    try simp only [Act.put, List.setIfInBounds_toArray, List.set_cons_zero, List.set_cons_succ]
    repeat (first | (refine Seq.Seq.skip (by rfl) ?_; (try simp only [Act.put, List.setIfInBounds_toArray, List.set_cons_zero, List.set_cons_succ])) | (refine Seq.Seq.det ?_ (by rfl) (fun w hS => ?_) ?_; rotate_left; ((try dsimp only at hS); go_simp; (try rw [if_pos (by omega)]); with_reducible rfl); (try simp only [Act.put, List.setIfInBounds_toArray, List.set_cons_zero, List.set_cons_succ])))
    refine Seq.Seq.make (by rfl) (by rfl) (fun K Q' hK => ?_)
    go_simp
    go_at_call 16
    refine (HEN.out _ (HCV.out _ hS)).mono ?_
    rintro e v1 ⟨rfl, hc1⟩
    replace hS := Below.trans hS (hc1.mono (Below.size hS))
    clear hc1
    refine hK.out _ _ (hS) ?_
    clear hK K
    try simp only [Act.put, List.setIfInBounds_toArray, List.set_cons_zero, List.set_cons_succ]
    repeat (first | (refine Seq.Seq.skip (by rfl) ?_; (try simp only [Act.put, List.setIfInBounds_toArray, List.set_cons_zero, List.set_cons_succ])) | (refine Seq.Seq.det ?_ (by rfl) (fun w hS => ?_) ?_; rotate_left; ((try dsimp only at hS); go_simp; (try rw [if_pos (by omega)]); with_reducible rfl); (try simp only [Act.put, List.setIfInBounds_toArray, List.set_cons_zero, List.set_cons_succ])))
    refine Seq.Seq.make (by rfl) (by rfl) (fun K Q' hK => ?_)
    go_simp
    go_at_call 17
    refine (HSA.out _ (HCV.out _ hS)).mono ?_
    rintro e v1 ⟨rfl, hc1⟩
    replace hS := Below.trans hS (hc1.mono (Below.size hS))
    clear hc1
    refine hK.out _ _ (hS) ?_
    clear hK K
    try simp only [Act.put, List.setIfInBounds_toArray, List.set_cons_zero, List.set_cons_succ]
    repeat (first | (refine Seq.Seq.skip (by rfl) ?_; (try simp only [Act.put, List.setIfInBounds_toArray, List.set_cons_zero, List.set_cons_succ])) | (refine Seq.Seq.det ?_ (by rfl) (fun w hS => ?_) ?_; rotate_left; ((try dsimp only at hS); go_simp; (try rw [if_pos (by omega)]); with_reducible rfl); (try simp only [Act.put, List.setIfInBounds_toArray, List.set_cons_zero, List.set_cons_succ])))
    refine Seq.Seq.make (by rfl) (by rfl) (fun K Q' hK => ?_)
    go_simp
    go_at_call 18
    refine (HSR.out _ (HCV.out _ hS)).mono ?_
    rintro e v1 ⟨rfl, hc1⟩
    replace hS := Below.trans hS (hc1.mono (Below.size hS))
    clear hc1
    refine hK.out _ _ (hS) ?_
    clear hK K
    try simp only [Act.put, List.setIfInBounds_toArray, List.set_cons_zero, List.set_cons_succ]
    repeat (first | (refine Seq.Seq.skip (by rfl) ?_; (try simp only [Act.put, List.setIfInBounds_toArray, List.set_cons_zero, List.set_cons_succ])) | (refine Seq.Seq.det ?_ (by rfl) (fun w hS => ?_) ?_; rotate_left; ((try dsimp only at hS); go_simp; (try rw [if_pos (by omega)]); with_reducible rfl); (try simp only [Act.put, List.setIfInBounds_toArray, List.set_cons_zero, List.set_cons_succ])))
    refine Seq.Seq.make (by rfl) (by rfl) (fun K Q' hK => ?_)
    go_simp
    go_at_call 19
    refine (HCO.out _ (HCV.out _ hS)).mono ?_
    rintro e v1 ⟨g, cur, lo, hi, rfl, hc1, hcp⟩
    replace hS := Below.trans hS (hc1.mono (Below.size hS))
    have hen := hcp.ens HLN.out HDB.out
    clear hc1 hcp
    refine hK.out _ _ (hS) ?_
    clear hK K
    try simp only [Act.put, List.setIfInBounds_toArray, List.set_cons_zero, List.set_cons_succ]
    repeat (first | (refine Seq.Seq.skip (by rfl) ?_; (try simp only [Act.put, List.setIfInBounds_toArray, List.set_cons_zero, List.set_cons_succ])) | (refine Seq.Seq.det ?_ (by rfl) (fun w hS => ?_) ?_; rotate_left; ((try dsimp only at hS); go_simp; (try rw [if_pos (by omega)]); with_reducible rfl); (try simp only [Act.put, List.setIfInBounds_toArray, List.set_cons_zero, List.set_cons_succ])))
    refine Seq.Seq.make (by rfl) (by rfl) (fun K Q' hK => ?_)
    go_simp
    go_at_call 18
    refine (rsame25_any _ _ ep bs ep bs _ A n n n m L L _ hen (HZ.out.below (HCV.out _ hS)) (by omega) (by omega) HSM.out HSM.out).mono ?_
    rintro e v2 ⟨rfl, hc1⟩
    rw [decide_eq_true rfl]
    replace hS := Below.trans hS (hc1.mono (Below.size hS))
    clear hc1 hen
    refine hK.out _ _ (hS) ?_
    clear hK K
    try simp only [Act.put, List.setIfInBounds_toArray, List.set_cons_zero, List.set_cons_succ]
    repeat (first | (refine Seq.Seq.skip (by rfl) ?_; (try simp only [Act.put, List.setIfInBounds_toArray, List.set_cons_zero, List.set_cons_succ])) | (refine Seq.Seq.det ?_ (by rfl) (fun w hS => ?_) ?_; rotate_left; ((try dsimp only at hS); go_simp; (try rw [if_pos (by omega)]); with_reducible rfl); (try simp only [Act.put, List.setIfInBounds_toArray, List.set_cons_zero, List.set_cons_succ])))
    refine Seq.Seq.nil ?_
    have hbd : Below wE.heap.size wE v2 := HCV.out _ hS
    have hb9 : Below w6.heap.size w6 v2 := hS
    clear hS HCV LX LY
    have hs9 := HS6.out.below hb9
    clear hb9 HS6
    obtain ⟨x0, x1, x2⟩ := (HX.out.below hbd).c3
    go_wp2_with fail
    refine (HRR.out _ hbd).mono ?_
    rintro e w11 ⟨rfl, hc11⟩
    replace hbd := hbd.trans (hc11.mono hbd.size)
    replace hs9 := hs9.below hc11
    clear hc11 x0 x1 x2
    obtain ⟨x0, x1, x2⟩ := (HX.out.below hbd).c3
    go_wp2_with fail
    refine (HRB.out _ hbd).mono ?_
    rintro e w12 ⟨A12, m12, rfl, hc12, hbs12, _, _, _⟩
    replace hbd := hbd.trans (hc12.mono hbd.size)
    replace hs9 := hs9.below hc12
    rw [← HLL.out] at hbs12 ⊢
    clear hc12 x0 x1 x2
    go_wp2_with fail
    refine (bsame_any _ _ _ _ _ _ (btb (ep, bs, L)) (btb (ep, bs, L)) _ hs9 hbs12 HBB.out HBB.out).mono ?_
    rintro e w13 ⟨rfl, rfl⟩
    rw [decide_eq_true rfl]
    clear hs9 hbs12
    go_wp2_with fail
    refine (live25_any _).mono ?_
    rintro e wl ⟨rfl, hbl⟩
    replace hbd := hbd.trans (hbl.mono hbd.size)
    go_wp2
    go_ret
    exact ⟨rfl, HbE.out.trans (hbd.mono HbE.out.size)⟩
  · replace hbd := hbd.trans (hb3.mono hbd.size)
    rw [hok] at HBR HRR
    have HOK := Lib.hid hok
    clear hb3 hok HBY
    have hs2 := Below.size hbd
    go_wp2_with fail
    refine (wnew_any 65536 w3 (by omega)).mono ?_
    rintro e w4 ⟨wb, rfl, hbb, hb4, hw4⟩
    rw [if_neg (by omega)] at hw4
    have hbd4 := hbd.trans (hb4.mono hbd.size)
    obtain ⟨x0, x1, x2⟩ := (HX.out.below hbd4).c3
    go_wp2_with fail
    clear x0 x1 x2
    refine (bput_no _ ep bs A n m L hw4 (HZ.out.below hbd4) (by omega) HSM.out b0 b9 HOK.out).mono ?_
    rintro e w5 ⟨rfl, hk5, hw5⟩
    rw [if_pos rfl] at hw5
    have hb5 := hw4.belowOf hb4 (Nat.le_refl _) hk5 (Nat.le_refl _)
    replace hbd := hbd.trans (hb5.mono hbd.size)
    clear hk5 hw4 hb4 hbd4 hb5
    go_wp2_with fail
    refine (wbytes_bad hw5 (by decide)).mono ?_
    rintro e w6 ⟨rfl, rfl⟩
    clear hw5
    go_wp2_with fail
    refine (bsame_any none none 0 0 0 0 [] [] w5 (Bs.none _) (Bs.none _) (by simp) (by simp)).mono ?_
    rintro e w7 ⟨rfl, rfl⟩
    rw [decide_eq_true rfl]
    have HP6 := Lib.hid hbd
    go_wp2
    have hbd := HP6.out
    have hw6 := hbd.size
    clear HP6
    have hcv : ∀ w', HkS w5 w' → HkS wE w' := fun w' h => hbd.trans (Below.mono h hbd.size)
    have HCV := Lib.hid hcv
    have LX : ∀ w', HkS w5 w' → (w'.cell? ⟨w.heap.size, 0, none⟩ = some (.int .u64 ep) ∧ w'.cell? ⟨w.heap.size, 1, none⟩ = some (.int .u64 bs)) ∧ w'.cell? ⟨w.heap.size, 2, none⟩ = some (.slice A n m) := fun w' h => HLX.out w' (hcv w' h)
    have LY : ∀ w', HkS w5 w' → (w'.cell? ⟨w.heap.size + 1, 0, none⟩ = some (.int .u64 eo) ∧ w'.cell? ⟨w.heap.size + 1, 1, none⟩ = some (.int .u64 bo)) ∧ w'.cell? ⟨w.heap.size + 1, 2, none⟩ = some (.slice Ao no mo) := fun w' h => HLY.out w' (hcv w' h)
    have hS : HkS w5 w5.drew := below_one' _
    clear hcv hbd
    refine Seq.wp_region_seq (HkS w5) (by kernel_rfl) (by kernel_rfl) hS ?_
    generalize w5.drew = wd at *
    repeat (first | (refine Seq.Seq.skip (by rfl) ?_; (try simp only [Act.put, List.setIfInBounds_toArray, List.set_cons_zero, List.set_cons_succ])) | (refine Seq.Seq.det ?_ (by rfl) (fun w hS => ?_) ?_; rotate_left; ((try dsimp only at hS); go_simp; (try rw [if_pos (by omega)]); with_reducible rfl); (try simp only [Act.put, List.setIfInBounds_toArray, List.set_cons_zero, List.set_cons_succ])))
    refine Seq.Seq.make (by rfl) (by rfl) (fun K Q' hK => ?_)
    go_simp
    go_at_call 14
    refine (HBR.out _ (HCV.out _ hS)).mono ?_
    rintro e v1 ⟨rfl, hc1⟩
    replace hS := Below.trans hS (hc1.mono (Below.size hS))
    clear hc1
    refine hK.out _ _ (hS) ?_
    clear hK K
    try simp only [Act.put, List.setIfInBounds_toArray, List.set_cons_zero, List.set_cons_succ]
    repeat (first | (refine Seq.Seq.skip (by rfl) ?_; (try simp only [Act.put, List.setIfInBounds_toArray, List.set_cons_zero, List.set_cons_succ])) | (refine Seq.Seq.det ?_ (by rfl) (fun w hS => ?_) ?_; rotate_left; ((try dsimp only at hS); go_simp; (try rw [if_pos (by omega)]); with_reducible rfl); (try simp only [Act.put, List.setIfInBounds_toArray, List.set_cons_zero, List.set_cons_succ])))
    refine Seq.Seq.make (by rfl) (by rfl) (fun K Q' hK => ?_)
    go_simp
    go_at_call 15
    refine (HRR.out _ (HCV.out _ hS)).mono ?_
    rintro e v1 ⟨rfl, hc1⟩
    replace hS := Below.trans hS (hc1.mono (Below.size hS))
    clear hc1
    refine hK.out _ _ (hS) ?_
    clear hK K
    try simp only [Act.put, List.setIfInBounds_toArray, List.set_cons_zero, List.set_cons_succ]
    repeat (first | (refine Seq.Seq.skip (by rfl) ?_; (try simp only [Act.put, List.setIfInBounds_toArray, List.set_cons_zero, List.set_cons_succ])) | (refine Seq.Seq.det ?_ (by rfl) (fun w hS => ?_) ?_; rotate_left; ((try dsimp only at hS); go_simp; (try rw [if_pos (by omega)]); with_reducible rfl); (try simp only [Act.put, List.setIfInBounds_toArray, List.set_cons_zero, List.set_cons_succ])))
    refine Seq.Seq.make (by rfl) (by rfl) (fun K Q' hK => ?_)
    go_simp
    go_at_call 16
    refine (HEN.out _ (HCV.out _ hS)).mono ?_
    rintro e v1 ⟨rfl, hc1⟩
    replace hS := Below.trans hS (hc1.mono (Below.size hS))
    clear hc1
    refine hK.out _ _ (hS) ?_
    clear hK K
    try simp only [Act.put, List.setIfInBounds_toArray, List.set_cons_zero, List.set_cons_succ]
    repeat (first | (refine Seq.Seq.skip (by rfl) ?_; (try simp only [Act.put, List.setIfInBounds_toArray, List.set_cons_zero, List.set_cons_succ])) | (refine Seq.Seq.det ?_ (by rfl) (fun w hS => ?_) ?_; rotate_left; ((try dsimp only at hS); go_simp; (try rw [if_pos (by omega)]); with_reducible rfl); (try simp only [Act.put, List.setIfInBounds_toArray, List.set_cons_zero, List.set_cons_succ])))
    refine Seq.Seq.make (by rfl) (by rfl) (fun K Q' hK => ?_)
    go_simp
    go_at_call 17
    refine (HSA.out _ (HCV.out _ hS)).mono ?_
    rintro e v1 ⟨rfl, hc1⟩
    replace hS := Below.trans hS (hc1.mono (Below.size hS))
    clear hc1
    refine hK.out _ _ (hS) ?_
    clear hK K
    try simp only [Act.put, List.setIfInBounds_toArray, List.set_cons_zero, List.set_cons_succ]
    repeat (first | (refine Seq.Seq.skip (by rfl) ?_; (try simp only [Act.put, List.setIfInBounds_toArray, List.set_cons_zero, List.set_cons_succ])) | (refine Seq.Seq.det ?_ (by rfl) (fun w hS => ?_) ?_; rotate_left; ((try dsimp only at hS); go_simp; (try rw [if_pos (by omega)]); with_reducible rfl); (try simp only [Act.put, List.setIfInBounds_toArray, List.set_cons_zero, List.set_cons_succ])))
    refine Seq.Seq.make (by rfl) (by rfl) (fun K Q' hK => ?_)
    go_simp
    go_at_call 18
    refine (HSR.out _ (HCV.out _ hS)).mono ?_
    rintro e v1 ⟨rfl, hc1⟩
    replace hS := Below.trans hS (hc1.mono (Below.size hS))
    clear hc1
    refine hK.out _ _ (hS) ?_
    clear hK K
    try simp only [Act.put, List.setIfInBounds_toArray, List.set_cons_zero, List.set_cons_succ]
    repeat (first | (refine Seq.Seq.skip (by rfl) ?_; (try simp only [Act.put, List.setIfInBounds_toArray, List.set_cons_zero, List.set_cons_succ])) | (refine Seq.Seq.det ?_ (by rfl) (fun w hS => ?_) ?_; rotate_left; ((try dsimp only at hS); go_simp; (try rw [if_pos (by omega)]); with_reducible rfl); (try simp only [Act.put, List.setIfInBounds_toArray, List.set_cons_zero, List.set_cons_succ])))
    refine Seq.Seq.make (by rfl) (by rfl) (fun K Q' hK => ?_)
    go_simp
    go_at_call 19
    refine (HCO.out _ (HCV.out _ hS)).mono ?_
    rintro e v1 ⟨g, cur, lo, hi, rfl, hc1, hcp⟩
    replace hS := Below.trans hS (hc1.mono (Below.size hS))
    have hen := hcp.ens HLN.out HDB.out
    clear hc1 hcp
    refine hK.out _ _ (hS) ?_
    clear hK K
    try simp only [Act.put, List.setIfInBounds_toArray, List.set_cons_zero, List.set_cons_succ]
    repeat (first | (refine Seq.Seq.skip (by rfl) ?_; (try simp only [Act.put, List.setIfInBounds_toArray, List.set_cons_zero, List.set_cons_succ])) | (refine Seq.Seq.det ?_ (by rfl) (fun w hS => ?_) ?_; rotate_left; ((try dsimp only at hS); go_simp; (try rw [if_pos (by omega)]); with_reducible rfl); (try simp only [Act.put, List.setIfInBounds_toArray, List.set_cons_zero, List.set_cons_succ])))
    refine Seq.Seq.make (by rfl) (by rfl) (fun K Q' hK => ?_)
    go_simp
    go_at_call 18
    refine (rsame25_any _ _ ep bs ep bs _ A n n n m L L _ hen (HZ.out.below (HCV.out _ hS)) (by omega) (by omega) HSM.out HSM.out).mono ?_
    rintro e v2 ⟨rfl, hc1⟩
    rw [decide_eq_true rfl]
    replace hS := Below.trans hS (hc1.mono (Below.size hS))
    clear hc1 hen
    refine hK.out _ _ (hS) ?_
    clear hK K
    try simp only [Act.put, List.setIfInBounds_toArray, List.set_cons_zero, List.set_cons_succ]
    repeat (first | (refine Seq.Seq.skip (by rfl) ?_; (try simp only [Act.put, List.setIfInBounds_toArray, List.set_cons_zero, List.set_cons_succ])) | (refine Seq.Seq.det ?_ (by rfl) (fun w hS => ?_) ?_; rotate_left; ((try dsimp only at hS); go_simp; (try rw [if_pos (by omega)]); with_reducible rfl); (try simp only [Act.put, List.setIfInBounds_toArray, List.set_cons_zero, List.set_cons_succ])))
    refine Seq.Seq.nil ?_
    have hbd : Below wE.heap.size wE v2 := HCV.out _ hS
    have hb9 : Below w5.heap.size w5 v2 := hS
    clear hS HCV LX LY
    clear hb9
    obtain ⟨x0, x1, x2⟩ := (HX.out.below hbd).c3
    go_wp2_with fail
    refine (HRR.out _ hbd).mono ?_
    rintro e w11 ⟨rfl, hc11⟩
    replace hbd := hbd.trans (hc11.mono hbd.size)
    clear hc11 x0 x1 x2
    go_wp2_with fail
    refine (live25_any _).mono ?_
    rintro e wl ⟨rfl, hbl⟩
    replace hbd := hbd.trans (hbl.mono hbd.size)
    go_wp2
    go_ret
    exact ⟨rfl, HbE.out.trans (hbd.mono HbE.out.size)⟩
set_option maxRecDepth 100000 in
theorem lifted (os : Os) (started : os.Started) (H : Type) (enc : TypeId × Value → H) :
    ReturnsInHanded {} Tryz.checked os 3 .any (Rows.batchWritesSpec.pre6 enc Tryz.prog Tryz.f3 Rows.batchWritesRow.domain false) (Rows.batchWritesSpec.post enc Tryz.prog Tryz.f3 false true false false) := by
  refine returnsInHanded_of_change (C := Tryz.checked) own started (by kernel_rfl) Tryz.func3
    (ChangeSpec.witness6 (enc := enc) (C := Tryz.checked) false ⟨#[], #[.agg #[.int .u64 0, .int .u64 0, .slice none 0 0], .agg #[.int .u64 0, .int .u64 0, .slice none 0 0]], []⟩ 8 (by kernel_rfl) (by kernel_rfl) (by kernel_rfl) (by kernel_rfl)) ?_
  intro W base args ds gs before hval0 hW hcnd _
  have hval : ∀ (j : Nat) t v, Tryz.f3.params[j]? = some t → args[j]? = some v → Value.okWide Tryz.prog W .any base t v := hval0
  have hW' := hW
  obtain ⟨p, q, hA0, hV, rfl, hfz, hnd⟩ := hW
  have hA : DataW.TrodAll enc Tryz.prog W 0 (fun _ => true) true Tryz.f3.params.toList args.toList ds p := hA0
  rw [Tryz.params3] at hA hval
  obtain ⟨v0, vs0, d0, ds0, p0, q0, hargs, rfl, rfl, h0, r0⟩ := trodAll_cons hA
  obtain ⟨v1, vs1, d1, ds1, p1, q1, rfl, rfl, rfl, h1, r1⟩ := trodAll_cons r0
  obtain ⟨rfl, rfl, rfl⟩ := trodAll_nil r1
  obtain rfl : args = #[v0, v1] := by cases args; simp_all
  obtain ⟨rfl, rfl⟩ := trodVars_none hV
  have lt0 : ∀ x ∈ p0, x.block < W.heap.size := by obtain ⟨m, hm⟩ := h0; exact DataW.trod_lt m _ _ _ hm
  have lt1 : ∀ x ∈ p1, x.block < W.heap.size := by obtain ⟨m, hm⟩ := h1; exact DataW.trod_lt m _ _ _ hm
  clear hA0 hval0
  refine (walk enc W base v0 d0 p0 (hval 0 25 v0 rfl rfl) h0 v1 d1 p1 (hval 1 25 v1 rfl rfl) h1).mono fun e W' ⟨he, bel⟩ => ?_
  subst he
  exact ⟨_, rfl, _, _, _, [], _, [], hW', trodAll_mk1 (shut_bool Tryz.underlying4 _), (trodAll_cons_mk (Below.trod laidOut (by kernel_rfl) (of_decide_eq_true (by kernel_rfl)) h0 bel lt0) (trodAll_cons_mk (Below.trod laidOut (by kernel_rfl) (of_decide_eq_true (by kernel_rfl)) h1 bel lt1) trodAll_mk0)), rfl, bel.frame _, fun h => by cases h⟩
theorem over : Rows.batchWritesRow.holds Tryz.pinned (OpenSpec.ofChange Rows.batchWritesSpec) :=
  OpenClaim.holds_of_wide 3 Tryz.f3 rfl rfl rfl rfl rfl rfl rfl ⟨rfl, rfl, rfl, rfl, rfl⟩ rfl rfl rfl rfl rfl (by kernel_rfl) Tryz.func3 (by kernel_rfl)
    (of_decide_eq_true (by kernel_rfl)) (by unfold Func.isWrapper; first | (rw [if_pos (by decide +kernel)]; kernel_rfl) | (rw [if_neg (by decide +kernel)]; exact ⟨rfl, rfl⟩))
    (fun os started H enc _ => lifted os started H enc)
theorem proved : Rows.BatchWritesSaid := over
#print axioms proved
end Go.Proofs.YtlealkfkddhnnaaGreat.batchWrites
