/- EntryCopies: called with any two entries, the law returns true; no condition. -/
import Derived.Test.YtoeedhdckccajaaRows
import Derived.Test.YtoeedhdckccajaaEntJ
import Derived.Test.YtoeedhdckccajaaK34
import Derived.Test.YtoeedhdckccajaaK33
import Derived.ProofKit
import Derived.OpenShut
import Derived.ShutString
import Derived.ChangeOld
namespace Go.Proofs.Ytoeedhdckccajaa.entryCopies
open Go.ChangeShapes Go.WideShapes Go.ChangeAt Go.RowKit
open Go.ChangeMaps (open_string shut_string)
set_option linter.unusedVariables false

theorem own : ownKnob Try.prog.godebug = none := by kernel_rfl
theorem laidOut : laidOutB Try.prog = true := by kernel_rfl
open Cur Mem

set_option maxRecDepth 100000


set_option maxHeartbeats 16000000 in
theorem walk {H : Type} (enc : TypeId × Value → H) (w : World) (base : Nat) (v0 : Value) (d0 : DataW H) (p0 : List MemPlace) (g0 : Value.okWide Try.prog w .any base 26 v0) (h0 : DataW.Trod enc Try.prog w 0 (fun _ => true) true 26 v0 d0 p0) (v1 : Value) (d1 : DataW H) (p1 : List MemPlace) (g1 : Value.okWide Try.prog w .any base 26 v1) (h1 : DataW.Trod enc Try.prog w 0 (fun _ => true) true 26 v1 d1 p1) :
    Calls Try.prog 6 #[v0, v1] w fun e w' => e = .returned (.bool true) ∧ Below w.heap.size w w' := by
  obtain ⟨A, n, m, B, r, k, L, D, rfl, hnm, hnilA, hz, hrk, hnilB, hd, hdb, _⟩ := open_entry g0 h0
  obtain ⟨A2, n2, m2, B2, r2, k2, L2, D2, rfl, hnm2, hnilA2, hz2, hrk2, hnilB2, hd2, hdb2, _⟩ := open_entry g1 h1
  clear g0 h0 g1 h1
  have hbE := below_two w (.cells (enc' A n m B r k) 26) (.cells (enc' A2 n2 m2 B2 r2 k2) 26)
  have hX := (Blk.new w (enc' A n m B r k) 26).alloc (.cells (enc' A2 n2 m2 B2 r2 k2) 26)
  have hY := Blk.new (w.alloc (.cells (enc' A n m B r k) 26)) (enc' A2 n2 m2 B2 r2 k2) 26
  rw [show (w.alloc (.cells (enc' A n m B r k) 26)).heap.size = w.heap.size + 1 by simp] at hY
  have hEB : ((w.alloc (.cells (enc' A n m B r k) 26)).alloc (.cells (enc' A2 n2 m2 B2 r2 k2) 26)).heap.size = w.heap.size + 2 := by simp
  have HZ := Lib.hid (hz.below hbE)
  have HZ2 := Lib.hid (hz2.below hbE)
  have HD := Lib.hid (hd.below hbE)
  have HD2 := Lib.hid (hd2.below hbE)
  have HDP := Lib.hid (fun (h0 : 0 < r) => hd.lt h0)
  have HDP2 := Lib.hid (fun (h0 : 0 < r2) => hd2.lt h0)
  have HDB := Lib.hid hdb
  have HDB2 := Lib.hid hdb2
  have HNIL := Lib.hid (And.intro hnilA hnilB)
  have HNIL2 := Lib.hid (And.intro hnilA2 hnilB2)
  have HMR := Lib.hid (And.intro hnm hrk)
  have HMR2 := Lib.hid (And.intro hnm2 hrk2)
  clear hz hz2 hd hd2 hdb hdb2 hnilA hnilB hnilA2 hnilB2 hnm hrk hnm2 hrk2
  go_enter Try.func6, Try.ntmps6
  obtain ⟨x0, x1⟩ := hX.c2
  obtain ⟨y0, y1⟩ := hY.c2
  go_wp2_with fail
  generalize (w.alloc (.cells (enc' A n m B r k) 26)).alloc (.cells (enc' A2 n2 m2 B2 r2 k2) 26) = wE at *
  have HbE := Lib.hid hbE
  clear hbE
  obtain ⟨eb, heb⟩ : ∃ eb, eb = w.heap.size := ⟨_, rfl⟩
  obtain ⟨ec, hec⟩ : ∃ ec, ec = w.heap.size + 1 := ⟨_, rfl⟩
  rw [← hec] at hY y0 y1 ⊢
  rw [← heb] at hX x0 x1 ⊢
  have hEE : eb < wE.heap.size ∧ ec < wE.heap.size ∧ eb ≠ ec ∧ w.heap.size ≤ wE.heap.size := by omega
  have HX := Lib.hid hX
  have HY := Lib.hid hY
  clear hX hY heb hec hEB
  have hbd := Below.refl wE.heap.size wE
  refine (long24_any _ A n m L B r k wE HZ.out).mono ?_
  rintro e w0 ⟨lb, rfl, hb0, hlong⟩
  clear x0 x1 y0 y1
  replace hbd := hbd.trans (hb0.mono hbd.size)
  clear hb0
  cases lb
  case true =>
    clear hlong
    go_wp2_with fail
    refine (live24_any _).mono ?_
    rintro e wl ⟨rfl, hbl⟩
    replace hbd := hbd.trans (hbl.mono hbd.size)
    go_wp2
    go_ret
    exact ⟨rfl, HbE.out.trans (hbd.mono HbE.out.size)⟩
  have HLG := Lib.hid (hlong rfl)
  clear hlong
  obtain ⟨x0, x1⟩ := (HX.out.below hbd).c2
  obtain ⟨y0, y1⟩ := (HY.out.below hbd).c2
  go_wp2_with fail
  refine (long24_any _ A2 n2 m2 L2 B2 r2 k2 w0 (HZ2.out.below hbd)).mono ?_
  rintro e w1 ⟨lb, rfl, hb0, hlong⟩
  clear x0 x1 y0 y1
  replace hbd := hbd.trans (hb0.mono hbd.size)
  clear hb0
  cases lb
  case true =>
    clear hlong
    go_wp2_with fail
    refine (live24_any _).mono ?_
    rintro e wl ⟨rfl, hbl⟩
    replace hbd := hbd.trans (hbl.mono hbd.size)
    go_wp2
    go_ret
    exact ⟨rfl, HbE.out.trans (hbd.mono HbE.out.size)⟩
  have HLG2 := Lib.hid (hlong rfl)
  clear hlong
  obtain ⟨hn50, hbl50, hr500⟩ := HLG.out
  obtain ⟨hn50', hbl50', hr500'⟩ := HLG2.out
  have HBL := Lib.hid (hbl50.le (N := 1000000) (by omega))
  have HBL2 := Lib.hid (hbl50'.le (N := 1000000) (by omega))
  have HCPY := Lib.hid (fun w' (h : Below wE.heap.size wE w') => encopy_any _ A n m L B r k D w' (HZ.out.below h) HNIL.out.1 (by omega) (hbl50.le (by omega)) (HD.out.below h) HNIL.out.2 (by omega))
  clear hbl50 hbl50'
  go_wp2
  have L0 : ∀ w', ((Blk w' eb (enc' A n m B r k) 26 ∧ Blk w' ec (enc' A2 n2 m2 B2 r2 k2) 26) ∧ Below w1.heap.size w1 w') → (w'.cell? ⟨eb, 0, none⟩ = some (.slice A n m) ∧ w'.cell? ⟨eb, 1, none⟩ = some (.slice B r k)) ∧ (w'.cell? ⟨ec, 0, none⟩ = some (.slice A2 n2 m2) ∧ w'.cell? ⟨ec, 1, none⟩ = some (.slice B2 r2 k2)) := fun w' h => ⟨h.1.1.c2, h.1.2.c2⟩
  refine SeqG.wp_region_hav (fun w' => (Blk w' eb (enc' A n m B r k) 26 ∧ Blk w' ec (enc' A2 n2 m2 B2 r2 k2) 26) ∧ Below w1.heap.size w1 w') (fun w1 w2 => Below w1.heap.size w1 w2) (fun o => o.dst == some 17 || o.dst == some 19 || o.dst == some 5 || o.dst == some 6) (EcG w1.heap.size n r L D) EcD ⟨fun w => Below.refl _ _, fun h1 h2 => h1.trans (h2.mono h1.size), fun h ht => ecg_keep h ht, fun h => Or.symm h⟩ (by kernel_rfl) (by kernel_rfl) ⟨⟨HX.out.below (hbd.trans ((below_one' w1).mono hbd.size)), HY.out.below (hbd.trans ((below_one' w1).mono hbd.size))⟩, below_one' w1⟩ ?_
  repeat (first | (refine SeqG.Rl.skip (by rfl) ?_; (try simp only [Act.put, List.setIfInBounds_toArray, List.set_cons_zero, List.set_cons_succ])) | (refine SeqG.Rl.det ?_ (by rfl) (by rfl) (fun w hS => ?_) ?_; rotate_left; ((try dsimp only at hS); go_simp; (try rw [if_pos (by omega)]); with_reducible rfl); (try simp only [Act.put, List.setIfInBounds_toArray, List.set_cons_zero, List.set_cons_succ])))
  refine SeqG.Rl.hav (by rfl) (by rfl) rfl (by simp) (fun w3 hT3 hS3 KK Q' hK => ?_) (fun v3 w3 hT3 hS3 hG3 _ => ?_)
  · go_simp
    go_at_call 30
    refine (HCPY.out w3 (hbd.trans (hS3.2.mono hbd.size))).mono ?_
    rintro en wq ⟨Aq, mq, Bq, kq, rfl, hbq, hinq⟩
    exact hK.out _ (w3.heap.size, wq.heap.size) _ hbq ⟨⟨hS3.1.1.below hbq, hS3.1.2.below hbq⟩, hS3.2.trans (hbq.mono hS3.2.size)⟩ (.inl ⟨.inl rfl, hbq.size, Nat.le_refl _, hS3.2.size, Aq, mq, Bq, kq, rfl, hinq⟩) (fun o' u hu => .inr (ecg_hi hu))
  obtain ⟨v3, loC, hiC⟩ := v3
  rcases hG3 with ⟨_, c1, c2, c3, Ac, mc, Bc, kc, e3, hinC⟩ | ⟨hh, _⟩
  rotate_left
  · exact absurd hh (by decide)
  dsimp only at c1 c2 c3 e3 hinC ⊢
  subst e3
  try simp only [Act.put, List.setIfInBounds_toArray, List.set_cons_zero, List.set_cons_succ]
  repeat (first | (refine SeqG.Rl.skip (by rfl) ?_; (try simp only [Act.put, List.setIfInBounds_toArray, List.set_cons_zero, List.set_cons_succ])) | (refine SeqG.Rl.det ?_ (by rfl) (by rfl) (fun w hS => ?_) ?_; rotate_left; ((try dsimp only at hS); go_simp; (try rw [if_pos (by omega)]); with_reducible rfl); (try simp only [Act.put, List.setIfInBounds_toArray, List.set_cons_zero, List.set_cons_succ])))
  refine SeqG.Rl.hav (by rfl) (by rfl) rfl (by simp) (fun w4 hT4 hS4 KK Q' hK => ?_) (fun v4 w4 hT4 hS4 hG4 hD4 => ?_)
  · go_simp
    go_at_call 30
    refine (HCPY.out w4 (hbd.trans (hS4.2.mono hbd.size))).mono ?_
    rintro en wq ⟨Aq, mq, Bq, kq, rfl, hbq, hinq⟩
    exact hK.out _ (w4.heap.size, wq.heap.size) _ hbq ⟨⟨hS4.1.1.below hbq, hS4.1.2.below hbq⟩, hS4.2.trans (hbq.mono hS4.2.size)⟩ (.inl ⟨.inr rfl, hbq.size, Nat.le_refl _, hS4.2.size, Aq, mq, Bq, kq, rfl, hinq⟩) (fun o' u hu => .inr (ecg_hi hu))
  obtain ⟨v4, loD, hiD⟩ := v4
  rcases hG4 with ⟨_, d1, d2, d3, Ad, md, Bd, kd, e4, hinD⟩ | ⟨hh, _⟩
  rotate_left
  · exact absurd hh (by decide)
  have d43 : hiD ≤ loC ∨ hiC ≤ loD := hD4 _ (.inl rfl)
  dsimp only at d1 d2 d3 e4 hinD ⊢
  subst e4
  clear hD4
  try simp only [Act.put, List.setIfInBounds_toArray, List.set_cons_zero, List.set_cons_succ]
  repeat (first | (refine SeqG.Rl.skip (by rfl) ?_; (try simp only [Act.put, List.setIfInBounds_toArray, List.set_cons_zero, List.set_cons_succ])) | (refine SeqG.Rl.det ?_ (by rfl) (by rfl) (fun w hS => ?_) ?_; rotate_left; ((try dsimp only at hS); go_simp; (try rw [if_pos (by omega)]); with_reducible rfl); (try simp only [Act.put, List.setIfInBounds_toArray, List.set_cons_zero, List.set_cons_succ])))
  refine SeqG.Rl.hav (by rfl) (by rfl) rfl (by simp) (fun w5 hT5 hS5 KK Q' hK => ?_) (fun v5 w5 hT5 hS5 hG5 hD5 => ?_)
  · go_simp
    exact hK.out _ (w5.heap.size, w5.heap.size + 1) _ (below_one w5 _) ⟨⟨hS5.1.1.below (below_one w5 _), hS5.1.2.below (below_one w5 _)⟩, hS5.2.trans ((below_one w5 _).mono hS5.2.size)⟩ (.inr ⟨.inl rfl, w5.heap.size, rfl, rfl, hS5.2.size, Blk.new w5 _ _⟩) (fun o' u hu => .inr (ecg_hi hu))
  obtain ⟨v5, lo5, hi5⟩ := v5
  rcases hG5 with ⟨hh, _⟩ | ⟨_, b5, e5, e5', b5g, hB5⟩
  · exact absurd hh (by decide)
  obtain ⟨rfl, rfl⟩ := Prod.mk.inj e5'
  have d54 : lo5 + 1 ≤ loD ∨ hiD ≤ lo5 := hD5 _ (.inl rfl)
  have d53 : lo5 + 1 ≤ loC ∨ hiC ≤ lo5 := hD5 _ (.inr (.inl rfl))
  dsimp only at e5 ⊢
  subst e5
  clear hD5 e5'
  try simp only [Act.put, List.setIfInBounds_toArray, List.set_cons_zero, List.set_cons_succ]
  repeat (first | (refine SeqG.Rl.skip (by rfl) ?_; (try simp only [Act.put, List.setIfInBounds_toArray, List.set_cons_zero, List.set_cons_succ])) | (refine SeqG.Rl.det ?_ (by rfl) (by rfl) (fun w hS => ?_) ?_; rotate_left; ((try dsimp only at hS); go_simp; (try rw [if_pos (by omega)]); with_reducible rfl); (try simp only [Act.put, List.setIfInBounds_toArray, List.set_cons_zero, List.set_cons_succ])))
  refine SeqG.Rl.hav (by rfl) (by rfl) rfl (by simp) (fun w6 hT6 hS6 KK Q' hK => ?_) (fun v6 w6 hT6 hS6 hG6 hD6 => ?_)
  · go_simp
    exact hK.out _ (w6.heap.size, w6.heap.size + 1) _ (below_one w6 _) ⟨⟨hS6.1.1.below (below_one w6 _), hS6.1.2.below (below_one w6 _)⟩, hS6.2.trans ((below_one w6 _).mono hS6.2.size)⟩ (.inr ⟨.inr rfl, w6.heap.size, rfl, rfl, hS6.2.size, Blk.new w6 _ _⟩) (fun o' u hu => .inr (ecg_hi hu))
  obtain ⟨v6, lo6, hi6⟩ := v6
  rcases hG6 with ⟨hh, _⟩ | ⟨_, b6, e6, e6', b6g, hB6⟩
  · exact absurd hh (by decide)
  obtain ⟨rfl, rfl⟩ := Prod.mk.inj e6'
  have d65 : lo6 + 1 ≤ lo5 ∨ lo5 + 1 ≤ lo6 := hD6 _ (.inl rfl)
  have d64 : lo6 + 1 ≤ loD ∨ hiD ≤ lo6 := hD6 _ (.inr (.inl rfl))
  have d63 : lo6 + 1 ≤ loC ∨ hiC ≤ lo6 := hD6 _ (.inr (.inr (.inl rfl)))
  dsimp only at e6 ⊢
  subst e6
  clear hD6 e6'
  replace hinC := ((hinC.below hT4).below hT5).below hT6
  replace hinD := (hinD.below hT5).below hT6
  replace hB5 := hB5.below hT6
  clear hT3 hS3 hT4 hS4 hT5 hS5 hT6
  try simp only [Act.put, List.setIfInBounds_toArray, List.set_cons_zero, List.set_cons_succ]
  repeat (first | (refine SeqG.Rl.skip (by rfl) ?_; (try simp only [Act.put, List.setIfInBounds_toArray, List.set_cons_zero, List.set_cons_succ])) | (refine SeqG.Rl.det ?_ (by rfl) (by rfl) (fun w hS => ?_) ?_; rotate_left; ((try dsimp only at hS); go_simp; (try rw [if_pos (by omega)]); with_reducible rfl); (try simp only [Act.put, List.setIfInBounds_toArray, List.set_cons_zero, List.set_cons_succ])))
  refine SeqG.Rl.make (by rfl) (by rfl) (by rfl) (fun KK Q' hK => ?_)
  obtain ⟨q0, q1⟩ := hB5.c2
  have u0 := hB5.free 0
  have u1 := hB5.free 1
  go_simp
  obtain ⟨hC5, hk7⟩ := set2e hB5 (.slice Ac n mc) (.slice Bc r kc)
  have hw1s := hbd.size
  have hB6' : Blk _ lo6 _ _ := (hk7 lo6 (by omega)).trans hB6
  have hS7 := hS6.1
  have hX7 : Blk _ eb _ _ := (hk7 eb (by omega)).trans hS7.1
  have hY7 : Blk _ ec _ _ := (hk7 ec (by omega)).trans hS7.2
  have hb7 := Below.setCell (Below.setCell hS6.2 (p := ⟨lo5, 0, none⟩) b5g (.slice Ac n mc)) (p := ⟨lo5, 1, none⟩) b5g (.slice Bc r kc)
  replace hinC := hinC.keep (fun b h1 h2 _ => hk7 b (by omega))
  replace hinD := hinD.keep (fun b h1 h2 _ => hk7 b (by omega))
  clear hS6 hB6 hS7 hk7
  generalize (w6.setCell ⟨lo5, 0, none⟩ (.slice Ac n mc)).setCell ⟨lo5, 1, none⟩ (.slice Bc r kc) = w7 at *
  refine hK.out _ _ (show Below w1.drew.heap.size w1.drew w7 from ⟨hb7.os, hb7.tape, hb7.output, hb7.size, hb7.block⟩) ⟨⟨hX7, hY7⟩, hb7⟩ ?_
  clear hK KK hB5 q0 q1 u0 u1
  try simp only [Act.put, List.setIfInBounds_toArray, List.set_cons_zero, List.set_cons_succ]
  refine SeqG.Rl.make (by rfl) (by rfl) (by rfl) (fun KK Q' hK => ?_)
  obtain ⟨q0, q1⟩ := hB6'.c2
  have u0 := hB6'.free 0
  have u1 := hB6'.free 1
  go_simp
  obtain ⟨hD6, hk8⟩ := set2e hB6' (.slice Ad n md) (.slice Bd r kd)
  have hX8 : Blk _ eb _ _ := (hk8 eb (by omega)).trans hX7
  have hY8 : Blk _ ec _ _ := (hk8 ec (by omega)).trans hY7
  have hC8 : Blk _ lo5 _ _ := (hk8 lo5 (by omega)).trans hC5
  have hb8 := Below.setCell (Below.setCell hb7 (p := ⟨lo6, 0, none⟩) b6g (.slice Ad n md)) (p := ⟨lo6, 1, none⟩) b6g (.slice Bd r kd)
  replace hinC := hinC.keep (fun b h1 h2 _ => hk8 b (by omega))
  replace hinD := hinD.keep (fun b h1 h2 _ => hk8 b (by omega))
  clear hX7 hY7 hC5 hB6' hb7 hk8
  generalize (w7.setCell ⟨lo6, 0, none⟩ (.slice Ad n md)).setCell ⟨lo6, 1, none⟩ (.slice Bd r kd) = w8 at *
  refine hK.out _ _ (show Below w1.drew.heap.size w1.drew w8 from ⟨hb8.os, hb8.tape, hb8.output, hb8.size, hb8.block⟩) ⟨⟨hX8, hY8⟩, hb8⟩ ?_
  clear hK KK q0 q1 u0 u1 L0
  try simp only [Act.put, List.setIfInBounds_toArray, List.set_cons_zero, List.set_cons_succ]
  refine SeqG.Rl.nil ?_
  replace hbd := hbd.trans (hb8.mono hbd.size)
  have hDT := hinC.2.2.2.2.2.2.1
  have hLK := hinC.2.2.2.2.2.1
  have HC8 := Lib.hid hC8
  have hKS0 := Ks.refl (fun b => loC ≤ b ∧ b < hiC) w8
  have hlo : wE.heap.size ≤ loC := by omega
  clear hinC hb8 hC8
  go_wp2
  go_loopw [7] (fun i wr => ∃ j : Nat, j ≤ r ∧ i = .int .i64 j ∧ Hid (DtS wr Bc r loC hiC) ∧ Hid (LkS2 wr Ac n loC hiC) ∧ Hid (Ks (fun b => loC ≤ b ∧ b < hiC) w8 wr) ∧ Hid (Below wE.heap.size wE wr)) (fun i _ => r - (intOf i).toNat)
  case atStart => exact ⟨0, Nat.zero_le _, rfl, Lib.hid hDT, Lib.hid hLK, Lib.hid hKS0, Lib.hid hbd⟩
  case round =>
    clear hDT hLK hKS0 hbd
    obtain ⟨j, hj, rfl, HDT, HLK, HKS, HBD⟩ := hrel
    have hC : Blk wr lo5 (enc' Ac n mc Bc r kc) 26 := (HKS.out.block lo5 HC8.out.lt (by omega)).trans HC8.out
    by_cases hlt : j < r
    · obtain ⟨g, cur, hBe, q1, q2, hg, hcur⟩ := HDT.out (by omega)
      subst hBe
      obtain ⟨y, hy⟩ := hcur j hlt
      have ej : (j : Int) < r := by omega
      have e3 : IntKind.i64.wrap ((j : Int) + 1) = ((j + 1 : Nat) : Int) := IntWalk.i64_in _ (by omega)
      have hSd : Blk wr.drew lo5 (enc' Ac n mc (some ⟨g, 0, none⟩) r kc) 26 ∧ Blk wr.drew g cur 5 := ⟨hC, hg⟩
      have L1 : ∀ w', (Blk w' lo5 (enc' Ac n mc (some ⟨g, 0, none⟩) r kc) 26 ∧ Blk w' g cur 5) → (w'.cell? ⟨lo5, 0, none⟩ = some (.slice Ac n mc) ∧ w'.cell? ⟨lo5, 1, none⟩ = some (.slice (some ⟨g, 0, none⟩) r kc)) ∧ w'.cell? ⟨g, j, none⟩ = some (.int .u8 y) := fun w' h => ⟨h.1.c2, h.2.cell _ hy⟩
      obtain ⟨q5, q6⟩ := hC.c2
      have HKD : Hid (Ks (fun b => loC ≤ b ∧ b < hiC) w8 wr.drew) := Lib.hid (HKS.out.trans (Ks.of_below (below_one' wr)))
      have HBDd : Hid (Below wE.heap.size wE wr.drew) := Lib.hid (HBD.out.trans ((below_one' wr).mono HBD.out.size))
      have HLKd : Hid (LkS2 wr.drew Ac n loC hiC) := Lib.hid (HLK.out.below (below_one' wr))
      have HCUR := Lib.hid hcur
      clear HDT HLK HKS HBD hC hg hcur
      go_wp2
      clear q5 q6
      refine Seq.wp_region_last (fun w' => Blk w' lo5 (enc' Ac n mc (some ⟨g, 0, none⟩) r kc) 26 ∧ Blk w' g cur 5) (by kernel_rfl) (by kernel_rfl) (by kernel_rfl) hSd ?_
      generalize wr.drew = wd at *
      repeat (first | (refine Seq.SeqE.skip (by rfl) ?_; (try simp only [Act.put, List.setIfInBounds_toArray, List.set_cons_zero, List.set_cons_succ])) | (refine Seq.SeqE.det ?_ (by rfl) (fun w hS => ?_) ?_; rotate_left; ((try dsimp only at hS); go_simp; (try rw [if_pos (by omega)]); with_reducible rfl); (try simp only [Act.put, List.setIfInBounds_toArray, List.set_cons_zero, List.set_cons_succ])))
      have c7 := (L1 wd hSd).2
      have u7 := hSd.2.free j
      refine Seq.SeqE.last (by rfl) (by rfl) (fun K Q' hK => ?_)
      go_simp
      refine hK.out _ _ ?_
      clear hK K
      try simp only [Act.put, List.setIfInBounds_toArray, List.set_cons_zero, List.set_cons_succ]
      clear c7 u7 L1
      have HDT9 := Lib.hid (DtS.set (k := j) (IntKind.u8.wrap (y + 1)) q1 q2 hSd.2 HCUR.out)
      have HLK9 := Lib.hid (HLKd.out.bset (o := j) (v := .int .u8 (IntKind.u8.wrap (y + 1))) hSd.2)
      have HKS9 := Lib.hid (HKD.out.trans (Ks.setCell (S := fun b => loC ≤ b ∧ b < hiC) wd g j (.int .u8 (IntKind.u8.wrap (y + 1))) ⟨q1, q2⟩))
      have HBD9 := Lib.hid (Below.setCell HBDd.out (p := ⟨g, j, none⟩) (show wE.heap.size ≤ g by omega) (.int .u8 (IntKind.u8.wrap (y + 1))))
      clear hSd
      go_wp2
      go_roundw
      case rel => exact ⟨j + 1, by omega, by go_num, HDT9, HLK9, HKS9, HBD9⟩
      case measure => simp [intOf]; omega
    · obtain rfl : r = j := by omega
      obtain ⟨q5, q6⟩ := hC.c2
      have HLK0 := HLK
      have HKS0 := HKS
      have HBD0 := HBD
      clear HDT HLK HKS HBD hC hlt
      go_wp2
      clear q5 q6
      go_loopw [8] (fun i wr => ∃ j : Nat, j ≤ n ∧ i = .int .i64 j ∧ Hid (LkS2 wr Ac n loC hiC) ∧ Hid (Ks (fun b => loC ≤ b ∧ b < hiC) w8 wr) ∧ Hid (Below wE.heap.size wE wr)) (fun i _ => n - (intOf i).toNat)
      case atStart => exact ⟨0, Nat.zero_le _, rfl, HLK0, HKS0, HBD0⟩
      case round =>
        clear HLK0 HKS0 HBD0
        obtain ⟨j, hj, rfl, HLK, HKS, HBD⟩ := hrel
        rename World => wr
        have hC : Blk wr lo5 (enc' Ac n mc Bc r kc) 26 := (HKS.out.block lo5 HC8.out.lt (by omega)).trans HC8.out
        by_cases hlt : j < n
        · obtain ⟨g, cur, hBe, q1, q2, hg, hcur⟩ := HLK.out (by omega)
          subst hBe
          obtain ⟨y, hy⟩ := hcur j hlt
          have ej : (j : Int) < n := by omega
          have e3 : IntKind.i64.wrap ((j : Int) + 1) = ((j + 1 : Nat) : Int) := IntWalk.i64_in _ (by omega)
          have hSd : Blk wr.drew lo5 (enc' (some ⟨g, 0, none⟩) n mc Bc r kc) 26 ∧ Blk wr.drew g cur 66 := ⟨hC, hg⟩
          have L1 : ∀ w', (Blk w' lo5 (enc' (some ⟨g, 0, none⟩) n mc Bc r kc) 26 ∧ Blk w' g cur 66) → (w'.cell? ⟨lo5, 0, none⟩ = some (.slice (some ⟨g, 0, none⟩) n mc) ∧ w'.cell? ⟨lo5, 1, none⟩ = some (.slice Bc r kc)) ∧ w'.cell? ⟨g, j * 2, none⟩ = some (.int .u64 y) := fun w' h => ⟨h.1.c2, h.2.cell _ hy⟩
          obtain ⟨q5, q6⟩ := hC.c2
          have HKD : Hid (Ks (fun b => loC ≤ b ∧ b < hiC) w8 wr.drew) := Lib.hid (HKS.out.trans (Ks.of_below (below_one' wr)))
          have HBDd : Hid (Below wE.heap.size wE wr.drew) := Lib.hid (HBD.out.trans ((below_one' wr).mono HBD.out.size))
          have HCUR := Lib.hid hcur
          clear HLK HKS HBD hC hg hcur
          go_wp2
          clear q5 q6
          refine Seq.wp_region_last (fun w' => Blk w' lo5 (enc' (some ⟨g, 0, none⟩) n mc Bc r kc) 26 ∧ Blk w' g cur 66) (by kernel_rfl) (by kernel_rfl) (by kernel_rfl) hSd ?_
          generalize wr.drew = wd at *
          repeat (first | (refine Seq.SeqE.skip (by rfl) ?_; (try simp only [Act.put, List.setIfInBounds_toArray, List.set_cons_zero, List.set_cons_succ])) | (refine Seq.SeqE.det ?_ (by rfl) (fun w hS => ?_) ?_; rotate_left; ((try dsimp only at hS); go_simp; (try rw [if_pos (by omega)]); with_reducible rfl); (try simp only [Act.put, List.setIfInBounds_toArray, List.set_cons_zero, List.set_cons_succ])))
          have c7 := (L1 wd hSd).2
          have u7 := hSd.2.free (j * 2)
          refine Seq.SeqE.last (by rfl) (by rfl) (fun K Q' hK => ?_)
          go_simp
          refine hK.out _ _ ?_
          clear hK K
          try simp only [Act.put, List.setIfInBounds_toArray, List.set_cons_zero, List.set_cons_succ]
          clear c7 u7 L1
          have HLK9 := Lib.hid (LkS2.set (k := j) (IntKind.u64.wrap (y + 1)) q1 q2 hSd.2 HCUR.out)
          have HKS9 := Lib.hid (HKD.out.trans (Ks.setCell (S := fun b => loC ≤ b ∧ b < hiC) wd g (j * 2) (.int .u64 (IntKind.u64.wrap (y + 1))) ⟨q1, q2⟩))
          have HBD9 := Lib.hid (Below.setCell HBDd.out (p := ⟨g, j * 2, none⟩) (show wE.heap.size ≤ g by omega) (.int .u64 (IntKind.u64.wrap (y + 1))))
          clear hSd
          go_wp2
          go_roundw
          case rel => exact ⟨j + 1, by omega, by go_num, HLK9, HKS9, HBD9⟩
          case measure => simp [intOf]; omega
        · obtain rfl : n = j := by omega
          obtain ⟨q5, q6⟩ := hC.c2
          have hDr : Blk wr lo6 (enc' Ad n md Bd r kd) 26 := (HKS.out.block lo6 hD6.lt (by omega)).trans hD6
          have hXr := HX.out.below HBD.out
          have hYr := HY.out.below HBD.out
          have hinR := hinD.keep (w' := wr) (fun b h1 h2 h3 => HKS.out.block b h3 (by omega))
          have hS : Blk wr.drew lo6 (enc' Ad n md Bd r kd) 26 ∧ Blk wr.drew eb (enc' A n m B r k) 26 ∧ Blk wr.drew ec (enc' A2 n2 m2 B2 r2 k2) 26 := ⟨hDr, hXr, hYr⟩
          have hbr : Below wr.heap.size wr wr.drew := below_one' wr
          have HIN := Lib.hid hinR
          obtain ⟨dv, hdv⟩ : ∃ dv, dv = decide (((L, D) : En) = (L2, D2)) := ⟨_, rfl⟩
          have HDV := Lib.hid hdv
          have HSAB : Hid (∀ w', Below wE.heap.size wE w' → Calls Try.prog 21 #[enagg A n m B r k, enagg A2 n2 m2 B2 r2 k2] w' (fun e w'' => e = .returned (.bool dv) ∧ Below w'.heap.size w' w'')) := Lib.hid fun w' h => by
            have := rensame_any _ _ A A2 B B2 n n2 m m2 r r2 k k2 L L2 D D2 w' (HZ.out.below h) (HZ2.out.below h) (by omega) (by omega) HBL.out HBL2.out (HD.out.below h) (HD2.out.below h) HDB.out HDB2.out
            rw [← HDV.out] at this
            exact this
          have HEAB : Hid (∀ w', Below wE.heap.size wE w' → Calls Try.prog 31 #[enagg A n m B r k, enagg A2 n2 m2 B2 r2 k2] w' (fun e w'' => e = .returned (.bool dv) ∧ Below w'.heap.size w' w'')) := Lib.hid fun w' h => by
            have := ensame_any _ _ A A2 B B2 n n2 m m2 r r2 k k2 L L2 D D2 w' (HZ.out.below h) (HZ2.out.below h) (by omega) (by omega) HBL.out HBL2.out (HD.out.below h) (HD2.out.below h) HDB.out HDB2.out
            rw [← HDV.out] at this
            exact this
          have HDA : Hid (∀ w', Below wE.heap.size wE w' → Below wr.heap.size wr w' → Calls Try.prog 21 #[enagg Ad n md Bd r kd, enagg A n m B r k] w' (fun e w'' => e = .returned (.bool true) ∧ Below w'.heap.size w' w'')) := Lib.hid fun w' h h2 => by
            have := rensame_any _ _ Ad A Bd B n n md m r r kd k L L D D w' (HIN.out.1.below h2) (HZ.out.below h) (by omega) (by omega) HBL.out HBL.out (HIN.out.2.2.1.below h2) (HD.out.below h) HDB.out HDB.out
            rw [show decide (((L, D) : En) = (L, D)) = true from decide_eq_true rfl] at this
            exact this
          have L0 : ∀ w', (Blk w' lo6 (enc' Ad n md Bd r kd) 26 ∧ Blk w' eb (enc' A n m B r k) 26 ∧ Blk w' ec (enc' A2 n2 m2 B2 r2 k2) 26) → (w'.cell? ⟨lo6, 0, none⟩ = some (.slice Ad n md) ∧ w'.cell? ⟨lo6, 1, none⟩ = some (.slice Bd r kd)) ∧ (w'.cell? ⟨eb, 0, none⟩ = some (.slice A n m) ∧ w'.cell? ⟨eb, 1, none⟩ = some (.slice B r k)) ∧ (w'.cell? ⟨ec, 0, none⟩ = some (.slice A2 n2 m2) ∧ w'.cell? ⟨ec, 1, none⟩ = some (.slice B2 r2 k2)) := fun w' h => ⟨h.1.c2, h.2.1.c2, h.2.2.c2⟩
          have e99 : (dv == dv) = true := by simp
          clear hdv hinR hDr hXr hYr hC HLK HKS hinD hD6 hX8 hY8 HC8 hlt
          go_wp2
          clear q5 q6
          refine Seq.wp_region_pair (fun o => o.dst == some 71) 15 18 (fun w' => Blk w' lo6 (enc' Ad n md Bd r kd) 26 ∧ Blk w' eb (enc' A n m B r k) 26 ∧ Blk w' ec (enc' A2 n2 m2 B2 r2 k2) 26) (by kernel_rfl) (by kernel_rfl) hS ?_
          generalize wr.drew = wd at *
          repeat (first | (refine Seq.SeqX.skip (by rfl) (by rfl) ?_; (try simp only [Act.put, List.setIfInBounds_toArray, List.set_cons_zero, List.set_cons_succ])) | (refine Seq.SeqX.det ?_ (by rfl) (by rfl) (fun w hS => ?_) ?_; rotate_left; ((try dsimp only at hS); go_simp; (try rw [if_pos (by omega)]); with_reducible rfl); (try simp only [Act.put, List.setIfInBounds_toArray, List.set_cons_zero, List.set_cons_succ])))
          refine Seq.SeqX.make (by rfl) (by rfl) (by rfl) (fun K Q' hK => ?_)
          go_simp
          go_at_call 21
          refine (HDA.out _ (HBD.out.trans (hbr.mono HBD.out.size)) hbr).mono ?_
          rintro en v1 ⟨rfl, hc1⟩
          replace hbr := hbr.trans (hc1.mono hbr.size)
          replace hS := And.intro (hS.1.below hc1) (And.intro (hS.2.1.below hc1) (hS.2.2.below hc1))
          clear hc1
          refine hK.out _ _ (hS) ?_
          clear hK K
          try simp only [Act.put, List.setIfInBounds_toArray, List.set_cons_zero, List.set_cons_succ]
          repeat (first | (refine Seq.SeqX.skip (by rfl) (by rfl) ?_; (try simp only [Act.put, List.setIfInBounds_toArray, List.set_cons_zero, List.set_cons_succ])) | (refine Seq.SeqX.det ?_ (by rfl) (by rfl) (fun w hS => ?_) ?_; rotate_left; ((try dsimp only at hS); go_simp; (try rw [if_pos (by omega)]); with_reducible rfl); (try simp only [Act.put, List.setIfInBounds_toArray, List.set_cons_zero, List.set_cons_succ])))
          refine Seq.SeqX.make (by rfl) (by rfl) (by rfl) (fun K Q' hK => ?_)
          go_simp
          go_at_call 31
          refine (HEAB.out _ (HBD.out.trans (hbr.mono HBD.out.size))).mono ?_
          rintro en v2 ⟨rfl, hc1⟩
          replace hbr := hbr.trans (hc1.mono hbr.size)
          replace hS := And.intro (hS.1.below hc1) (And.intro (hS.2.1.below hc1) (hS.2.2.below hc1))
          clear hc1
          refine hK.out _ _ (hS) ?_
          clear hK K
          try simp only [Act.put, List.setIfInBounds_toArray, List.set_cons_zero, List.set_cons_succ]
          repeat (first | (refine Seq.SeqX.skip (by rfl) (by rfl) ?_; (try simp only [Act.put, List.setIfInBounds_toArray, List.set_cons_zero, List.set_cons_succ])) | (refine Seq.SeqX.det ?_ (by rfl) (by rfl) (fun w hS => ?_) ?_; rotate_left; ((try dsimp only at hS); go_simp; (try rw [if_pos (by omega)]); with_reducible rfl); (try simp only [Act.put, List.setIfInBounds_toArray, List.set_cons_zero, List.set_cons_succ])))
          refine Seq.SeqX.make (by rfl) (by rfl) (by rfl) (fun K Q' hK => ?_)
          go_simp
          go_at_call 21
          refine (HSAB.out _ (HBD.out.trans (hbr.mono HBD.out.size))).mono ?_
          rintro en v3 ⟨rfl, hc1⟩
          replace hbr := hbr.trans (hc1.mono hbr.size)
          replace hS := And.intro (hS.1.below hc1) (And.intro (hS.2.1.below hc1) (hS.2.2.below hc1))
          clear hc1
          refine hK.out _ _ (hS) ?_
          clear hK K
          try simp only [Act.put, List.setIfInBounds_toArray, List.set_cons_zero, List.set_cons_succ]
          repeat (first | (refine Seq.SeqX.skip (by rfl) (by rfl) ?_; (try simp only [Act.put, List.setIfInBounds_toArray, List.set_cons_zero, List.set_cons_succ])) | (refine Seq.SeqX.det ?_ (by rfl) (by rfl) (fun w hS => ?_) ?_; rotate_left; ((try dsimp only at hS); go_simp; (try rw [if_pos (by omega)]); with_reducible rfl); (try simp only [Act.put, List.setIfInBounds_toArray, List.set_cons_zero, List.set_cons_succ])))
          refine Seq.SeqX.pair (by rfl) (by rfl) (by rfl) (fun K Q' hK => ?_) ?_
          · go_simp
            have hE1 := (fun (h : Below wE.heap.size wE (v3.alloc (.cells #[.slice A n m, .slice B r k, .slice A2 n2 m2, .slice B2 r2 k2] 26))) => ens_two (Blk.new v3 #[.slice A n m, .slice B r k, .slice A2 n2 m2, .slice B2 r2 k2] 26) (HZ.out.below h) HMR.out.1 HNIL.out.1 (HD.out.below h) HMR.out.2 HNIL.out.2 HDB.out (HZ2.out.below h) HMR2.out.1 HNIL2.out.1 (HD2.out.below h) HMR2.out.2 HNIL2.out.2 HDB2.out) ((HBD.out.trans (hbr.mono HBD.out.size)).alloc (HBD.out.trans (hbr.mono HBD.out.size)).size _)
            have hc1 := below_one v3 (.cells #[.slice A n m, .slice B r k, .slice A2 n2 m2, .slice B2 r2 k2] 26)
            replace hbr := hbr.trans (hc1.mono hbr.size)
            replace hS := And.intro (hS.1.below hc1) (And.intro (hS.2.1.below hc1) (hS.2.2.below hc1))
            clear hc1
            refine hK.out _ _ (hS) ?_
            clear hK K
            try simp only [Act.put, List.setIfInBounds_toArray, List.set_cons_zero, List.set_cons_succ]
            generalize v3.alloc (.cells #[.slice A n m, .slice B r k, .slice A2 n2 m2, .slice B2 r2 k2] 26) = vy at *
            generalize v3.heap.size = ga at *
            repeat (first | (refine Seq.Seq.skip (by rfl) ?_; (try simp only [Act.put, List.setIfInBounds_toArray, List.set_cons_zero, List.set_cons_succ])) | (refine Seq.Seq.det ?_ (by rfl) (fun w hS => ?_) ?_; rotate_left; ((try dsimp only at hS); go_simp; (try rw [if_pos (by omega)]); with_reducible rfl); (try simp only [Act.put, List.setIfInBounds_toArray, List.set_cons_zero, List.set_cons_succ])))
            refine Seq.Seq.make (by rfl) (by rfl) (fun K Q' hK => ?_)
            go_simp
            have hE2 := (fun (h : Below wE.heap.size wE (vy.alloc (.cells #[.slice Ad n md, .slice Bd r kd, .slice A n m, .slice B r k] 26))) (h2 : Below wr.heap.size wr (vy.alloc (.cells #[.slice Ad n md, .slice Bd r kd, .slice A n m, .slice B r k] 26))) => ens_two (Blk.new vy #[.slice Ad n md, .slice Bd r kd, .slice A n m, .slice B r k] 26) (HIN.out.1.below h2) HIN.out.2.1 HIN.out.2.2.2.2.2.2.2.1 (HIN.out.2.2.1.below h2) HIN.out.2.2.2.1 HIN.out.2.2.2.2.2.2.2.2 HDB.out (HZ.out.below h) HMR.out.1 HNIL.out.1 (HD.out.below h) HMR.out.2 HNIL.out.2 HDB.out) ((HBD.out.trans (hbr.mono HBD.out.size)).alloc (HBD.out.trans (hbr.mono HBD.out.size)).size _) (hbr.alloc hbr.size _)
            have hc1 := below_one vy (.cells #[.slice Ad n md, .slice Bd r kd, .slice A n m, .slice B r k] 26)
            replace hE1 := hE1.below hc1
            replace hbr := hbr.trans (hc1.mono hbr.size)
            replace hS := And.intro (hS.1.below hc1) (And.intro (hS.2.1.below hc1) (hS.2.2.below hc1))
            clear hc1
            refine hK.out _ _ (hS) ?_
            clear hK K
            try simp only [Act.put, List.setIfInBounds_toArray, List.set_cons_zero, List.set_cons_succ]
            generalize vy.alloc (.cells #[.slice Ad n md, .slice Bd r kd, .slice A n m, .slice B r k] 26) = vz at *
            generalize vy.heap.size = gb at *
            repeat (first | (refine Seq.Seq.skip (by rfl) ?_; (try simp only [Act.put, List.setIfInBounds_toArray, List.set_cons_zero, List.set_cons_succ])) | (refine Seq.Seq.det ?_ (by rfl) (fun w hS => ?_) ?_; rotate_left; ((try dsimp only at hS); go_simp; (try rw [if_pos (by omega)]); with_reducible rfl); (try simp only [Act.put, List.setIfInBounds_toArray, List.set_cons_zero, List.set_cons_succ])))
            refine Seq.Seq.make (by rfl) (by rfl) (fun K Q' hK => ?_)
            go_simp
            go_at_call 32
            have hall := eall_any _ _ (some ⟨ga, 0, none⟩) (some ⟨gb, 0, none⟩) 2 2 2 _ _ vz hE1 hE2 (by omega) (esm_two ⟨by have := HZ.out.1; show L.length ≤ 50; omega, HLG.out.2.1, by have := HD.out.1; show D.length ≤ 500; omega⟩ ⟨by have := HZ2.out.1; show L2.length ≤ 50; omega, HLG2.out.2.1, by have := HD2.out.1; show D2.length ≤ 500; omega⟩) (esm_two ⟨by have := HZ.out.1; show L.length ≤ 50; omega, HLG.out.2.1, by have := HD.out.1; show D.length ≤ 500; omega⟩ ⟨by have := HZ.out.1; show L.length ≤ 50; omega, HLG.out.2.1, by have := HD.out.1; show D.length ≤ 500; omega⟩)
            rw [two_dec, ← HDV.out] at hall
            unfold BPost at hall
            refine hall.mono ?_
            rintro en v4 ⟨rfl, hc1⟩
            clear hall hE1 hE2
            replace hbr := hbr.trans (hc1.mono hbr.size)
            replace hS := And.intro (hS.1.below hc1) (And.intro (hS.2.1.below hc1) (hS.2.2.below hc1))
            clear hc1
            refine hK.out _ _ (hS) ?_
            clear hK K
            try simp only [Act.put, List.setIfInBounds_toArray, List.set_cons_zero, List.set_cons_succ]
            repeat (first | (refine Seq.Seq.skip (by rfl) ?_; (try simp only [Act.put, List.setIfInBounds_toArray, List.set_cons_zero, List.set_cons_succ])) | (refine Seq.Seq.det ?_ (by rfl) (fun w hS => ?_) ?_; rotate_left; ((try dsimp only at hS); go_simp; (try rw [if_pos (by omega)]); with_reducible rfl); (try simp only [Act.put, List.setIfInBounds_toArray, List.set_cons_zero, List.set_cons_succ])))
            refine Seq.Seq.make (by rfl) (by rfl) (fun K Q' hK => ?_)
            go_simp
            go_at_call 21
            refine (HSAB.out _ (HBD.out.trans (hbr.mono HBD.out.size))).mono ?_
            rintro en v5 ⟨rfl, hc1⟩
            replace hbr := hbr.trans (hc1.mono hbr.size)
            replace hS := And.intro (hS.1.below hc1) (And.intro (hS.2.1.below hc1) (hS.2.2.below hc1))
            clear hc1
            refine hK.out _ _ (hS) ?_
            clear hK K
            try simp only [Act.put, List.setIfInBounds_toArray, List.set_cons_zero, List.set_cons_succ]
            repeat (first | (refine Seq.Seq.skip (by rfl) ?_; (try simp only [Act.put, List.setIfInBounds_toArray, List.set_cons_zero, List.set_cons_succ])) | (refine Seq.Seq.det ?_ (by rfl) (fun w hS => ?_) ?_; rotate_left; ((try dsimp only at hS); go_simp; (try rw [if_pos (by omega)]); with_reducible rfl); (try simp only [Act.put, List.setIfInBounds_toArray, List.set_cons_zero, List.set_cons_succ])))
            refine Seq.Seq.make (by rfl) (by rfl) (fun K Q' hK => ?_)
            go_simp
            go_at_call 8
            refine (live24_any _).mono ?_
            rintro en v6 ⟨rfl, hc1⟩
            replace hbr := hbr.trans (hc1.mono hbr.size)
            replace hS := And.intro (hS.1.below hc1) (And.intro (hS.2.1.below hc1) (hS.2.2.below hc1))
            clear hc1
            refine hK.out _ _ (hS) ?_
            clear hK K
            try simp only [Act.put, List.setIfInBounds_toArray, List.set_cons_zero, List.set_cons_succ]
            repeat (first | (refine Seq.Seq.skip (by rfl) ?_; (try simp only [Act.put, List.setIfInBounds_toArray, List.set_cons_zero, List.set_cons_succ])) | (refine Seq.Seq.det ?_ (by rfl) (fun w hS => ?_) ?_; rotate_left; ((try dsimp only at hS); go_simp; (try rw [if_pos (by omega)]); with_reducible rfl); (try simp only [Act.put, List.setIfInBounds_toArray, List.set_cons_zero, List.set_cons_succ])))
            refine Seq.Seq.nil ?_
            have HFIN := Lib.hid (HbE.out.trans ((HBD.out.trans (hbr.mono HBD.out.size)).mono HbE.out.size))
            clear L0 hS hbr
            go_wp2
            go_ret
            exact ⟨rfl, HFIN.out⟩
          · simp only [Seq.swp, Seq.making, Bool.false_eq_true, if_false, if_true, reduceIte]
            repeat (first | (refine Seq.Seq.skip (by rfl) ?_; (try simp only [Act.put, List.setIfInBounds_toArray, List.set_cons_zero, List.set_cons_succ])) | (refine Seq.Seq.det ?_ (by rfl) (fun w hS => ?_) ?_; rotate_left; ((try dsimp only at hS); go_simp; (try rw [if_pos (by omega)]); with_reducible rfl); (try simp only [Act.put, List.setIfInBounds_toArray, List.set_cons_zero, List.set_cons_succ])))
            refine Seq.Seq.make (by rfl) (by rfl) (fun K Q' hK => ?_)
            go_simp
            have hE2 := (fun (h : Below wE.heap.size wE (v3.alloc (.cells #[.slice Ad n md, .slice Bd r kd, .slice A n m, .slice B r k] 26))) (h2 : Below wr.heap.size wr (v3.alloc (.cells #[.slice Ad n md, .slice Bd r kd, .slice A n m, .slice B r k] 26))) => ens_two (Blk.new v3 #[.slice Ad n md, .slice Bd r kd, .slice A n m, .slice B r k] 26) (HIN.out.1.below h2) HIN.out.2.1 HIN.out.2.2.2.2.2.2.2.1 (HIN.out.2.2.1.below h2) HIN.out.2.2.2.1 HIN.out.2.2.2.2.2.2.2.2 HDB.out (HZ.out.below h) HMR.out.1 HNIL.out.1 (HD.out.below h) HMR.out.2 HNIL.out.2 HDB.out) ((HBD.out.trans (hbr.mono HBD.out.size)).alloc (HBD.out.trans (hbr.mono HBD.out.size)).size _) (hbr.alloc hbr.size _)
            have hc1 := below_one v3 (.cells #[.slice Ad n md, .slice Bd r kd, .slice A n m, .slice B r k] 26)
            replace hbr := hbr.trans (hc1.mono hbr.size)
            replace hS := And.intro (hS.1.below hc1) (And.intro (hS.2.1.below hc1) (hS.2.2.below hc1))
            clear hc1
            refine hK.out _ _ (hS) ?_
            clear hK K
            try simp only [Act.put, List.setIfInBounds_toArray, List.set_cons_zero, List.set_cons_succ]
            generalize v3.alloc (.cells #[.slice Ad n md, .slice Bd r kd, .slice A n m, .slice B r k] 26) = vy at *
            generalize v3.heap.size = gb at *
            repeat (first | (refine Seq.Seq.skip (by rfl) ?_; (try simp only [Act.put, List.setIfInBounds_toArray, List.set_cons_zero, List.set_cons_succ])) | (refine Seq.Seq.det ?_ (by rfl) (fun w hS => ?_) ?_; rotate_left; ((try dsimp only at hS); go_simp; (try rw [if_pos (by omega)]); with_reducible rfl); (try simp only [Act.put, List.setIfInBounds_toArray, List.set_cons_zero, List.set_cons_succ])))
            refine Seq.Seq.make (by rfl) (by rfl) (fun K Q' hK => ?_)
            go_simp
            have hE1 := (fun (h : Below wE.heap.size wE (vy.alloc (.cells #[.slice A n m, .slice B r k, .slice A2 n2 m2, .slice B2 r2 k2] 26))) => ens_two (Blk.new vy #[.slice A n m, .slice B r k, .slice A2 n2 m2, .slice B2 r2 k2] 26) (HZ.out.below h) HMR.out.1 HNIL.out.1 (HD.out.below h) HMR.out.2 HNIL.out.2 HDB.out (HZ2.out.below h) HMR2.out.1 HNIL2.out.1 (HD2.out.below h) HMR2.out.2 HNIL2.out.2 HDB2.out) ((HBD.out.trans (hbr.mono HBD.out.size)).alloc (HBD.out.trans (hbr.mono HBD.out.size)).size _)
            have hc1 := below_one vy (.cells #[.slice A n m, .slice B r k, .slice A2 n2 m2, .slice B2 r2 k2] 26)
            replace hE2 := hE2.below hc1
            replace hbr := hbr.trans (hc1.mono hbr.size)
            replace hS := And.intro (hS.1.below hc1) (And.intro (hS.2.1.below hc1) (hS.2.2.below hc1))
            clear hc1
            refine hK.out _ _ (hS) ?_
            clear hK K
            try simp only [Act.put, List.setIfInBounds_toArray, List.set_cons_zero, List.set_cons_succ]
            generalize vy.alloc (.cells #[.slice A n m, .slice B r k, .slice A2 n2 m2, .slice B2 r2 k2] 26) = vz at *
            generalize vy.heap.size = ga at *
            repeat (first | (refine Seq.Seq.skip (by rfl) ?_; (try simp only [Act.put, List.setIfInBounds_toArray, List.set_cons_zero, List.set_cons_succ])) | (refine Seq.Seq.det ?_ (by rfl) (fun w hS => ?_) ?_; rotate_left; ((try dsimp only at hS); go_simp; (try rw [if_pos (by omega)]); with_reducible rfl); (try simp only [Act.put, List.setIfInBounds_toArray, List.set_cons_zero, List.set_cons_succ])))
            refine Seq.Seq.make (by rfl) (by rfl) (fun K Q' hK => ?_)
            go_simp
            go_at_call 32
            have hall := eall_any _ _ (some ⟨ga, 0, none⟩) (some ⟨gb, 0, none⟩) 2 2 2 _ _ vz hE1 hE2 (by omega) (esm_two ⟨by have := HZ.out.1; show L.length ≤ 50; omega, HLG.out.2.1, by have := HD.out.1; show D.length ≤ 500; omega⟩ ⟨by have := HZ2.out.1; show L2.length ≤ 50; omega, HLG2.out.2.1, by have := HD2.out.1; show D2.length ≤ 500; omega⟩) (esm_two ⟨by have := HZ.out.1; show L.length ≤ 50; omega, HLG.out.2.1, by have := HD.out.1; show D.length ≤ 500; omega⟩ ⟨by have := HZ.out.1; show L.length ≤ 50; omega, HLG.out.2.1, by have := HD.out.1; show D.length ≤ 500; omega⟩)
            rw [two_dec, ← HDV.out] at hall
            unfold BPost at hall
            refine hall.mono ?_
            rintro en v4 ⟨rfl, hc1⟩
            clear hall hE1 hE2
            replace hbr := hbr.trans (hc1.mono hbr.size)
            replace hS := And.intro (hS.1.below hc1) (And.intro (hS.2.1.below hc1) (hS.2.2.below hc1))
            clear hc1
            refine hK.out _ _ (hS) ?_
            clear hK K
            try simp only [Act.put, List.setIfInBounds_toArray, List.set_cons_zero, List.set_cons_succ]
            repeat (first | (refine Seq.Seq.skip (by rfl) ?_; (try simp only [Act.put, List.setIfInBounds_toArray, List.set_cons_zero, List.set_cons_succ])) | (refine Seq.Seq.det ?_ (by rfl) (fun w hS => ?_) ?_; rotate_left; ((try dsimp only at hS); go_simp; (try rw [if_pos (by omega)]); with_reducible rfl); (try simp only [Act.put, List.setIfInBounds_toArray, List.set_cons_zero, List.set_cons_succ])))
            refine Seq.Seq.make (by rfl) (by rfl) (fun K Q' hK => ?_)
            go_simp
            go_at_call 21
            refine (HSAB.out _ (HBD.out.trans (hbr.mono HBD.out.size))).mono ?_
            rintro en v5 ⟨rfl, hc1⟩
            replace hbr := hbr.trans (hc1.mono hbr.size)
            replace hS := And.intro (hS.1.below hc1) (And.intro (hS.2.1.below hc1) (hS.2.2.below hc1))
            clear hc1
            refine hK.out _ _ (hS) ?_
            clear hK K
            try simp only [Act.put, List.setIfInBounds_toArray, List.set_cons_zero, List.set_cons_succ]
            repeat (first | (refine Seq.Seq.skip (by rfl) ?_; (try simp only [Act.put, List.setIfInBounds_toArray, List.set_cons_zero, List.set_cons_succ])) | (refine Seq.Seq.det ?_ (by rfl) (fun w hS => ?_) ?_; rotate_left; ((try dsimp only at hS); go_simp; (try rw [if_pos (by omega)]); with_reducible rfl); (try simp only [Act.put, List.setIfInBounds_toArray, List.set_cons_zero, List.set_cons_succ])))
            refine Seq.Seq.make (by rfl) (by rfl) (fun K Q' hK => ?_)
            go_simp
            go_at_call 8
            refine (live24_any _).mono ?_
            rintro en v6 ⟨rfl, hc1⟩
            replace hbr := hbr.trans (hc1.mono hbr.size)
            replace hS := And.intro (hS.1.below hc1) (And.intro (hS.2.1.below hc1) (hS.2.2.below hc1))
            clear hc1
            refine hK.out _ _ (hS) ?_
            clear hK K
            try simp only [Act.put, List.setIfInBounds_toArray, List.set_cons_zero, List.set_cons_succ]
            repeat (first | (refine Seq.Seq.skip (by rfl) ?_; (try simp only [Act.put, List.setIfInBounds_toArray, List.set_cons_zero, List.set_cons_succ])) | (refine Seq.Seq.det ?_ (by rfl) (fun w hS => ?_) ?_; rotate_left; ((try dsimp only at hS); go_simp; (try rw [if_pos (by omega)]); with_reducible rfl); (try simp only [Act.put, List.setIfInBounds_toArray, List.set_cons_zero, List.set_cons_succ])))
            refine Seq.Seq.nil ?_
            have HFIN := Lib.hid (HbE.out.trans ((HBD.out.trans (hbr.mono HBD.out.size)).mono HbE.out.size))
            clear L0 hS hbr
            go_wp2
            go_ret
            exact ⟨rfl, HFIN.out⟩

set_option maxRecDepth 100000 in
theorem lifted (os : Os) (started : os.Started) (H : Type) (enc : TypeId × Value → H) :
    ReturnsInHanded {} Try.checked os 6 .any (Rows.entryCopiesSpec.pre6 enc Try.prog Try.f6 Rows.entryCopiesRow.domain false) (Rows.entryCopiesSpec.post enc Try.prog Try.f6 false true false false) := by
  refine returnsInHanded_of_change (C := Try.checked) own started (by kernel_rfl) Try.func6
    (ChangeSpec.witness6 (enc := enc) (C := Try.checked) false ⟨#[], #[.agg #[.slice none 0 0, .slice none 0 0], .agg #[.slice none 0 0, .slice none 0 0]], []⟩ 8 (by kernel_rfl) (by kernel_rfl) (by kernel_rfl) (by kernel_rfl)) ?_
  intro W base args ds gs before hval0 hW hcnd _
  have hval : ∀ (j : Nat) t v, Try.f6.params[j]? = some t → args[j]? = some v → Value.okWide Try.prog W .any base t v := hval0
  have hW' := hW
  obtain ⟨p, q, hA0, hV, rfl, hfz, hnd⟩ := hW
  have hA : DataW.TrodAll enc Try.prog W 0 (fun _ => true) true Try.f6.params.toList args.toList ds p := hA0
  rw [Try.params6] at hA hval
  obtain ⟨v0, vs0, d0, ds0, p0, q0, hargs, rfl, rfl, h0, r0⟩ := trodAll_cons hA
  obtain ⟨v1, vs1, d1, ds1, p1, q1, rfl, rfl, rfl, h1, r1⟩ := trodAll_cons r0
  obtain ⟨rfl, rfl, rfl⟩ := trodAll_nil r1
  obtain rfl : args = #[v0, v1] := by cases args; simp_all
  obtain ⟨rfl, rfl⟩ := trodVars_none hV
  have lt0 : ∀ x ∈ p0, x.block < W.heap.size := by obtain ⟨m, hm⟩ := h0; exact DataW.trod_lt m _ _ _ hm
  have lt1 : ∀ x ∈ p1, x.block < W.heap.size := by obtain ⟨m, hm⟩ := h1; exact DataW.trod_lt m _ _ _ hm
  clear hA0 hval0
  refine (walk enc W base v0 d0 p0 (hval 0 26 v0 rfl rfl) h0 v1 d1 p1 (hval 1 26 v1 rfl rfl) h1).mono fun e W' ⟨he, bel⟩ => ?_
  subst he
  exact ⟨_, rfl, _, _, _, [], _, [], hW', trodAll_mk1 (shut_bool Try.underlying4 _), (trodAll_cons_mk (Below.trod laidOut (by kernel_rfl) (of_decide_eq_true (by kernel_rfl)) h0 bel lt0) (trodAll_cons_mk (Below.trod laidOut (by kernel_rfl) (of_decide_eq_true (by kernel_rfl)) h1 bel lt1) trodAll_mk0)), rfl, bel.frame _, fun h => by cases h⟩

theorem over : Rows.entryCopiesRow.holds Try.pinned (OpenSpec.ofChange Rows.entryCopiesSpec) :=
  OpenClaim.holds_of_wide 6 Try.f6 rfl rfl rfl rfl rfl rfl rfl ⟨rfl, rfl, rfl, rfl, rfl⟩ rfl rfl rfl rfl rfl (by kernel_rfl) Try.func6 (by kernel_rfl)
    (of_decide_eq_true (by kernel_rfl)) (by unfold Func.isWrapper; first | (rw [if_pos (by decide +kernel)]; kernel_rfl) | (rw [if_neg (by decide +kernel)]; exact ⟨rfl, rfl⟩))
    (fun os started H enc _ => lifted os started H enc)

/-- THE STATEMENT. -/
theorem proved : Rows.EntryCopiesSaid := over
#print axioms proved
end Go.Proofs.Ytoeedhdckccajaa.entryCopies
