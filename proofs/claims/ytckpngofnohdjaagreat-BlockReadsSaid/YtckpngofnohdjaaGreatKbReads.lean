/- BlockReads: called with any bytes and any int, the law returns true; no condition. -/
import Derived.Test.YtckpngofnohdjaaGreatRows
import Derived.Test.YtckpngofnohdjaaGreatBlkH
import Derived.Test.YtckpngofnohdjaaGreatK18
import Derived.Test.YtckpngofnohdjaaGreatK1
import Derived.ProofKit
import Derived.OpenShut
import Derived.ShutString
import Derived.ChangeOld
namespace Go.Proofs.YtckpngofnohdjaaGreat.blockReads
open Go.ChangeShapes Go.WideShapes Go.ChangeAt Go.RowKit
open Go.ChangeMaps (open_string shut_string)
set_option linter.unusedVariables false

theorem own : ownKnob Tryz.prog.godebug = none := by kernel_rfl
theorem laidOut : laidOutB Tryz.prog = true := by kernel_rfl
open Cur Mem
attribute [local go_sem] Oper.semAt_some
set_option maxRecDepth 100000


def S2 (cb db : Nat) (s : Value) (p1 c1 q1 p2 c2 q2 : Int) (w' : World) : Prop :=
  Blk w' cb (cvs s p1 c1 q1) 31 ∧ Blk w' db (cvs s p2 c2 q2) 31
theorem S2.below {cb db : Nat} {s : Value} {p1 c1 q1 p2 c2 q2 : Int} {w' w'' : World} (h : S2 cb db s p1 c1 q1 p2 c2 q2 w') (hb : Below w'.heap.size w' w'') : S2 cb db s p1 c1 q1 p2 c2 q2 w'' :=
  ⟨h.1.below hb, h.2.below hb⟩
theorem own_is {k : Nat} {z l : List Int} {most p' c' q' : Int} (h : St [] k (bk z most 0) 0 0 0 l p' c' q') : ownf z (bk z most 0) = (decide (c' = 0) && decide (piece z 0 p'.toNat = bkb l)) := by
  obtain ⟨e1, e2, e3, e4⟩ := h.get
  unfold ownf
  rw [← e1]
  by_cases hc : c' = 0
  · rw [← e3, ← e4, if_pos hc]
  · rw [decide_eq_false hc]
    rfl
theorem own_is' {k : Nat} {z l : List Int} {most p' c' q' : Int} (h : St [] k (bk z most 0) 0 0 0 l p' c' q') : ownf z (bk z most 0) = (decide (c' = 0) && decide (piece z (0 : Int).toNat p'.toNat = bkb l)) := own_is h



set_option maxHeartbeats 8000000 in
theorem walk {H : Type} (enc : TypeId × Value → H) (w : World) (base : Nat) (v0 : Value) (d0 : DataW H) (p0 : List MemPlace) (g0 : Value.okWide Tryz.prog w .any base 22 v0) (h0 : DataW.Trod enc Tryz.prog w 0 (fun _ => true) true 22 v0 d0 p0) (v1 : Value) (d1 : DataW H) (p1 : List MemPlace) (g1 : Value.okWide Tryz.prog w .any base 3 v1) (h1 : DataW.Trod enc Tryz.prog w 0 (fun _ => true) true 3 v1 d1 p1) :
    Calls Tryz.prog 3 #[v0, v1] w fun e w' => e = .returned (.bool true) ∧ Below w.heap.size w w' := by
  obtain ⟨a, n, m, z, rfl, hnm, hz, hby0, hnil⟩ := open_bytes g0 h0
  obtain ⟨m0, rfl, t0, t1⟩ := open_i64 g1 h1
  clear g0 h0 g1 h1 t0 t1
  have hbd := Below.refl w.heap.size w
  by_cases h200 : 200 < n
  · clear hz hby0 hnil
    have hn : (200 : Int) < (n : Int) := by omega
    go_enter Tryz.func3, Tryz.ntmps3
    go_wp2_with fail
    refine (live16_any _).mono ?_
    rintro e w15 ⟨rfl, hb15⟩
    replace hbd := hbd.trans (hb15.mono hbd.size)
    have HB := Lib.hid hbd
    clear hbd hb15
    go_wp2
    go_ret
    exact ⟨rfl, HB.out⟩
  have hn : ¬ (200 : Int) < (n : Int) := by omega
  have hn2 : n ≤ 200 := by omega
  have HZ := Lib.hid hz
  have HBY := Lib.hid hby0
  have HNIL := Lib.hid hnil
  obtain ⟨mo, hmo⟩ : ∃ mo, mo = min m0 200 := ⟨_, rfl⟩
  have hmo2 : mo ≤ 200 := by omega
  clear h200 hz hby0 hnil
  go_enter Tryz.func3, Tryz.ntmps3
  go_upto_region 4 with (fail)
  rw [← hmo]
  clear hmo
  go_wp2_with fail
  refine (new_any a n m _ hnm).mono ?_
  rintro e w1 ⟨rfl, hb1, hsz1, hr⟩
  go_wp2_with fail
  refine (new_any a n m _ hnm).mono ?_
  rintro e w2 ⟨rfl, hb2, hsz2, hs⟩
  replace hr := hr.below hb2
  replace hbd := (hbd.trans (hb1.mono hbd.size)).trans (hb2.mono (hbd.trans (hb1.mono hbd.size)).size)
  obtain ⟨rb, hrb⟩ : ∃ rb, rb = w.heap.size := ⟨_, rfl⟩
  obtain ⟨sb, hsb⟩ : ∃ sb, sb = w1.heap.size := ⟨_, rfl⟩
  rw [← hrb] at hr ⊢
  rw [← hsb] at hs ⊢
  have hrs : rb < sb := by omega
  have hrw : w.heap.size ≤ rb := by omega
  clear hb1 hb2 hsz1 hsz2 hrb hsb
  -- the strict way
  have hR := kRead_any rb a n n z 0 0 0 mo w2 hr (HZ.out.below hbd) (Int.le_refl _) (by omega) (Nat.le_refl _) (by omega) HBY.out (by omega) (fun _ => rfl)
  unfold KrdPost at hR
  go_wp2_with fail
  with_reducible refine hR.mono ?_
  rintro e w3 ⟨vp, l, p1', c1', q1', rfl, hop, hlb, hll, hk3, hr3, hst3⟩
  replace hs := hs.kp hk3 (by omega)
  replace hbd := Kp.below hbd (Nat.le_refl _) hk3 hrw
  obtain ⟨Ap, mp, rfl, hbp, _, hcp⟩ := hop.parts
  have hr := hr3
  have HS3 := Lib.hid hst3
  have HLB := Lib.hid hlb
  clear hR hop hk3 hr3 hst3 hlb
  have hD := rread16_any a n m z mo w3 (HZ.out.below hbd) HNIL.out hnm (by omega) HBY.out (by omega)
  unfold RrPost at hD
  go_wp2_with fail
  with_reducible refine hD.mono ?_
  rintro e w4 ⟨Aq, kq, mq, lq, p1, c1, q1, rfl, hb4, hst4, hbq, _⟩
  obtain ⟨rfl, rfl, rfl, hp1⟩ := hst4.det HS3.out
  have HG1 := Lib.hid hst4.get
  have HP1 := Lib.hid hp1
  replace hr := hr.below hb4
  replace hs := hs.below hb4
  replace hbp := hbp.below hb4
  replace hbd := hbd.trans (hb4.mono hbd.size)
  have hbA := below_one w4 (.cells (cvs (.slice a n m) p1 c1 q1) 31)
  have hC1 := Blk.new w4 (cvs (.slice a n m) p1 c1 q1) 31
  have hl4 := hs.lt
  replace hr := hr.below hbA
  replace hs := hs.below hbA
  replace hbp := hbp.below hbA
  replace hbq := hbq.below hbA
  replace hbd := hbd.trans (hbA.mono hbd.size)
  clear hD hb4 hbA hst4 hp1
  go_upto_region 7 with (fail)
  generalize w4.alloc (.cells (cvs (.slice a n m) p1 c1 q1) 31) = w5 at *
  generalize w4.heap.size = cb at *
  -- the loose way
  have hR := kReadLoose_any sb a n n z 0 0 0 mo w5 hs (HZ.out.below hbd) (Int.le_refl _) (by omega) (Nat.le_refl _) (by omega) HBY.out (by omega) (fun _ => rfl)
  unfold KRlPost at hR
  go_wp2_with fail
  with_reducible refine hR.mono ?_
  rintro e w6 ⟨vx, lx, p2', c2', q2', rfl, hox, hlb, hll2, hk6, hs6, hst6⟩
  rw [← own_is' hst6]
  replace hr := hr.kp hk6 (by omega)
  replace hC1 := blk_kp hC1 hk6 (by omega)
  replace hbp := hbp.kp hs (by simp) hk6
  replace hbq := hbq.kp hs (by simp) hk6
  replace hbd := Kp.below hbd (Nat.le_refl _) hk6 (by omega)
  obtain ⟨Ax, mx, rfl, hbx, _, hcx⟩ := hox.parts
  have hs := hs6
  have HS6 := Lib.hid hst6
  have HLBX := Lib.hid hlb
  clear hR hox hk6 hs6 hst6 hlb
  have hD := rloose16_any a n m z mo w6 (HZ.out.below hbd) HNIL.out hnm (by omega) HBY.out (by omega)
  unfold RlPost at hD
  go_wp2_with fail
  with_reducible refine hD.mono ?_
  rintro e w7 ⟨Ay, ky, my, ly, p2, c2, q2, rfl, hb7, hst7, hby, _⟩
  rw [← own_is hst7]
  obtain ⟨rfl, rfl, rfl, hp2⟩ := hst7.det HS6.out
  have HG2 := Lib.hid hst7.get
  have HP2 := Lib.hid hp2
  replace hr := hr.below hb7
  replace hs := hs.below hb7
  replace hbp := hbp.below hb7
  replace hbq := hbq.below hb7
  replace hbx := hbx.below hb7
  replace hC1 := hC1.below hb7
  replace hbd := hbd.trans (hb7.mono hbd.size)
  have hbA := below_one w7 (.cells (cvs (.slice a n m) p2 c2 q2) 31)
  have hC2 := Blk.new w7 (cvs (.slice a n m) p2 c2 q2) 31
  replace hr := hr.below hbA
  replace hs := hs.below hbA
  replace hbp := hbp.below hbA
  replace hbq := hbq.below hbA
  replace hbx := hbx.below hbA
  replace hby := hby.below hbA
  replace hC1 := hC1.below hbA
  replace hbd := hbd.trans (hbA.mono hbd.size)
  clear hD hb7 hbA hst7 hp2 HS3 HS6
  obtain ⟨ow, how⟩ : ∃ ow, ow = ownf z (bk z mo 0) := ⟨_, rfl⟩
  rw [← how]
  have HOW := Lib.hid how
  clear how
  go_upto_region 9 with (fail)
  generalize w7.alloc (.cells (cvs (.slice a n m) p2 c2 q2) 31) = w8 at *
  generalize w7.heap.size = db at *
  have L1 : ∀ w', S2 cb db (.slice a n m) p1 c1 q1 p2 c2 q2 w' → w'.cell? ⟨cb, 1, none⟩ = some (.int .i64 p1) ∧ w'.cell? ⟨cb, 2, none⟩ = some (.int .i64 c1) ∧ w'.cell? ⟨cb, 3, none⟩ = some (.int .i64 q1) := fun w' h => h.1.c4.2
  have L2 : ∀ w', S2 cb db (.slice a n m) p1 c1 q1 p2 c2 q2 w' → w'.cell? ⟨db, 1, none⟩ = some (.int .i64 p2) ∧ w'.cell? ⟨db, 2, none⟩ = some (.int .i64 c2) ∧ w'.cell? ⟨db, 3, none⟩ = some (.int .i64 q2) := fun w' h => h.2.c4.2
  have hS : S2 cb db (.slice a n m) p1 c1 q1 p2 c2 q2 w8.drew := ⟨hC1, hC2⟩
  replace hbd := hbd.trans ((below_one' _).mono hbd.size)
  have hdr : ∀ w' : World, Below w'.heap.size w' w'.drew := below_one'
  replace hr := hr.below (hdr _)
  replace hs := hs.below (hdr _)
  replace hbp := hbp.below (hdr _)
  replace hbq := hbq.below (hdr _)
  replace hbx := hbx.below (hdr _)
  replace hby := hby.below (hdr _)
  clear hC1 hC2 hdr
  refine Seq.wp_region_seq (S2 cb db (.slice a n m) p1 c1 q1 p2 c2 q2) (by kernel_rfl) (by kernel_rfl) hS ?_
  have hlb1 := HLB.out
  have hlb2 := HLBX.out
  repeat (first | (refine Seq.Seq.skip (by rfl) ?_; (try simp only [Act.put, List.setIfInBounds_toArray, List.set_cons_zero, List.set_cons_succ])) | (refine Seq.Seq.det ?_ (by rfl) (fun w hS => ?_) ?_; rotate_left; ((try dsimp only at hS); go_simp; (try rw [if_pos (by omega)]); with_reducible rfl); (try simp only [Act.put, List.setIfInBounds_toArray, List.set_cons_zero, List.set_cons_succ])))
  refine Seq.Seq.make (by rfl) (by rfl) (fun K Q' hK => ?_)
  go_simp
  go_at_call 10
  refine (bsame_any _ _ _ _ _ _ (lq) (lq) _ (hbp) (hbq) (by assumption) (by assumption)).mono ?_
  rintro e w' ⟨rfl, rfl⟩
  rw [decide_eq_true (rfl : lq = lq)]
  refine hK.out _ _ (hS) ?_
  clear hK K
  try simp only [Act.put, List.setIfInBounds_toArray, List.set_cons_zero, List.set_cons_succ]
  repeat (first | (refine Seq.Seq.skip (by rfl) ?_; (try simp only [Act.put, List.setIfInBounds_toArray, List.set_cons_zero, List.set_cons_succ])) | (refine Seq.Seq.det ?_ (by rfl) (fun w hS => ?_) ?_; rotate_left; ((try dsimp only at hS); go_simp; (try rw [if_pos (by omega)]); with_reducible rfl); (try simp only [Act.put, List.setIfInBounds_toArray, List.set_cons_zero, List.set_cons_succ])))
  refine Seq.Seq.make (by rfl) (by rfl) (fun K Q' hK => ?_)
  go_simp
  go_at_call 11
  refine (fault_any _ _ _ _ _ _ (by exact hr)).mono ?_
  rintro e w11 ⟨rfl, hb11⟩
  replace hr := hr.below hb11
  replace hs := hs.below hb11
  replace hbd := hbd.trans (hb11.mono hbd.size)
  replace hS := hS.below hb11
  replace hbp := hbp.below hb11
  replace hbq := hbq.below hb11
  replace hbx := hbx.below hb11
  replace hby := hby.below hb11
  refine hK.out _ _ (hS) ?_
  clear hK K
  try simp only [Act.put, List.setIfInBounds_toArray, List.set_cons_zero, List.set_cons_succ]
  clear hb11
  repeat (first | (refine Seq.Seq.skip (by rfl) ?_; (try simp only [Act.put, List.setIfInBounds_toArray, List.set_cons_zero, List.set_cons_succ])) | (refine Seq.Seq.det ?_ (by rfl) (fun w hS => ?_) ?_; rotate_left; ((try dsimp only at hS); go_simp; (try rw [if_pos (by omega)]); with_reducible rfl); (try simp only [Act.put, List.setIfInBounds_toArray, List.set_cons_zero, List.set_cons_succ])))
  refine Seq.Seq.make (by rfl) (by rfl) (fun K Q' hK => ?_)
  go_simp
  go_at_call 10
  refine (bsame_any _ _ _ _ _ _ (ly) (ly) _ (hbx) (hby) (by assumption) (by assumption)).mono ?_
  rintro e w' ⟨rfl, rfl⟩
  rw [decide_eq_true (rfl : ly = ly)]
  refine hK.out _ _ (hS) ?_
  clear hK K
  try simp only [Act.put, List.setIfInBounds_toArray, List.set_cons_zero, List.set_cons_succ]
  repeat (first | (refine Seq.Seq.skip (by rfl) ?_; (try simp only [Act.put, List.setIfInBounds_toArray, List.set_cons_zero, List.set_cons_succ])) | (refine Seq.Seq.det ?_ (by rfl) (fun w hS => ?_) ?_; rotate_left; ((try dsimp only at hS); go_simp; (try rw [if_pos (by omega)]); with_reducible rfl); (try simp only [Act.put, List.setIfInBounds_toArray, List.set_cons_zero, List.set_cons_succ])))
  refine Seq.Seq.make (by rfl) (by rfl) (fun K Q' hK => ?_)
  go_simp
  go_at_call 11
  refine (fault_any _ _ _ _ _ _ (by exact hs)).mono ?_
  rintro e w11 ⟨rfl, hb11⟩
  replace hr := hr.below hb11
  replace hs := hs.below hb11
  replace hbd := hbd.trans (hb11.mono hbd.size)
  replace hS := hS.below hb11
  replace hbp := hbp.below hb11
  replace hbq := hbq.below hb11
  replace hbx := hbx.below hb11
  replace hby := hby.below hb11
  refine hK.out _ _ (hS) ?_
  clear hK K
  try simp only [Act.put, List.setIfInBounds_toArray, List.set_cons_zero, List.set_cons_succ]
  clear hb11
  repeat (first | (refine Seq.Seq.skip (by rfl) ?_; (try simp only [Act.put, List.setIfInBounds_toArray, List.set_cons_zero, List.set_cons_succ])) | (refine Seq.Seq.det ?_ (by rfl) (fun w hS => ?_) ?_; rotate_left; ((try dsimp only at hS); go_simp; (try rw [if_pos (by omega)]); with_reducible rfl); (try simp only [Act.put, List.setIfInBounds_toArray, List.set_cons_zero, List.set_cons_succ])))
  refine Seq.Seq.nil ?_
  clear hbp hbx
  -- the two that need no reader
  have hG := kget_any a n m mo (HZ.out.below hbd) hnm (by omega) HBY.out (by omega)
  unfold KGetPost at hG
  rw [← HG1.out.1, ← HG1.out.2.1, ← HG1.out.2.2.1, ← HG1.out.2.2.2] at hG
  obtain ⟨P1, hP1⟩ : ∃ P1, P1 = (if c1 = 0 then p1 else 0) := ⟨_, rfl⟩
  rw [← hP1] at hG
  have HQ1 := Lib.hid hP1
  clear hP1
  go_upto_region 11 with (fail)
  go_wp2_with fail
  with_reducible refine hG.mono ?_
  rintro e w12 ⟨vg, rfl, hog, hb12, _, _⟩
  obtain ⟨Ag, mg, rfl, hbg, _, _⟩ := hog.parts
  replace hr := hr.below hb12
  replace hs := hs.below hb12
  replace hS := hS.below hb12
  replace hbq := hbq.below hb12
  replace hby := hby.below hb12
  replace hbd := hbd.trans (hb12.mono hbd.size)
  have hbA := below_one w12 (.cells #[.int .i64 c1, .int .i64 q1] 29)
  have hX1 := Blk.new w12 #[.int .i64 c1, .int .i64 q1] 29
  replace hr := hr.below hbA
  replace hs := hs.below hbA
  replace hS := hS.below hbA
  replace hbq := hbq.below hbA
  replace hby := hby.below hbA
  replace hbg := hbg.below hbA
  replace hbd := hbd.trans (hbA.mono hbd.size)
  clear hG hb12 hbA hog
  have hG := kgetloose_any a n m mo (HZ.out.below hbd) hnm (by omega) HBY.out (by omega)
  unfold KGlPost at hG
  rw [← HOW.out, ← HG2.out.1, ← HG2.out.2.1, ← HG2.out.2.2.1, ← HG2.out.2.2.2] at hG
  obtain ⟨P2, hP2⟩ : ∃ P2, P2 = (if c2 = 0 then p2 else 0) := ⟨_, rfl⟩
  rw [← hP2] at hG
  have HQ2 := Lib.hid hP2
  clear hP2
  go_upto_region 12 with (fail)
  generalize w12.alloc (.cells #[.int .i64 c1, .int .i64 q1] 29) = w13 at *
  generalize w12.heap.size = xb at *
  go_wp2_with fail
  with_reducible refine hG.mono ?_
  rintro e w14 ⟨vh, rfl, hoh, hb14, _, _⟩
  obtain ⟨Ah, mh, rfl, hbh, _, _⟩ := hoh.parts
  replace hr := hr.below hb14
  replace hs := hs.below hb14
  replace hS := hS.below hb14
  replace hbq := hbq.below hb14
  replace hby := hby.below hb14
  replace hbg := hbg.below hb14
  replace hX1 := hX1.below hb14
  replace hbd := hbd.trans (hb14.mono hbd.size)
  have hbA := below_one w14 (.cells #[.int .i64 c2, .int .i64 q2] 29)
  have hX2 := Blk.new w14 #[.int .i64 c2, .int .i64 q2] 29
  replace hr := hr.below hbA
  replace hs := hs.below hbA
  replace hS := hS.below hbA
  replace hbq := hbq.below hbA
  replace hby := hby.below hbA
  replace hbg := hbg.below hbA
  replace hbh := hbh.below hbA
  replace hX1 := hX1.below hbA
  replace hbd := hbd.trans (hbA.mono hbd.size)
  clear hG hb14 hbA hoh HG1 HG2 HOW HZ
  go_upto_region 13 with (fail)
  generalize w14.alloc (.cells #[.int .i64 c2, .int .i64 q2] 29) = w15 at *
  generalize w14.heap.size = yb at *
  obtain ⟨x0, x1⟩ := hX1.c2
  obtain ⟨y0, y1⟩ := hX2.c2
  obtain ⟨_, u1, u2, u3⟩ := hS.1.c4
  obtain ⟨_, v1, v2, v3⟩ := hS.2.c4
  clear hX1 hX2
  go_wp2_with fail
  refine (bsame_any _ _ _ _ _ _ lq lq _ hbg hbq hlb1 hlb1).mono ?_
  rintro e w' ⟨rfl, rfl⟩
  rw [decide_eq_true (rfl : lq = lq)]
  clear hbg hbq
  go_wp2_with fail
  refine (bsame_any _ _ _ _ _ _ ly ly _ hbh hby hlb2 hlb2).mono ?_
  rintro e w' ⟨rfl, rfl⟩
  rw [decide_eq_true (rfl : ly = ly)]
  clear hbh hby
  go_upto_region 15 with (fail)
  clear u1 u2 u3 v1 v2 v3 x0 x1 y0 y1
  replace hS : S2 cb db (.slice a n m) p1 c1 q1 p2 c2 q2 w15.drew := hS
  replace hbd := hbd.trans ((below_one' _).mono hbd.size)
  refine Seq.wp_region_seq (S2 cb db (.slice a n m) p1 c1 q1 p2 c2 q2) (by kernel_rfl) (by kernel_rfl) hS ?_
  by_cases hc1 : c1 = 0
  · have hp1 := HP1.out hc1
    have hP1 := HQ1.out
    rw [if_pos hc1] at hP1
    have hb1 : (c1 == 0) = true := by simpa using hc1
    have hb1' : (c1 != 0) = false := by simpa using hc1
    rw [← hp1] at hr
    clear HQ1
    subst hP1
    clear hc1 hp1 HP1
    repeat (first | (refine Seq.Seq.skip (by rfl) ?_; (try simp only [Act.put, List.setIfInBounds_toArray, List.set_cons_zero, List.set_cons_succ])) | (refine Seq.Seq.det ?_ (by rfl) (fun w hS => ?_) ?_; rotate_left; ((try dsimp only at hS); go_simp; (try rw [if_pos (by omega)]); with_reducible rfl); (try simp only [Act.put, List.setIfInBounds_toArray, List.set_cons_zero, List.set_cons_succ])))
    refine Seq.Seq.make (by rfl) (by rfl) (fun K Q' hK => ?_)
    go_simp
    go_at_call 14
    refine (at_any _ _ _ _ _ _ (by exact hr)).mono ?_
    rintro e w' ⟨rfl, rfl⟩
    refine hK.out _ _ (hS) ?_
    clear hK K
    try simp only [Act.put, List.setIfInBounds_toArray, List.set_cons_zero, List.set_cons_succ]
    repeat (first | (refine Seq.Seq.skip (by rfl) ?_; (try simp only [Act.put, List.setIfInBounds_toArray, List.set_cons_zero, List.set_cons_succ])) | (refine Seq.Seq.det ?_ (by rfl) (fun w hS => ?_) ?_; rotate_left; ((try dsimp only at hS); go_simp; (try rw [if_pos (by omega)]); with_reducible rfl); (try simp only [Act.put, List.setIfInBounds_toArray, List.set_cons_zero, List.set_cons_succ])))
    refine Seq.Seq.nil ?_
    go_upto_region 17 with (fail)
    replace hS : S2 cb db (.slice a n m) _ _ _ p2 c2 q2 w15.drew.drew := hS
    replace hbd := hbd.trans ((below_one' _).mono hbd.size)
    refine Seq.wp_region_seq (S2 cb db (.slice a n m) _ _ _ p2 c2 q2) (by kernel_rfl) (by kernel_rfl) hS ?_
    by_cases hc2 : c2 = 0
    · have hp2 := HP2.out hc2
      have hP2 := HQ2.out
      rw [if_pos hc2] at hP2
      have hb2 : (c2 == 0) = true := by simpa using hc2
      have hb2' : (c2 != 0) = false := by simpa using hc2
      rw [← hp2] at hs
      clear HQ2
      subst hP2
      clear hc2 hp2 HP2
      repeat (first | (refine Seq.Seq.skip (by rfl) ?_; (try simp only [Act.put, List.setIfInBounds_toArray, List.set_cons_zero, List.set_cons_succ])) | (refine Seq.Seq.det ?_ (by rfl) (fun w hS => ?_) ?_; rotate_left; ((try dsimp only at hS); go_simp; (try rw [if_pos (by omega)]); with_reducible rfl); (try simp only [Act.put, List.setIfInBounds_toArray, List.set_cons_zero, List.set_cons_succ])))
      refine Seq.Seq.make (by rfl) (by rfl) (fun K Q' hK => ?_)
      go_simp
      go_at_call 14
      refine (at_any _ _ _ _ _ _ (by exact hs)).mono ?_
      rintro e w' ⟨rfl, rfl⟩
      refine hK.out _ _ (hS) ?_
      clear hK K
      try simp only [Act.put, List.setIfInBounds_toArray, List.set_cons_zero, List.set_cons_succ]
      repeat (first | (refine Seq.Seq.skip (by rfl) ?_; (try simp only [Act.put, List.setIfInBounds_toArray, List.set_cons_zero, List.set_cons_succ])) | (refine Seq.Seq.det ?_ (by rfl) (fun w hS => ?_) ?_; rotate_left; ((try dsimp only at hS); go_simp; (try rw [if_pos (by omega)]); with_reducible rfl); (try simp only [Act.put, List.setIfInBounds_toArray, List.set_cons_zero, List.set_cons_succ])))
      refine Seq.Seq.make (by rfl) (by rfl) (fun K Q' hK => ?_)
      go_simp
      go_at_call 4
      refine (live16_any _).mono ?_
      rintro e w20 ⟨rfl, hb20⟩
      have hS2 := hS.below hb20
      have HB := Lib.hid (hbd.trans (hb20.mono hbd.size))
      refine hK.out _ _ (hS2) ?_
      clear hK K
      try simp only [Act.put, List.setIfInBounds_toArray, List.set_cons_zero, List.set_cons_succ]
      repeat (first | (refine Seq.Seq.skip (by rfl) ?_; (try simp only [Act.put, List.setIfInBounds_toArray, List.set_cons_zero, List.set_cons_succ])) | (refine Seq.Seq.det ?_ (by rfl) (fun w hS => ?_) ?_; rotate_left; ((try dsimp only at hS); go_simp; (try rw [if_pos (by omega)]); with_reducible rfl); (try simp only [Act.put, List.setIfInBounds_toArray, List.set_cons_zero, List.set_cons_succ])))
      refine Seq.Seq.nil ?_
      clear hS hS2 hbd hb20 L1 L2
      go_wp2
      go_ret
      exact ⟨rfl, HB.out⟩
    · have hb2 : (c2 == 0) = false := by simpa using hc2
      have hb2' : (c2 != 0) = true := by simpa using hc2
      have hP2 := HQ2.out
      rw [if_neg hc2] at hP2
      clear HQ2
      subst hP2
      clear hc2
      repeat (first | (refine Seq.Seq.skip (by rfl) ?_; (try simp only [Act.put, List.setIfInBounds_toArray, List.set_cons_zero, List.set_cons_succ])) | (refine Seq.Seq.det ?_ (by rfl) (fun w hS => ?_) ?_; rotate_left; ((try dsimp only at hS); go_simp; (try rw [if_pos (by omega)]); with_reducible rfl); (try simp only [Act.put, List.setIfInBounds_toArray, List.set_cons_zero, List.set_cons_succ])))
      refine Seq.Seq.make (by rfl) (by rfl) (fun K Q' hK => ?_)
      go_simp
      go_at_call 4
      refine (live16_any _).mono ?_
      rintro e w20 ⟨rfl, hb20⟩
      have hS2 := hS.below hb20
      have HB := Lib.hid (hbd.trans (hb20.mono hbd.size))
      refine hK.out _ _ (hS2) ?_
      clear hK K
      try simp only [Act.put, List.setIfInBounds_toArray, List.set_cons_zero, List.set_cons_succ]
      repeat (first | (refine Seq.Seq.skip (by rfl) ?_; (try simp only [Act.put, List.setIfInBounds_toArray, List.set_cons_zero, List.set_cons_succ])) | (refine Seq.Seq.det ?_ (by rfl) (fun w hS => ?_) ?_; rotate_left; ((try dsimp only at hS); go_simp; (try rw [if_pos (by omega)]); with_reducible rfl); (try simp only [Act.put, List.setIfInBounds_toArray, List.set_cons_zero, List.set_cons_succ])))
      refine Seq.Seq.nil ?_
      clear hS hS2 hbd hb20 L1 L2
      go_wp2
      go_ret
      exact ⟨rfl, HB.out⟩
  · have hb1 : (c1 == 0) = false := by simpa using hc1
    have hb1' : (c1 != 0) = true := by simpa using hc1
    have hP1 := HQ1.out
    rw [if_neg hc1] at hP1
    clear HQ1
    subst hP1
    clear hc1
    repeat (first | (refine Seq.Seq.skip (by rfl) ?_; (try simp only [Act.put, List.setIfInBounds_toArray, List.set_cons_zero, List.set_cons_succ])) | (refine Seq.Seq.det ?_ (by rfl) (fun w hS => ?_) ?_; rotate_left; ((try dsimp only at hS); go_simp; (try rw [if_pos (by omega)]); with_reducible rfl); (try simp only [Act.put, List.setIfInBounds_toArray, List.set_cons_zero, List.set_cons_succ])))
    refine Seq.Seq.nil ?_
    go_upto_region 17 with (fail)
    replace hS : S2 cb db (.slice a n m) _ _ _ p2 c2 q2 w15.drew.drew := hS
    replace hbd := hbd.trans ((below_one' _).mono hbd.size)
    refine Seq.wp_region_seq (S2 cb db (.slice a n m) _ _ _ p2 c2 q2) (by kernel_rfl) (by kernel_rfl) hS ?_
    by_cases hc2 : c2 = 0
    · have hp2 := HP2.out hc2
      have hP2 := HQ2.out
      rw [if_pos hc2] at hP2
      have hb2 : (c2 == 0) = true := by simpa using hc2
      have hb2' : (c2 != 0) = false := by simpa using hc2
      rw [← hp2] at hs
      clear HQ2
      subst hP2
      clear hc2 hp2 HP2
      repeat (first | (refine Seq.Seq.skip (by rfl) ?_; (try simp only [Act.put, List.setIfInBounds_toArray, List.set_cons_zero, List.set_cons_succ])) | (refine Seq.Seq.det ?_ (by rfl) (fun w hS => ?_) ?_; rotate_left; ((try dsimp only at hS); go_simp; (try rw [if_pos (by omega)]); with_reducible rfl); (try simp only [Act.put, List.setIfInBounds_toArray, List.set_cons_zero, List.set_cons_succ])))
      refine Seq.Seq.make (by rfl) (by rfl) (fun K Q' hK => ?_)
      go_simp
      go_at_call 14
      refine (at_any _ _ _ _ _ _ (by exact hs)).mono ?_
      rintro e w' ⟨rfl, rfl⟩
      refine hK.out _ _ (hS) ?_
      clear hK K
      try simp only [Act.put, List.setIfInBounds_toArray, List.set_cons_zero, List.set_cons_succ]
      repeat (first | (refine Seq.Seq.skip (by rfl) ?_; (try simp only [Act.put, List.setIfInBounds_toArray, List.set_cons_zero, List.set_cons_succ])) | (refine Seq.Seq.det ?_ (by rfl) (fun w hS => ?_) ?_; rotate_left; ((try dsimp only at hS); go_simp; (try rw [if_pos (by omega)]); with_reducible rfl); (try simp only [Act.put, List.setIfInBounds_toArray, List.set_cons_zero, List.set_cons_succ])))
      refine Seq.Seq.make (by rfl) (by rfl) (fun K Q' hK => ?_)
      go_simp
      go_at_call 4
      refine (live16_any _).mono ?_
      rintro e w20 ⟨rfl, hb20⟩
      have hS2 := hS.below hb20
      have HB := Lib.hid (hbd.trans (hb20.mono hbd.size))
      refine hK.out _ _ (hS2) ?_
      clear hK K
      try simp only [Act.put, List.setIfInBounds_toArray, List.set_cons_zero, List.set_cons_succ]
      repeat (first | (refine Seq.Seq.skip (by rfl) ?_; (try simp only [Act.put, List.setIfInBounds_toArray, List.set_cons_zero, List.set_cons_succ])) | (refine Seq.Seq.det ?_ (by rfl) (fun w hS => ?_) ?_; rotate_left; ((try dsimp only at hS); go_simp; (try rw [if_pos (by omega)]); with_reducible rfl); (try simp only [Act.put, List.setIfInBounds_toArray, List.set_cons_zero, List.set_cons_succ])))
      refine Seq.Seq.nil ?_
      clear hS hS2 hbd hb20 L1 L2
      go_wp2
      go_ret
      exact ⟨rfl, HB.out⟩
    · have hb2 : (c2 == 0) = false := by simpa using hc2
      have hb2' : (c2 != 0) = true := by simpa using hc2
      have hP2 := HQ2.out
      rw [if_neg hc2] at hP2
      clear HQ2
      subst hP2
      clear hc2
      repeat (first | (refine Seq.Seq.skip (by rfl) ?_; (try simp only [Act.put, List.setIfInBounds_toArray, List.set_cons_zero, List.set_cons_succ])) | (refine Seq.Seq.det ?_ (by rfl) (fun w hS => ?_) ?_; rotate_left; ((try dsimp only at hS); go_simp; (try rw [if_pos (by omega)]); with_reducible rfl); (try simp only [Act.put, List.setIfInBounds_toArray, List.set_cons_zero, List.set_cons_succ])))
      refine Seq.Seq.make (by rfl) (by rfl) (fun K Q' hK => ?_)
      go_simp
      go_at_call 4
      refine (live16_any _).mono ?_
      rintro e w20 ⟨rfl, hb20⟩
      have hS2 := hS.below hb20
      have HB := Lib.hid (hbd.trans (hb20.mono hbd.size))
      refine hK.out _ _ (hS2) ?_
      clear hK K
      try simp only [Act.put, List.setIfInBounds_toArray, List.set_cons_zero, List.set_cons_succ]
      repeat (first | (refine Seq.Seq.skip (by rfl) ?_; (try simp only [Act.put, List.setIfInBounds_toArray, List.set_cons_zero, List.set_cons_succ])) | (refine Seq.Seq.det ?_ (by rfl) (fun w hS => ?_) ?_; rotate_left; ((try dsimp only at hS); go_simp; (try rw [if_pos (by omega)]); with_reducible rfl); (try simp only [Act.put, List.setIfInBounds_toArray, List.set_cons_zero, List.set_cons_succ])))
      refine Seq.Seq.nil ?_
      clear hS hS2 hbd hb20 L1 L2
      go_wp2
      go_ret
      exact ⟨rfl, HB.out⟩

set_option maxRecDepth 100000 in
theorem lifted (os : Os) (started : os.Started) (H : Type) (enc : TypeId × Value → H) :
    ReturnsInHanded {} Tryz.checked os 3 .any (Rows.blockReadsSpec.pre6 enc Tryz.prog Tryz.f3 Rows.blockReadsRow.domain false) (Rows.blockReadsSpec.post enc Tryz.prog Tryz.f3 false true false false) := by
  refine returnsInHanded_of_change (C := Tryz.checked) own started (by kernel_rfl) Tryz.func3
    (ChangeSpec.witness6 (enc := enc) (C := Tryz.checked) false ⟨#[], #[.slice none 0 0, .int .i64 0], []⟩ 8 (by kernel_rfl) (by kernel_rfl) (by kernel_rfl) (by kernel_rfl)) ?_
  intro W base args ds gs before hval0 hW hcnd _
  have hval : ∀ (j : Nat) t v, Tryz.f3.params[j]? = some t → args[j]? = some v → Value.okWide Tryz.prog W .any base t v := hval0
  have hW' := hW
  obtain ⟨p, q, hA0, hV, rfl, hfz, hnd⟩ := hW
  have hA : DataW.TrodAll enc Tryz.prog W 0 (fun _ => true) true Tryz.f3.params.toList args.toList ds p := hA0
  rw [Tryz.params3] at hA hval
  obtain ⟨v0, vs0, d0, ds0, p0, q0, hargs, rfl, rfl, h0, r0⟩ := trodAll_cons hA
  obtain ⟨v1, vs1, d1, ds1, p1, q1, rfl, rfl, rfl, h1, r1⟩ := trodAll_cons r0
  obtain ⟨rfl, rfl, rfl⟩ := trodAll_nil r1
  obtain rfl : args = #[v0, v1] := by cases args; simp_all
  obtain ⟨rfl, rfl⟩ := trodVars_none hV
  have lt0 : ∀ x ∈ p0, x.block < W.heap.size := by obtain ⟨m, hm⟩ := h0; exact DataW.trod_lt m _ _ _ hm
  have lt1 : ∀ x ∈ p1, x.block < W.heap.size := by obtain ⟨m, hm⟩ := h1; exact DataW.trod_lt m _ _ _ hm
  clear hA0 hval0
  refine (walk enc W base v0 d0 p0 (hval 0 22 v0 rfl rfl) h0 v1 d1 p1 (hval 1 3 v1 rfl rfl) h1).mono fun e W' ⟨he, bel⟩ => ?_
  subst he
  exact ⟨_, rfl, _, _, _, [], _, [], hW', trodAll_mk1 (shut_bool Tryz.underlying4 _), (trodAll_cons_mk (Below.trod laidOut (by kernel_rfl) (of_decide_eq_true (by kernel_rfl)) h0 bel lt0) (trodAll_cons_mk (Below.trod laidOut (by kernel_rfl) (of_decide_eq_true (by kernel_rfl)) h1 bel lt1) trodAll_mk0)), rfl, bel.frame _, fun h => by cases h⟩

theorem over : Rows.blockReadsRow.holds Tryz.pinned (OpenSpec.ofChange Rows.blockReadsSpec) :=
  OpenClaim.holds_of_wide 3 Tryz.f3 rfl rfl rfl rfl rfl rfl rfl ⟨rfl, rfl, rfl, rfl, rfl⟩ rfl rfl rfl rfl rfl (by kernel_rfl) Tryz.func3 (by kernel_rfl)
    (of_decide_eq_true (by kernel_rfl)) (by unfold Func.isWrapper; first | (rw [if_pos (by decide +kernel)]; kernel_rfl) | (rw [if_neg (by decide +kernel)]; exact ⟨rfl, rfl⟩))
    (fun os started H enc _ => lifted os started H enc)

/-- THE STATEMENT. -/
theorem proved : Rows.BlockReadsSaid := over
#print axioms proved
end Go.Proofs.YtckpngofnohdjaaGreat.blockReads
