/- BlobReads: called with any bytes and any two ints, the law returns true; no condition. -/
import Derived.Test.YtkedmhopajpkhaaRows
import Derived.Test.YtkedmhopajpkhaaBlobL
import Derived.ProofKit
import Derived.OpenShut
import Derived.ShutString
import Derived.ChangeOld
namespace Go.Proofs.Ytkedmhopajpkhaa.blobReads
open Go.ChangeShapes Go.WideShapes Go.ChangeAt Go.RowKit
open Go.ChangeMaps (open_string shut_string)
set_option linter.unusedVariables false

theorem own : ownKnob Try.prog.godebug = none := by kernel_rfl
theorem laidOut : laidOutB Try.prog = true := by kernel_rfl
open Cur Mem



/-- The document's three readers. -/
def S3 (cb db eb : Nat) (s : Value) (p1 c1 q1 p2 c2 q2 p3 c3 q3 : Int) (w' : World) : Prop :=
  Blk w' cb (cvs s p1 c1 q1) 43 ∧ Blk w' db (cvs s p2 c2 q2) 43 ∧ Blk w' eb (cvs s p3 c3 q3) 43
theorem S3.below {cb db eb : Nat} {s : Value} {p1 c1 q1 p2 c2 q2 p3 c3 q3 : Int} {w' w'' : World} (h : S3 cb db eb s p1 c1 q1 p2 c2 q2 p3 c3 q3 w') (hb : Below w'.heap.size w' w'') : S3 cb db eb s p1 c1 q1 p2 c2 q2 p3 c3 q3 w'' :=
  ⟨h.1.below hb, h.2.1.below hb, h.2.2.below hb⟩

set_option maxRecDepth 100000 in
set_option maxHeartbeats 8000000 in
theorem walk {H : Type} (enc : TypeId × Value → H) (w : World) (base : Nat) (v0 : Value) (d0 : DataW H) (p0 : List MemPlace) (g0 : Value.okWide Try.prog w .any base 22 v0) (h0 : DataW.Trod enc Try.prog w 0 (fun _ => true) true 22 v0 d0 p0) (v1 : Value) (d1 : DataW H) (p1 : List MemPlace) (g1 : Value.okWide Try.prog w .any base 3 v1) (h1 : DataW.Trod enc Try.prog w 0 (fun _ => true) true 3 v1 d1 p1) (v2 : Value) (d2 : DataW H) (p2 : List MemPlace) (g2 : Value.okWide Try.prog w .any base 3 v2) (h2 : DataW.Trod enc Try.prog w 0 (fun _ => true) true 3 v2 d2 p2) :
    Calls Try.prog 4 #[v0, v1, v2] w fun e w' => e = .returned (.bool true) ∧ Below w.heap.size w w' := by
  obtain ⟨a, n, m, z, rfl, hnm, hz, hby, hnil⟩ := open_bytes g0 h0
  obtain ⟨mo, rfl, m0, m1⟩ := open_i64 g1 h1
  obtain ⟨nn, rfl, t0, t1⟩ := open_i64 g2 h2
  clear g0 h0 g1 h1 g2 h2
  by_cases hn : 300 < (n : Int)
  · go_enter Try.func4, Try.ntmps4
    go_wp2_with fail
    refine (live6_any _).mono ?_
    rintro e w1 ⟨rfl, hb⟩
    go_wp2
    go_ret
    exact ⟨rfl, hb⟩
  have HBY := Lib.hid hby
  clear hby
  go_enter Try.func4, Try.ntmps4
  go_wp2_with fail
  refine (new_some _ _ _ _ hnm).mono ?_
  rintro e w1 ⟨rb, rfl, hrb, hb1, hr⟩
  go_wp2_with fail
  refine (new_some _ _ _ _ hnm).mono ?_
  rintro e w2 ⟨sb, rfl, hsb, hb2, hs⟩
  have hl1 := hr.lt
  replace hr := hr.below hb2
  go_wp2_with fail
  refine (new_some _ _ _ _ hnm).mono ?_
  rintro e w3 ⟨tb, rfl, htb, hb3, ht⟩
  have hl2 := hs.lt
  replace hr := hr.below hb3
  replace hs := hs.below hb3
  have hbd := (hb1.trans (hb2.mono hb1.size)).trans (hb3.mono (hb1.trans (hb2.mono hb1.size)).size)
  have hrw : w.heap.size ≤ rb := hrb
  have hsw : rb < sb := by omega
  have htw : sb < tb := by omega
  clear hb1 hb2 hb3 hrb hsb htb hl1 hl2
  go_wp2_with fail
  refine (rbread_any _ _ _ _ _ _ _ _ _ (hz.below hbd) hnil (by omega) (by omega) hnm (by omega) HBY.out m1).mono ?_
  rintro e w4 ⟨A4, k4, m4, l4, p1, c1, q1, rfl, hb4, hs4, hbs4, hkm4⟩
  have HS1 := Lib.hid hs4
  replace hr := hr.below hb4
  replace hs := hs.below hb4
  replace ht := ht.below hb4
  replace hbd := hbd.trans (hb4.mono hbd.size)
  have hbA := below_one w4 (.cells (cvs (.slice a n m) p1 c1 q1) 43)
  have hC1 := Blk.new w4 (cvs (.slice a n m) p1 c1 q1) 43
  have hl4 := ht.lt
  replace hr := hr.below hbA
  replace hs := hs.below hbA
  replace ht := ht.below hbA
  replace hbs4 := hbs4.below hbA
  replace hbd := hbd.trans (hbA.mono hbd.size)
  clear hb4 hbA hs4
  go_wp2_with fail
  generalize w4.alloc (.cells (cvs (.slice a n m) p1 c1 q1) 43) = w4' at *
  generalize w4.heap.size = cb at *
  refine (rreadlist_any _ _ _ _ _ _ _ _ _ (hz.below hbd) (by omega) (by omega) hnm (by omega) HBY.out m1).mono ?_
  rintro e w5 ⟨v5, l5, p2, c2, q2, rfl, ho5, hb5, hs5, hl5⟩
  have HS2 := Lib.hid hs5
  replace hr := hr.below hb5
  replace hs := hs.below hb5
  replace ht := ht.below hb5
  replace hbs4 := hbs4.below hb5
  replace hC1 := hC1.below hb5
  replace hbd := hbd.trans (hb5.mono hbd.size)
  have hbA := below_one w5 (.cells (cvs (.slice a n m) p2 c2 q2) 43)
  have hC2 := Blk.new w5 (cvs (.slice a n m) p2 c2 q2) 43
  have hl6 := hC1.lt
  replace hr := hr.below hbA
  replace hs := hs.below hbA
  replace ht := ht.below hbA
  replace hbs4 := hbs4.below hbA
  replace hC1 := hC1.below hbA
  replace ho5 := own_below ho5 hbA
  replace hbd := hbd.trans (hbA.mono hbd.size)
  clear hb5 hbA hs5
  go_wp2_with fail
  generalize w5.alloc (.cells (cvs (.slice a n m) p2 c2 q2) 43) = w5' at *
  generalize w5.heap.size = db at *
  refine (rfixed_any _ _ _ _ _ _ _ _ _ (hz.below hbd) hnil (by omega) (by omega) hnm (by omega) HBY.out).mono ?_
  rintro e w6 ⟨v6, p3, c3, q3, rfl, hb6, hs6⟩
  have HS3 := Lib.hid hs6
  replace hr := hr.below hb6
  replace hs := hs.below hb6
  replace ht := ht.below hb6
  replace hbs4 := hbs4.below hb6
  replace hC1 := hC1.below hb6
  replace hC2 := hC2.below hb6
  replace ho5 := own_below ho5 hb6
  replace hbd := hbd.trans (hb6.mono hbd.size)
  have hbA := below_one w6 (.cells (cvs (.slice a n m) p3 c3 q3) 43)
  have hC3 := Blk.new w6 (cvs (.slice a n m) p3 c3 q3) 43
  have hl7 := hC2.lt
  replace hr := hr.below hbA
  replace hs := hs.below hbA
  replace ht := ht.below hbA
  replace hbs4 := hbs4.below hbA
  replace hC1 := hC1.below hbA
  replace hC2 := hC2.below hbA
  replace ho5 : OwnU _ _ v5 l5 := own_below ho5 hbA
  replace hbd := hbd.trans (hbA.mono hbd.size)
  clear hb6 hbA hs6
  obtain ⟨A5, cc5, rfl⟩ := ho5.slice
  obtain ⟨_, _, _, hu5⟩ := OwnU.us ho5
  have HL5 := Lib.hid hl5
  clear ho5 hl5
  go_wp2_with fail
  generalize w6.alloc (.cells (cvs (.slice a n m) p3 c3 q3) 43) = w6' at *
  generalize w6.heap.size = eb at *
  -- the three readers
  refine (bread_any _ _ _ _ _ _ _ _ _ _ hr (hz.below hbd) (by omega) (by omega) (by omega) (by omega) HBY.out m1).mono ?_
  rintro e w7 ⟨v7, l7, p1', c1', q1', rfl, ho7, hk7, hr', hs7⟩
  obtain ⟨rfl, rfl, rfl, hp1⟩ := hs7.det HS1.out
  have HD1 := Lib.hid hp1
  replace hs := blk_kp hs hk7 (by omega)
  replace ht := blk_kp ht hk7 (by omega)
  replace hC1 := blk_kp hC1 hk7 (by omega)
  replace hC2 := blk_kp hC2 hk7 (by omega)
  replace hC3 := blk_kp hC3 hk7 (by omega)
  replace hbs4 := hbs4.kp hr (by simp) hk7
  replace hu5 := hu5.kp_rd hr (by simp) hk7
  replace hbd := Kp.below hbd (Nat.le_refl _) hk7 hrw
  replace hr := hr'
  obtain ⟨A7, cc7, rfl⟩ := ho7.slice
  have hbs7 := ho7.bs.2
  clear hr' hk7 hs7 hp1 ho7
  go_wp2_with fail
  refine (same_any _ _ _ _ _ _ l7 _ hbs7 hbs4).mono ?_
  rintro e w8 ⟨rfl, rfl⟩
  clear hbs7 hbs4
  go_wp2_with fail
  refine (breadlist_any _ _ _ _ _ _ _ _ _ _ hs (hz.below hbd) (by omega) (by omega) (by omega) HBY.out m1).mono ?_
  rintro e w8 ⟨v8, l8, p2', c2', q2', rfl, ho8, hk8, hs', hs8, hl8⟩
  obtain ⟨rfl, rfl, rfl, hp2⟩ := hs8.det HS2.out
  have HD2 := Lib.hid hp2
  replace hr := blk_kp hr hk8 (by omega)
  replace ht := blk_kp ht hk8 (by omega)
  replace hC1 := blk_kp hC1 hk8 (by omega)
  replace hC2 := blk_kp hC2 hk8 (by omega)
  replace hC3 := blk_kp hC3 hk8 (by omega)
  replace hu5 := hu5.kp_rd hs (by simp) hk8
  replace hbd := Kp.below hbd (Nat.le_refl _) hk8 (by omega)
  replace hs := hs'
  obtain ⟨A8, cc8, rfl⟩ := ho8.slice
  obtain ⟨_, _, _, hu8⟩ := OwnU.us ho8
  have HLEN : Hid (l8.length ≤ 1000000) := Lib.hid (by have := rl_len HS2.out hz.1 HBY.out (by omega) (by omega); omega)
  clear hs' hk8 hs8 hp2 ho8 hl8
  go_wp2_with fail
  refine (same5_any _ _ _ _ _ _ l8 _ hu8 hu5 HLEN.out HL5.out).mono ?_
  rintro e w9 ⟨rfl, hb9⟩
  replace hr := hr.below hb9
  replace hs := hs.below hb9
  replace ht := ht.below hb9
  replace hC1 := hC1.below hb9
  replace hC2 := hC2.below hb9
  replace hC3 := hC3.below hb9
  replace hbd := hbd.trans (hb9.mono hbd.size)
  clear hb9 hu8 hu5
  go_wp2_with fail
  refine (bfixed_any _ _ _ _ _ _ _ _ _ _ ht (hz.below hbd) (by omega) (by omega) (by omega) (by omega) HBY.out).mono ?_
  rintro e w10 ⟨v10, p3', c3', q3', rfl, hk10, ht', hs10, _, _⟩
  obtain ⟨rfl, rfl, rfl, hp3⟩ := hs10.det HS3.out
  have HD3 := Lib.hid hp3
  replace hr := blk_kp hr hk10 (by omega)
  replace hs := blk_kp hs hk10 (by omega)
  replace hC1 := blk_kp hC1 hk10 (by omega)
  replace hC2 := blk_kp hC2 hk10 (by omega)
  replace hC3 := blk_kp hC3 hk10 (by omega)
  replace hbd := Kp.below hbd (Nat.le_refl _) hk10 (by omega)
  replace ht := ht'
  clear ht' hk10 hs10 hp3
  go_wp2_with fail
  have L1 : ∀ w', S3 cb db eb (.slice a n m) p1 c1' q1' p2 c2' q2' p3 c3' q3' w' → w'.cell? ⟨cb, 1, none⟩ = some (.int .i64 p1) ∧ w'.cell? ⟨cb, 2, none⟩ = some (.int .i64 c1') ∧ w'.cell? ⟨cb, 3, none⟩ = some (.int .i64 q1') := fun w' h => h.1.c4.2
  have L2 : ∀ w', S3 cb db eb (.slice a n m) p1 c1' q1' p2 c2' q2' p3 c3' q3' w' → w'.cell? ⟨db, 1, none⟩ = some (.int .i64 p2) ∧ w'.cell? ⟨db, 2, none⟩ = some (.int .i64 c2') ∧ w'.cell? ⟨db, 3, none⟩ = some (.int .i64 q2') := fun w' h => h.2.1.c4.2
  have L3 : ∀ w', S3 cb db eb (.slice a n m) p1 c1' q1' p2 c2' q2' p3 c3' q3' w' → w'.cell? ⟨eb, 1, none⟩ = some (.int .i64 p3) ∧ w'.cell? ⟨eb, 2, none⟩ = some (.int .i64 c3') ∧ w'.cell? ⟨eb, 3, none⟩ = some (.int .i64 q3') := fun w' h => h.2.2.c4.2
  have hS : S3 cb db eb (.slice a n m) p1 c1' q1' p2 c2' q2' p3 c3' q3' w10.drew := ⟨hC1, hC2, hC3⟩
  replace hbd := hbd.trans ((below_one' _).mono hbd.size)
  have hdr : ∀ w' : World, Below w'.heap.size w' w'.drew := below_one'
  replace hr := hr.below (hdr _)
  replace hs := hs.below (hdr _)
  replace ht := ht.below (hdr _)
  clear hC1 hC2 hC3 hdr hz HLEN HL5 HS1 HS2 HS3
  refine Seq.wp_region_seq (S3 cb db eb (.slice a n m) p1 c1' q1' p2 c2' q2' p3 c3' q3') (by kernel_rfl) (by kernel_rfl) hS ?_
  repeat (first | (refine Seq.Seq.skip (by rfl) ?_; (try simp only [Act.put, List.setIfInBounds_toArray, List.set_cons_zero, List.set_cons_succ])) | (refine Seq.Seq.det ?_ (by rfl) (fun w hS => ?_) ?_; rotate_left; ((try dsimp only at hS); go_simp; (try rw [if_pos (by omega)]); with_reducible rfl); (try simp only [Act.put, List.setIfInBounds_toArray, List.set_cons_zero, List.set_cons_succ])))
  refine Seq.Seq.make (by rfl) (by rfl) (fun K Q' hK => ?_)
  go_simp
  go_at_call 25
  refine (fault_any _ _ _ _ _ _ (by exact hr)).mono ?_
  rintro e w11 ⟨rfl, hb11⟩
  replace hr := hr.below hb11
  replace hs := hs.below hb11
  replace ht := ht.below hb11
  replace hbd := hbd.trans (hb11.mono hbd.size)
  replace hS := hS.below hb11
  refine hK.out _ _ (hS) ?_
  clear hK K
  try simp only [Act.put, List.setIfInBounds_toArray, List.set_cons_zero, List.set_cons_succ]
  clear hb11
  repeat (first | (refine Seq.Seq.skip (by rfl) ?_; (try simp only [Act.put, List.setIfInBounds_toArray, List.set_cons_zero, List.set_cons_succ])) | (refine Seq.Seq.det ?_ (by rfl) (fun w hS => ?_) ?_; rotate_left; ((try dsimp only at hS); go_simp; (try rw [if_pos (by omega)]); with_reducible rfl); (try simp only [Act.put, List.setIfInBounds_toArray, List.set_cons_zero, List.set_cons_succ])))
  refine Seq.Seq.make (by rfl) (by rfl) (fun K Q' hK => ?_)
  go_simp
  go_at_call 25
  refine (fault_any _ _ _ _ _ _ (by exact hs)).mono ?_
  rintro e w11 ⟨rfl, hb11⟩
  replace hr := hr.below hb11
  replace hs := hs.below hb11
  replace ht := ht.below hb11
  replace hbd := hbd.trans (hb11.mono hbd.size)
  replace hS := hS.below hb11
  refine hK.out _ _ (hS) ?_
  clear hK K
  try simp only [Act.put, List.setIfInBounds_toArray, List.set_cons_zero, List.set_cons_succ]
  clear hb11
  repeat (first | (refine Seq.Seq.skip (by rfl) ?_; (try simp only [Act.put, List.setIfInBounds_toArray, List.set_cons_zero, List.set_cons_succ])) | (refine Seq.Seq.det ?_ (by rfl) (fun w hS => ?_) ?_; rotate_left; ((try dsimp only at hS); go_simp; (try rw [if_pos (by omega)]); with_reducible rfl); (try simp only [Act.put, List.setIfInBounds_toArray, List.set_cons_zero, List.set_cons_succ])))
  refine Seq.Seq.make (by rfl) (by rfl) (fun K Q' hK => ?_)
  go_simp
  go_at_call 25
  refine (fault_any _ _ _ _ _ _ (by exact ht)).mono ?_
  rintro e w11 ⟨rfl, hb11⟩
  replace hr := hr.below hb11
  replace hs := hs.below hb11
  replace ht := ht.below hb11
  replace hbd := hbd.trans (hb11.mono hbd.size)
  replace hS := hS.below hb11
  refine hK.out _ _ (hS) ?_
  clear hK K
  try simp only [Act.put, List.setIfInBounds_toArray, List.set_cons_zero, List.set_cons_succ]
  clear hb11
  repeat (first | (refine Seq.Seq.skip (by rfl) ?_; (try simp only [Act.put, List.setIfInBounds_toArray, List.set_cons_zero, List.set_cons_succ])) | (refine Seq.Seq.det ?_ (by rfl) (fun w hS => ?_) ?_; rotate_left; ((try dsimp only at hS); go_simp; (try rw [if_pos (by omega)]); with_reducible rfl); (try simp only [Act.put, List.setIfInBounds_toArray, List.set_cons_zero, List.set_cons_succ])))
  refine Seq.Seq.nil ?_
  go_wp2
  replace hS : S3 cb db eb (.slice a n m) p1 c1' q1' p2 c2' q2' p3 c3' q3' w11.drew := hS
  replace hbd := hbd.trans ((below_one' _).mono hbd.size)
  refine Seq.wp_region_seq (S3 cb db eb (.slice a n m) p1 c1' q1' p2 c2' q2' p3 c3' q3') (by kernel_rfl) (by kernel_rfl) hS ?_
  by_cases hc1 : c1' = 0
  · have hb1 : (c1' != 0) = false := by simpa using hc1
    have HP1 := HD1.out hc1
    clear hc1
    repeat (first | (refine Seq.Seq.skip (by rfl) ?_; (try simp only [Act.put, List.setIfInBounds_toArray, List.set_cons_zero, List.set_cons_succ])) | (refine Seq.Seq.det ?_ (by rfl) (fun w hS => ?_) ?_; rotate_left; ((try dsimp only at hS); go_simp; (try rw [if_pos (by omega)]); with_reducible rfl); (try simp only [Act.put, List.setIfInBounds_toArray, List.set_cons_zero, List.set_cons_succ])))
    refine Seq.Seq.make (by rfl) (by rfl) (fun K Q' hK => ?_)
    go_simp
    go_at_call 26
    refine (at_any _ _ _ _ _ _ (by exact hr)).mono ?_
    rintro e w' ⟨rfl, rfl⟩
    rw [HP1]
    refine hK.out _ _ (hS) ?_
    clear hK K
    try simp only [Act.put, List.setIfInBounds_toArray, List.set_cons_zero, List.set_cons_succ]
    repeat (first | (refine Seq.Seq.skip (by rfl) ?_; (try simp only [Act.put, List.setIfInBounds_toArray, List.set_cons_zero, List.set_cons_succ])) | (refine Seq.Seq.det ?_ (by rfl) (fun w hS => ?_) ?_; rotate_left; ((try dsimp only at hS); go_simp; (try rw [if_pos (by omega)]); with_reducible rfl); (try simp only [Act.put, List.setIfInBounds_toArray, List.set_cons_zero, List.set_cons_succ])))
    by_cases hc2 : c2' = 0
    · have hb2 : (c2' != 0) = false := by simpa using hc2
      have HP2 := HD2.out hc2
      clear hc2
      try simp only [hb2]
      repeat (first | (refine Seq.Seq.skip (by rfl) ?_; (try simp only [Act.put, List.setIfInBounds_toArray, List.set_cons_zero, List.set_cons_succ])) | (refine Seq.Seq.det ?_ (by rfl) (fun w hS => ?_) ?_; rotate_left; ((try dsimp only at hS); go_simp; (try rw [if_pos (by omega)]); with_reducible rfl); (try simp only [Act.put, List.setIfInBounds_toArray, List.set_cons_zero, List.set_cons_succ])))
      refine Seq.Seq.make (by rfl) (by rfl) (fun K Q' hK => ?_)
      go_simp
      go_at_call 26
      refine (at_any _ _ _ _ _ _ (by exact hs)).mono ?_
      rintro e w' ⟨rfl, rfl⟩
      rw [HP2]
      refine hK.out _ _ (hS) ?_
      clear hK K
      try simp only [Act.put, List.setIfInBounds_toArray, List.set_cons_zero, List.set_cons_succ]
      repeat (first | (refine Seq.Seq.skip (by rfl) ?_; (try simp only [Act.put, List.setIfInBounds_toArray, List.set_cons_zero, List.set_cons_succ])) | (refine Seq.Seq.det ?_ (by rfl) (fun w hS => ?_) ?_; rotate_left; ((try dsimp only at hS); go_simp; (try rw [if_pos (by omega)]); with_reducible rfl); (try simp only [Act.put, List.setIfInBounds_toArray, List.set_cons_zero, List.set_cons_succ])))
      by_cases hc3 : c3' = 0
      · have hb3 : (c3' != 0) = false := by simpa using hc3
        have HP3 := HD3.out hc3
        clear hc3
        try simp only [hb3]
        repeat (first | (refine Seq.Seq.skip (by rfl) ?_; (try simp only [Act.put, List.setIfInBounds_toArray, List.set_cons_zero, List.set_cons_succ])) | (refine Seq.Seq.det ?_ (by rfl) (fun w hS => ?_) ?_; rotate_left; ((try dsimp only at hS); go_simp; (try rw [if_pos (by omega)]); with_reducible rfl); (try simp only [Act.put, List.setIfInBounds_toArray, List.set_cons_zero, List.set_cons_succ])))
        refine Seq.Seq.make (by rfl) (by rfl) (fun K Q' hK => ?_)
        go_simp
        go_at_call 26
        refine (at_any _ _ _ _ _ _ (by exact ht)).mono ?_
        rintro e w' ⟨rfl, rfl⟩
        rw [HP3]
        refine hK.out _ _ (hS) ?_
        clear hK K
        try simp only [Act.put, List.setIfInBounds_toArray, List.set_cons_zero, List.set_cons_succ]
        repeat (first | (refine Seq.Seq.skip (by rfl) ?_; (try simp only [Act.put, List.setIfInBounds_toArray, List.set_cons_zero, List.set_cons_succ])) | (refine Seq.Seq.det ?_ (by rfl) (fun w hS => ?_) ?_; rotate_left; ((try dsimp only at hS); go_simp; (try rw [if_pos (by omega)]); with_reducible rfl); (try simp only [Act.put, List.setIfInBounds_toArray, List.set_cons_zero, List.set_cons_succ])))
        refine Seq.Seq.make (by rfl) (by rfl) (fun K Q' hK => ?_)
        go_simp
        go_at_call 7
        refine (live6_any _).mono ?_
        rintro e w11 ⟨rfl, hb11⟩
        have hS2 := hS.below hb11
        have hbd2 := hbd.trans (hb11.mono hbd.size)
        refine hK.out _ _ (hS2) ?_
        clear hK K
        try simp only [Act.put, List.setIfInBounds_toArray, List.set_cons_zero, List.set_cons_succ]
        repeat (first | (refine Seq.Seq.skip (by rfl) ?_; (try simp only [Act.put, List.setIfInBounds_toArray, List.set_cons_zero, List.set_cons_succ])) | (refine Seq.Seq.det ?_ (by rfl) (fun w hS => ?_) ?_; rotate_left; ((try dsimp only at hS); go_simp; (try rw [if_pos (by omega)]); with_reducible rfl); (try simp only [Act.put, List.setIfInBounds_toArray, List.set_cons_zero, List.set_cons_succ])))
        refine Seq.Seq.nil ?_
        go_wp2
        go_ret
        exact ⟨rfl, hbd2⟩
      · have hb3 : (c3' != 0) = true := by simpa using hc3
        clear hc3
        try simp only [hb3]
        repeat (first | (refine Seq.Seq.skip (by rfl) ?_; (try simp only [Act.put, List.setIfInBounds_toArray, List.set_cons_zero, List.set_cons_succ])) | (refine Seq.Seq.det ?_ (by rfl) (fun w hS => ?_) ?_; rotate_left; ((try dsimp only at hS); go_simp; (try rw [if_pos (by omega)]); with_reducible rfl); (try simp only [Act.put, List.setIfInBounds_toArray, List.set_cons_zero, List.set_cons_succ])))
        refine Seq.Seq.make (by rfl) (by rfl) (fun K Q' hK => ?_)
        go_simp
        go_at_call 7
        refine (live6_any _).mono ?_
        rintro e w11 ⟨rfl, hb11⟩
        have hS2 := hS.below hb11
        have hbd2 := hbd.trans (hb11.mono hbd.size)
        refine hK.out _ _ (hS2) ?_
        clear hK K
        try simp only [Act.put, List.setIfInBounds_toArray, List.set_cons_zero, List.set_cons_succ]
        repeat (first | (refine Seq.Seq.skip (by rfl) ?_; (try simp only [Act.put, List.setIfInBounds_toArray, List.set_cons_zero, List.set_cons_succ])) | (refine Seq.Seq.det ?_ (by rfl) (fun w hS => ?_) ?_; rotate_left; ((try dsimp only at hS); go_simp; (try rw [if_pos (by omega)]); with_reducible rfl); (try simp only [Act.put, List.setIfInBounds_toArray, List.set_cons_zero, List.set_cons_succ])))
        refine Seq.Seq.nil ?_
        go_wp2
        go_ret
        exact ⟨rfl, hbd2⟩
    · have hb2 : (c2' != 0) = true := by simpa using hc2
      clear hc2
      try simp only [hb2]
      repeat (first | (refine Seq.Seq.skip (by rfl) ?_; (try simp only [Act.put, List.setIfInBounds_toArray, List.set_cons_zero, List.set_cons_succ])) | (refine Seq.Seq.det ?_ (by rfl) (fun w hS => ?_) ?_; rotate_left; ((try dsimp only at hS); go_simp; (try rw [if_pos (by omega)]); with_reducible rfl); (try simp only [Act.put, List.setIfInBounds_toArray, List.set_cons_zero, List.set_cons_succ])))
      by_cases hc3 : c3' = 0
      · have hb3 : (c3' != 0) = false := by simpa using hc3
        have HP3 := HD3.out hc3
        clear hc3
        try simp only [hb3]
        repeat (first | (refine Seq.Seq.skip (by rfl) ?_; (try simp only [Act.put, List.setIfInBounds_toArray, List.set_cons_zero, List.set_cons_succ])) | (refine Seq.Seq.det ?_ (by rfl) (fun w hS => ?_) ?_; rotate_left; ((try dsimp only at hS); go_simp; (try rw [if_pos (by omega)]); with_reducible rfl); (try simp only [Act.put, List.setIfInBounds_toArray, List.set_cons_zero, List.set_cons_succ])))
        refine Seq.Seq.make (by rfl) (by rfl) (fun K Q' hK => ?_)
        go_simp
        go_at_call 26
        refine (at_any _ _ _ _ _ _ (by exact ht)).mono ?_
        rintro e w' ⟨rfl, rfl⟩
        rw [HP3]
        refine hK.out _ _ (hS) ?_
        clear hK K
        try simp only [Act.put, List.setIfInBounds_toArray, List.set_cons_zero, List.set_cons_succ]
        repeat (first | (refine Seq.Seq.skip (by rfl) ?_; (try simp only [Act.put, List.setIfInBounds_toArray, List.set_cons_zero, List.set_cons_succ])) | (refine Seq.Seq.det ?_ (by rfl) (fun w hS => ?_) ?_; rotate_left; ((try dsimp only at hS); go_simp; (try rw [if_pos (by omega)]); with_reducible rfl); (try simp only [Act.put, List.setIfInBounds_toArray, List.set_cons_zero, List.set_cons_succ])))
        refine Seq.Seq.make (by rfl) (by rfl) (fun K Q' hK => ?_)
        go_simp
        go_at_call 7
        refine (live6_any _).mono ?_
        rintro e w11 ⟨rfl, hb11⟩
        have hS2 := hS.below hb11
        have hbd2 := hbd.trans (hb11.mono hbd.size)
        refine hK.out _ _ (hS2) ?_
        clear hK K
        try simp only [Act.put, List.setIfInBounds_toArray, List.set_cons_zero, List.set_cons_succ]
        repeat (first | (refine Seq.Seq.skip (by rfl) ?_; (try simp only [Act.put, List.setIfInBounds_toArray, List.set_cons_zero, List.set_cons_succ])) | (refine Seq.Seq.det ?_ (by rfl) (fun w hS => ?_) ?_; rotate_left; ((try dsimp only at hS); go_simp; (try rw [if_pos (by omega)]); with_reducible rfl); (try simp only [Act.put, List.setIfInBounds_toArray, List.set_cons_zero, List.set_cons_succ])))
        refine Seq.Seq.nil ?_
        go_wp2
        go_ret
        exact ⟨rfl, hbd2⟩
      · have hb3 : (c3' != 0) = true := by simpa using hc3
        clear hc3
        try simp only [hb3]
        repeat (first | (refine Seq.Seq.skip (by rfl) ?_; (try simp only [Act.put, List.setIfInBounds_toArray, List.set_cons_zero, List.set_cons_succ])) | (refine Seq.Seq.det ?_ (by rfl) (fun w hS => ?_) ?_; rotate_left; ((try dsimp only at hS); go_simp; (try rw [if_pos (by omega)]); with_reducible rfl); (try simp only [Act.put, List.setIfInBounds_toArray, List.set_cons_zero, List.set_cons_succ])))
        refine Seq.Seq.make (by rfl) (by rfl) (fun K Q' hK => ?_)
        go_simp
        go_at_call 7
        refine (live6_any _).mono ?_
        rintro e w11 ⟨rfl, hb11⟩
        have hS2 := hS.below hb11
        have hbd2 := hbd.trans (hb11.mono hbd.size)
        refine hK.out _ _ (hS2) ?_
        clear hK K
        try simp only [Act.put, List.setIfInBounds_toArray, List.set_cons_zero, List.set_cons_succ]
        repeat (first | (refine Seq.Seq.skip (by rfl) ?_; (try simp only [Act.put, List.setIfInBounds_toArray, List.set_cons_zero, List.set_cons_succ])) | (refine Seq.Seq.det ?_ (by rfl) (fun w hS => ?_) ?_; rotate_left; ((try dsimp only at hS); go_simp; (try rw [if_pos (by omega)]); with_reducible rfl); (try simp only [Act.put, List.setIfInBounds_toArray, List.set_cons_zero, List.set_cons_succ])))
        refine Seq.Seq.nil ?_
        go_wp2
        go_ret
        exact ⟨rfl, hbd2⟩
  · have hb1 : (c1' != 0) = true := by simpa using hc1
    clear hc1
    repeat (first | (refine Seq.Seq.skip (by rfl) ?_; (try simp only [Act.put, List.setIfInBounds_toArray, List.set_cons_zero, List.set_cons_succ])) | (refine Seq.Seq.det ?_ (by rfl) (fun w hS => ?_) ?_; rotate_left; ((try dsimp only at hS); go_simp; (try rw [if_pos (by omega)]); with_reducible rfl); (try simp only [Act.put, List.setIfInBounds_toArray, List.set_cons_zero, List.set_cons_succ])))
    by_cases hc2 : c2' = 0
    · have hb2 : (c2' != 0) = false := by simpa using hc2
      have HP2 := HD2.out hc2
      clear hc2
      try simp only [hb2]
      repeat (first | (refine Seq.Seq.skip (by rfl) ?_; (try simp only [Act.put, List.setIfInBounds_toArray, List.set_cons_zero, List.set_cons_succ])) | (refine Seq.Seq.det ?_ (by rfl) (fun w hS => ?_) ?_; rotate_left; ((try dsimp only at hS); go_simp; (try rw [if_pos (by omega)]); with_reducible rfl); (try simp only [Act.put, List.setIfInBounds_toArray, List.set_cons_zero, List.set_cons_succ])))
      refine Seq.Seq.make (by rfl) (by rfl) (fun K Q' hK => ?_)
      go_simp
      go_at_call 26
      refine (at_any _ _ _ _ _ _ (by exact hs)).mono ?_
      rintro e w' ⟨rfl, rfl⟩
      rw [HP2]
      refine hK.out _ _ (hS) ?_
      clear hK K
      try simp only [Act.put, List.setIfInBounds_toArray, List.set_cons_zero, List.set_cons_succ]
      repeat (first | (refine Seq.Seq.skip (by rfl) ?_; (try simp only [Act.put, List.setIfInBounds_toArray, List.set_cons_zero, List.set_cons_succ])) | (refine Seq.Seq.det ?_ (by rfl) (fun w hS => ?_) ?_; rotate_left; ((try dsimp only at hS); go_simp; (try rw [if_pos (by omega)]); with_reducible rfl); (try simp only [Act.put, List.setIfInBounds_toArray, List.set_cons_zero, List.set_cons_succ])))
      by_cases hc3 : c3' = 0
      · have hb3 : (c3' != 0) = false := by simpa using hc3
        have HP3 := HD3.out hc3
        clear hc3
        try simp only [hb3]
        repeat (first | (refine Seq.Seq.skip (by rfl) ?_; (try simp only [Act.put, List.setIfInBounds_toArray, List.set_cons_zero, List.set_cons_succ])) | (refine Seq.Seq.det ?_ (by rfl) (fun w hS => ?_) ?_; rotate_left; ((try dsimp only at hS); go_simp; (try rw [if_pos (by omega)]); with_reducible rfl); (try simp only [Act.put, List.setIfInBounds_toArray, List.set_cons_zero, List.set_cons_succ])))
        refine Seq.Seq.make (by rfl) (by rfl) (fun K Q' hK => ?_)
        go_simp
        go_at_call 26
        refine (at_any _ _ _ _ _ _ (by exact ht)).mono ?_
        rintro e w' ⟨rfl, rfl⟩
        rw [HP3]
        refine hK.out _ _ (hS) ?_
        clear hK K
        try simp only [Act.put, List.setIfInBounds_toArray, List.set_cons_zero, List.set_cons_succ]
        repeat (first | (refine Seq.Seq.skip (by rfl) ?_; (try simp only [Act.put, List.setIfInBounds_toArray, List.set_cons_zero, List.set_cons_succ])) | (refine Seq.Seq.det ?_ (by rfl) (fun w hS => ?_) ?_; rotate_left; ((try dsimp only at hS); go_simp; (try rw [if_pos (by omega)]); with_reducible rfl); (try simp only [Act.put, List.setIfInBounds_toArray, List.set_cons_zero, List.set_cons_succ])))
        refine Seq.Seq.make (by rfl) (by rfl) (fun K Q' hK => ?_)
        go_simp
        go_at_call 7
        refine (live6_any _).mono ?_
        rintro e w11 ⟨rfl, hb11⟩
        have hS2 := hS.below hb11
        have hbd2 := hbd.trans (hb11.mono hbd.size)
        refine hK.out _ _ (hS2) ?_
        clear hK K
        try simp only [Act.put, List.setIfInBounds_toArray, List.set_cons_zero, List.set_cons_succ]
        repeat (first | (refine Seq.Seq.skip (by rfl) ?_; (try simp only [Act.put, List.setIfInBounds_toArray, List.set_cons_zero, List.set_cons_succ])) | (refine Seq.Seq.det ?_ (by rfl) (fun w hS => ?_) ?_; rotate_left; ((try dsimp only at hS); go_simp; (try rw [if_pos (by omega)]); with_reducible rfl); (try simp only [Act.put, List.setIfInBounds_toArray, List.set_cons_zero, List.set_cons_succ])))
        refine Seq.Seq.nil ?_
        go_wp2
        go_ret
        exact ⟨rfl, hbd2⟩
      · have hb3 : (c3' != 0) = true := by simpa using hc3
        clear hc3
        try simp only [hb3]
        repeat (first | (refine Seq.Seq.skip (by rfl) ?_; (try simp only [Act.put, List.setIfInBounds_toArray, List.set_cons_zero, List.set_cons_succ])) | (refine Seq.Seq.det ?_ (by rfl) (fun w hS => ?_) ?_; rotate_left; ((try dsimp only at hS); go_simp; (try rw [if_pos (by omega)]); with_reducible rfl); (try simp only [Act.put, List.setIfInBounds_toArray, List.set_cons_zero, List.set_cons_succ])))
        refine Seq.Seq.make (by rfl) (by rfl) (fun K Q' hK => ?_)
        go_simp
        go_at_call 7
        refine (live6_any _).mono ?_
        rintro e w11 ⟨rfl, hb11⟩
        have hS2 := hS.below hb11
        have hbd2 := hbd.trans (hb11.mono hbd.size)
        refine hK.out _ _ (hS2) ?_
        clear hK K
        try simp only [Act.put, List.setIfInBounds_toArray, List.set_cons_zero, List.set_cons_succ]
        repeat (first | (refine Seq.Seq.skip (by rfl) ?_; (try simp only [Act.put, List.setIfInBounds_toArray, List.set_cons_zero, List.set_cons_succ])) | (refine Seq.Seq.det ?_ (by rfl) (fun w hS => ?_) ?_; rotate_left; ((try dsimp only at hS); go_simp; (try rw [if_pos (by omega)]); with_reducible rfl); (try simp only [Act.put, List.setIfInBounds_toArray, List.set_cons_zero, List.set_cons_succ])))
        refine Seq.Seq.nil ?_
        go_wp2
        go_ret
        exact ⟨rfl, hbd2⟩
    · have hb2 : (c2' != 0) = true := by simpa using hc2
      clear hc2
      try simp only [hb2]
      repeat (first | (refine Seq.Seq.skip (by rfl) ?_; (try simp only [Act.put, List.setIfInBounds_toArray, List.set_cons_zero, List.set_cons_succ])) | (refine Seq.Seq.det ?_ (by rfl) (fun w hS => ?_) ?_; rotate_left; ((try dsimp only at hS); go_simp; (try rw [if_pos (by omega)]); with_reducible rfl); (try simp only [Act.put, List.setIfInBounds_toArray, List.set_cons_zero, List.set_cons_succ])))
      by_cases hc3 : c3' = 0
      · have hb3 : (c3' != 0) = false := by simpa using hc3
        have HP3 := HD3.out hc3
        clear hc3
        try simp only [hb3]
        repeat (first | (refine Seq.Seq.skip (by rfl) ?_; (try simp only [Act.put, List.setIfInBounds_toArray, List.set_cons_zero, List.set_cons_succ])) | (refine Seq.Seq.det ?_ (by rfl) (fun w hS => ?_) ?_; rotate_left; ((try dsimp only at hS); go_simp; (try rw [if_pos (by omega)]); with_reducible rfl); (try simp only [Act.put, List.setIfInBounds_toArray, List.set_cons_zero, List.set_cons_succ])))
        refine Seq.Seq.make (by rfl) (by rfl) (fun K Q' hK => ?_)
        go_simp
        go_at_call 26
        refine (at_any _ _ _ _ _ _ (by exact ht)).mono ?_
        rintro e w' ⟨rfl, rfl⟩
        rw [HP3]
        refine hK.out _ _ (hS) ?_
        clear hK K
        try simp only [Act.put, List.setIfInBounds_toArray, List.set_cons_zero, List.set_cons_succ]
        repeat (first | (refine Seq.Seq.skip (by rfl) ?_; (try simp only [Act.put, List.setIfInBounds_toArray, List.set_cons_zero, List.set_cons_succ])) | (refine Seq.Seq.det ?_ (by rfl) (fun w hS => ?_) ?_; rotate_left; ((try dsimp only at hS); go_simp; (try rw [if_pos (by omega)]); with_reducible rfl); (try simp only [Act.put, List.setIfInBounds_toArray, List.set_cons_zero, List.set_cons_succ])))
        refine Seq.Seq.make (by rfl) (by rfl) (fun K Q' hK => ?_)
        go_simp
        go_at_call 7
        refine (live6_any _).mono ?_
        rintro e w11 ⟨rfl, hb11⟩
        have hS2 := hS.below hb11
        have hbd2 := hbd.trans (hb11.mono hbd.size)
        refine hK.out _ _ (hS2) ?_
        clear hK K
        try simp only [Act.put, List.setIfInBounds_toArray, List.set_cons_zero, List.set_cons_succ]
        repeat (first | (refine Seq.Seq.skip (by rfl) ?_; (try simp only [Act.put, List.setIfInBounds_toArray, List.set_cons_zero, List.set_cons_succ])) | (refine Seq.Seq.det ?_ (by rfl) (fun w hS => ?_) ?_; rotate_left; ((try dsimp only at hS); go_simp; (try rw [if_pos (by omega)]); with_reducible rfl); (try simp only [Act.put, List.setIfInBounds_toArray, List.set_cons_zero, List.set_cons_succ])))
        refine Seq.Seq.nil ?_
        go_wp2
        go_ret
        exact ⟨rfl, hbd2⟩
      · have hb3 : (c3' != 0) = true := by simpa using hc3
        clear hc3
        try simp only [hb3]
        repeat (first | (refine Seq.Seq.skip (by rfl) ?_; (try simp only [Act.put, List.setIfInBounds_toArray, List.set_cons_zero, List.set_cons_succ])) | (refine Seq.Seq.det ?_ (by rfl) (fun w hS => ?_) ?_; rotate_left; ((try dsimp only at hS); go_simp; (try rw [if_pos (by omega)]); with_reducible rfl); (try simp only [Act.put, List.setIfInBounds_toArray, List.set_cons_zero, List.set_cons_succ])))
        refine Seq.Seq.make (by rfl) (by rfl) (fun K Q' hK => ?_)
        go_simp
        go_at_call 7
        refine (live6_any _).mono ?_
        rintro e w11 ⟨rfl, hb11⟩
        have hS2 := hS.below hb11
        have hbd2 := hbd.trans (hb11.mono hbd.size)
        refine hK.out _ _ (hS2) ?_
        clear hK K
        try simp only [Act.put, List.setIfInBounds_toArray, List.set_cons_zero, List.set_cons_succ]
        repeat (first | (refine Seq.Seq.skip (by rfl) ?_; (try simp only [Act.put, List.setIfInBounds_toArray, List.set_cons_zero, List.set_cons_succ])) | (refine Seq.Seq.det ?_ (by rfl) (fun w hS => ?_) ?_; rotate_left; ((try dsimp only at hS); go_simp; (try rw [if_pos (by omega)]); with_reducible rfl); (try simp only [Act.put, List.setIfInBounds_toArray, List.set_cons_zero, List.set_cons_succ])))
        refine Seq.Seq.nil ?_
        go_wp2
        go_ret
        exact ⟨rfl, hbd2⟩

set_option maxRecDepth 100000 in
theorem lifted (os : Os) (started : os.Started) (H : Type) (enc : TypeId × Value → H) :
    ReturnsInHanded {} Try.checked os 4 .any (Rows.blobReadsSpec.pre6 enc Try.prog Try.f4 Rows.blobReadsRow.domain false) (Rows.blobReadsSpec.post enc Try.prog Try.f4 false true false false) := by
  refine returnsInHanded_of_change (C := Try.checked) own started (by kernel_rfl) Try.func4
    (ChangeSpec.witness6 (enc := enc) (C := Try.checked) false ⟨#[], #[.slice none 0 0, .int .i64 0, .int .i64 0], []⟩ 8 (by kernel_rfl) (by kernel_rfl) (by kernel_rfl) (by kernel_rfl)) ?_
  intro W base args ds gs before hval0 hW hcnd _
  have hval : ∀ (j : Nat) t v, Try.f4.params[j]? = some t → args[j]? = some v → Value.okWide Try.prog W .any base t v := hval0
  have hW' := hW
  obtain ⟨p, q, hA0, hV, rfl, hfz, hnd⟩ := hW
  have hA : DataW.TrodAll enc Try.prog W 0 (fun _ => true) true Try.f4.params.toList args.toList ds p := hA0
  rw [Try.params4] at hA hval
  obtain ⟨v0, vs0, d0, ds0, p0, q0, hargs, rfl, rfl, h0, r0⟩ := trodAll_cons hA
  obtain ⟨v1, vs1, d1, ds1, p1, q1, rfl, rfl, rfl, h1, r1⟩ := trodAll_cons r0
  obtain ⟨v2, vs2, d2, ds2, p2, q2, rfl, rfl, rfl, h2, r2⟩ := trodAll_cons r1
  obtain ⟨rfl, rfl, rfl⟩ := trodAll_nil r2
  obtain rfl : args = #[v0, v1, v2] := by cases args; simp_all
  obtain ⟨rfl, rfl⟩ := trodVars_none hV
  have lt0 : ∀ x ∈ p0, x.block < W.heap.size := by obtain ⟨m, hm⟩ := h0; exact DataW.trod_lt m _ _ _ hm
  have lt1 : ∀ x ∈ p1, x.block < W.heap.size := by obtain ⟨m, hm⟩ := h1; exact DataW.trod_lt m _ _ _ hm
  have lt2 : ∀ x ∈ p2, x.block < W.heap.size := by obtain ⟨m, hm⟩ := h2; exact DataW.trod_lt m _ _ _ hm
  clear hA0 hval0
  refine (walk enc W base v0 d0 p0 (hval 0 22 v0 rfl rfl) h0 v1 d1 p1 (hval 1 3 v1 rfl rfl) h1 v2 d2 p2 (hval 2 3 v2 rfl rfl) h2).mono fun e W' ⟨he, bel⟩ => ?_
  subst he
  exact ⟨_, rfl, _, _, _, [], _, [], hW', trodAll_mk1 (shut_bool Try.underlying4 _), (trodAll_cons_mk (Below.trod laidOut (by kernel_rfl) (of_decide_eq_true (by kernel_rfl)) h0 bel lt0) (trodAll_cons_mk (Below.trod laidOut (by kernel_rfl) (of_decide_eq_true (by kernel_rfl)) h1 bel lt1) (trodAll_cons_mk (Below.trod laidOut (by kernel_rfl) (of_decide_eq_true (by kernel_rfl)) h2 bel lt2) trodAll_mk0))), rfl, bel.frame _, fun h => by cases h⟩

theorem over : Rows.blobReadsRow.holds Try.pinned (OpenSpec.ofChange Rows.blobReadsSpec) :=
  OpenClaim.holds_of_wide 4 Try.f4 rfl rfl rfl rfl rfl rfl rfl ⟨rfl, rfl, rfl, rfl, rfl⟩ rfl rfl rfl rfl rfl (by kernel_rfl) Try.func4 (by kernel_rfl)
    (of_decide_eq_true (by kernel_rfl)) (by unfold Func.isWrapper; first | (rw [if_pos (by decide +kernel)]; kernel_rfl) | (rw [if_neg (by decide +kernel)]; exact ⟨rfl, rfl⟩))
    (fun os started H enc _ => lifted os started H enc)

/-- THE STATEMENT. -/
theorem proved : Rows.BlobReadsSaid := over
#print axioms proved
end Go.Proofs.Ytkedmhopajpkhaa.blobReads
