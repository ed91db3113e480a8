/- EpochReads: called with any bytes, the law returns true; no condition. -/
import Derived.Test.YtpilpkhgoonfaaaRows
import Derived.Test.YtpilpkhgoonfaaaEpoC
import Derived.Test.YtpilpkhgoonfaaaK1
import Derived.ProofKit
import Derived.OpenShut
import Derived.ShutString
import Derived.ChangeOld
namespace Go.Proofs.Ytpilpkhgoonfaaa.epochReads
open Go.ChangeShapes Go.WideShapes Go.ChangeAt Go.RowKit
open Go.ChangeMaps (open_string shut_string)
set_option linter.unusedVariables false

theorem own : ownKnob Try.prog.godebug = none := by kernel_rfl
theorem laidOut : laidOutB Try.prog = true := by kernel_rfl
open Cur Mem


/-- What is read is put so again. -/
theorem ve_once {ok : Int → Bool} {z : List Int} (hby : ∀ x ∈ z, 0 ≤ x ∧ x < 256) (h : (ve ok z 0).2.2.1 = 0) :
    0 ≤ (ve ok z 0).1 ∧ (ve ok z 0).1 < 18446744073709551616 ∧ ∃ j : Nat, j ≤ z.length ∧ (ve ok z 0).2.1 = j ∧ vz (ve ok z 0).1 = z.take j := by
  obtain ⟨h0, _, e⟩ := ve_ok h
  rw [e]
  obtain ⟨g1, g2, g3, g4, g5⟩ := vg_once hby (Int.le_refl 0) (by omega) h0
  refine ⟨g2, g3, (vg z 0).2.1.toNat, by omega, by omega, ?_⟩
  rw [g1]; unfold piece; simp

/-- The document's reader. -/
def S1 (cb : Nat) (s : Value) (p c q : Int) (w' : World) : Prop := Blk w' cb (cvs s p c q) 40
theorem S1.below {cb : Nat} {s : Value} {p c q : Int} {w' w'' : World} (h : S1 cb s p c q w') (hb : Below w'.heap.size w' w'') : S1 cb s p c q w'' := Blk.below h hb


set_option maxRecDepth 100000 in
set_option maxHeartbeats 4000000 in
theorem walk {H : Type} (enc : TypeId × Value → H) (w : World) (base : Nat) (v0 : Value) (d0 : DataW H) (p0 : List MemPlace) (g0 : Value.okWide Try.prog w .any base 27 v0) (h0 : DataW.Trod enc Try.prog w 0 (fun _ => true) true 27 v0 d0 p0) :
    Calls Try.prog 4 #[v0] w fun e w' => e = .returned (.bool true) ∧ Below w.heap.size w w' := by
  obtain ⟨a, n, m, z, rfl, hnm, hz, hby, hnil⟩ := open_bytes g0 h0
  clear g0 h0
  by_cases hn : 300 < (n : Int)
  · go_enter Try.func4, Try.ntmps4
    go_wp2_with fail
    refine (live17_any _).mono ?_
    rintro e w1 ⟨rfl, rfl⟩
    go_wp2
    go_ret
    exact ⟨rfl, Below.refl _ _⟩
  have HBY := Lib.hid hby
  clear hby
  go_enter Try.func4, Try.ntmps4
  go_wp2
  go_loopw [3] (fun v wr => ∃ x : Int, v = .int .i64 x ∧ 1 ≤ x ∧ x ≤ 4 ∧ Below w.heap.size w wr) (fun v _ => (4 - intOf v).toNat)
  case atStart => exact ⟨1, rfl, by omega, by omega, Below.refl _ _⟩
  case round =>
    obtain ⟨x, rfl, k0, k1, hb⟩ := hrel
    have HW := Lib.hid hb.size
    obtain rfl | rfl | rfl | rfl : x = 1 ∨ x = 2 ∨ x = 3 ∨ x = 4 := by omega
    · clear k0 k1
      go_wp2_with fail
      refine (new_some _ _ _ _ hnm).mono ?_
      rintro e w1 ⟨rb, rfl, hrb, hb1, hr⟩
      have hbd := hb.trans (hb1.mono hb.size)
      clear hb hb1
      go_wp2_with fail
      refine (eread_any _ _ _ _ _ _ _ _ _ hr (hz.below hbd) (by omega) (by omega) (by omega) HBY.out).mono ?_
      rintro e w2 ⟨v, p', c', q', rfl, hk, hr2, hs⟩
      have HS := Lib.hid hs
      replace hbd := Kp.below hbd (Nat.le_refl _) hk (by have := HW.out; omega)
      clear hs hr hk
      go_wp2_with fail
      refine (rread17_e _ _ _ _ _ _ _ _ (hz.below hbd) (by omega) (by omega) hnm (by omega) HBY.out).mono ?_
      rintro e w3 ⟨v2, p2, c2, q2, rfl, hb3, hs⟩
      obtain ⟨rfl, rfl, rfl, hpp⟩ := HS.out.det hs
      have HPP := Lib.hid hpp
      replace hr2 := hr2.below hb3
      replace hbd := hbd.trans (hb3.mono hbd.size)
      have hbx := below_one w3 (.cells (cvs (.slice a n m) p2 c' q') 40)
      have hC := Blk.new w3 (cvs (.slice a n m) p2 c' q') 40
      replace hr2 := hr2.below hbx
      replace hbd := hbd.trans (hbx.mono hbd.size)
      clear hs hpp hb3 hbx
      go_wp2_with fail
      generalize w3.alloc (.cells (cvs (.slice a n m) p2 c' q') 40) = w4 at *
      generalize w3.heap.size = cb at *
      have L1 : ∀ w', S1 cb (.slice a n m) p2 c' q' w' → w'.cell? ⟨cb, 1, none⟩ = some (.int .i64 p2) ∧ w'.cell? ⟨cb, 2, none⟩ = some (.int .i64 c') ∧ w'.cell? ⟨cb, 3, none⟩ = some (.int .i64 q') := fun w' h => (Blk.c4 h).2
      have hS : S1 cb (.slice a n m) p2 c' q' w4.drew := hC
      replace hr2 := hr2.below (below_one' _)
      replace hbd := hbd.trans ((below_one' _).mono hbd.size)
      clear hC
      refine Seq.wp_region_seq (S1 cb (.slice a n m) p2 c' q') (by kernel_rfl) (by kernel_rfl) hS ?_
      repeat (first | (refine Seq.Seq.skip (by rfl) ?_; (try simp only [Act.put, List.setIfInBounds_toArray, List.set_cons_zero, List.set_cons_succ])) | (refine Seq.Seq.det ?_ (by rfl) (fun w hS => ?_) ?_; rotate_left; ((try dsimp only at hS); go_simp; (try rw [if_pos (by omega)]); with_reducible rfl); (try simp only [Act.put, List.setIfInBounds_toArray, List.set_cons_zero, List.set_cons_succ])))
      refine Seq.Seq.make (by rfl) (by rfl) (fun K Q' hK => ?_)
      go_simp
      go_at_call 23
      refine (fault_any _ _ _ _ _ _ (by exact hr2)).mono ?_
      rintro e w11 ⟨rfl, hb11⟩
      replace hr2 := hr2.below hb11
      replace hbd := hbd.trans (hb11.mono hbd.size)
      replace hS := hS.below hb11
      refine hK.out _ _ (hS) ?_
      clear hK K
      try simp only [Act.put, List.setIfInBounds_toArray, List.set_cons_zero, List.set_cons_succ]
      clear hb11
      by_cases hc : c' = 0
      · have hcb : (c' == 0) = true := by simpa using hc
        subst hc
        have hp := HPP.out rfl
        subst hp
        clear hcb
        obtain ⟨-, hg0, hg1, hg2, -⟩ := HS.out.good
        obtain ⟨y0, y1, j, hj, hj2, hj3⟩ := ve_once HBY.out hg0
        rw [← hg1] at y0 y1 hj3
        rw [← hg2] at hj2
        subst hj2
        have hjn : j ≤ n := by rw [← hz.1]; exact hj
        have HZT := Lib.hid (hz.take (k := j) hjn)
        rw [← hj3] at HZT
        have hjm : (j : Int) ≤ m := by omega
        clear hg0 hg1 hg2 hj hj3
        repeat (first | (refine Seq.Seq.skip (by rfl) ?_; (try simp only [Act.put, List.setIfInBounds_toArray, List.set_cons_zero, List.set_cons_succ])) | (refine Seq.Seq.det ?_ (by rfl) (fun w hS => ?_) ?_; rotate_left; ((try dsimp only at hS); go_simp; (try rw [if_pos (by omega)]); with_reducible rfl); (try simp only [Act.put, List.setIfInBounds_toArray, List.set_cons_zero, List.set_cons_succ])))
        refine Seq.Seq.make (by rfl) (by rfl) (fun K Q' hK => ?_)
        go_simp
        go_at_call 24
        refine (at_any _ _ _ _ _ _ (by exact hr2)).mono ?_
        rintro e w' ⟨rfl, rfl⟩
        refine hK.out _ _ (hS) ?_
        clear hK K
        try simp only [Act.put, List.setIfInBounds_toArray, List.set_cons_zero, List.set_cons_succ]
        repeat (first | (refine Seq.Seq.skip (by rfl) ?_; (try simp only [Act.put, List.setIfInBounds_toArray, List.set_cons_zero, List.set_cons_succ])) | (refine Seq.Seq.det ?_ (by rfl) (fun w hS => ?_) ?_; rotate_left; ((try dsimp only at hS); go_simp; (try rw [if_pos (by omega)]); with_reducible rfl); (try simp only [Act.put, List.setIfInBounds_toArray, List.set_cons_zero, List.set_cons_succ])))
        refine Seq.Seq.make (by rfl) (by rfl) (fun K Q' hK => ?_)
        go_simp
        go_at_call 16
        refine (rbytes_any 10 _ _ (vsz_le _) y0 y1).mono ?_
        rintro e w12 ⟨A12, m12, rfl, hb12, hbs12, _, _⟩
        replace hr2 := hr2.below hb12
        replace hbd := hbd.trans (hb12.mono hbd.size)
        replace hS := hS.below hb12
        refine hK.out _ _ (hS) ?_
        clear hK K
        try simp only [Act.put, List.setIfInBounds_toArray, List.set_cons_zero, List.set_cons_succ]
        clear hb12
        repeat (first | (refine Seq.Seq.skip (by rfl) ?_; (try simp only [Act.put, List.setIfInBounds_toArray, List.set_cons_zero, List.set_cons_succ])) | (refine Seq.Seq.det ?_ (by rfl) (fun w hS => ?_) ?_; rotate_left; ((try dsimp only at hS); go_simp; (try rw [if_pos (by omega)]); with_reducible rfl); (try simp only [Act.put, List.setIfInBounds_toArray, List.set_cons_zero, List.set_cons_succ])))
        refine Seq.Seq.make (by rfl) (by rfl) (fun K Q' hK => ?_)
        go_simp
        go_at_call 24
        refine (at_any _ _ _ _ _ _ (by exact hr2)).mono ?_
        rintro e w' ⟨rfl, rfl⟩
        refine hK.out _ _ (hS) ?_
        clear hK K
        try simp only [Act.put, List.setIfInBounds_toArray, List.set_cons_zero, List.set_cons_succ]
        repeat (first | (refine Seq.Seq.skip (by rfl) ?_; (try simp only [Act.put, List.setIfInBounds_toArray, List.set_cons_zero, List.set_cons_succ])) | (refine Seq.Seq.det ?_ (by rfl) (fun w hS => ?_) ?_; rotate_left; ((try dsimp only at hS); go_simp; (try rw [if_pos (by omega)]); with_reducible rfl); (try simp only [Act.put, List.setIfInBounds_toArray, List.set_cons_zero, List.set_cons_succ])))
        refine Seq.Seq.make (by rfl) (by rfl) (fun K Q' hK => ?_)
        go_simp
        go_at_call 15
        refine (same_any _ _ _ _ _ _ (vz v) _ hbs12 (HZT.out.below hbd)).mono ?_
        rintro e w' ⟨rfl, rfl⟩
        refine hK.out _ _ (hS) ?_
        clear hK K
        try simp only [Act.put, List.setIfInBounds_toArray, List.set_cons_zero, List.set_cons_succ]
        repeat (first | (refine Seq.Seq.skip (by rfl) ?_; (try simp only [Act.put, List.setIfInBounds_toArray, List.set_cons_zero, List.set_cons_succ])) | (refine Seq.Seq.det ?_ (by rfl) (fun w hS => ?_) ?_; rotate_left; ((try dsimp only at hS); go_simp; (try rw [if_pos (by omega)]); with_reducible rfl); (try simp only [Act.put, List.setIfInBounds_toArray, List.set_cons_zero, List.set_cons_succ])))
        refine Seq.Seq.nil ?_
        go_wp2
        go_roundw
        case rel => exact ⟨_, rfl, by omega, by omega, hbd⟩
        case measure => simp [intOf]
      · have hcb : (c' == 0) = false := by simpa using hc
        clear hc
        try simp only [hcb]
        repeat (first | (refine Seq.Seq.skip (by rfl) ?_; (try simp only [Act.put, List.setIfInBounds_toArray, List.set_cons_zero, List.set_cons_succ])) | (refine Seq.Seq.det ?_ (by rfl) (fun w hS => ?_) ?_; rotate_left; ((try dsimp only at hS); go_simp; (try rw [if_pos (by omega)]); with_reducible rfl); (try simp only [Act.put, List.setIfInBounds_toArray, List.set_cons_zero, List.set_cons_succ])))
        refine Seq.Seq.nil ?_
        go_wp2
        go_roundw
        case rel => exact ⟨_, rfl, by omega, by omega, hbd⟩
        case measure => simp [intOf]
    · clear k0 k1
      go_wp2_with fail
      refine (new_some _ _ _ _ hnm).mono ?_
      rintro e w1 ⟨rb, rfl, hrb, hb1, hr⟩
      have hbd := hb.trans (hb1.mono hb.size)
      clear hb hb1
      go_wp2_with fail
      refine (ereadpos_any _ _ _ _ _ _ _ _ _ hr (hz.below hbd) (by omega) (by omega) (by omega) HBY.out).mono ?_
      rintro e w2 ⟨v, p', c', q', rfl, hk, hr2, hs⟩
      have HS := Lib.hid hs
      replace hbd := Kp.below hbd (Nat.le_refl _) hk (by have := HW.out; omega)
      clear hs hr hk
      go_wp2_with fail
      refine (rread17_p _ _ _ _ _ _ _ _ (hz.below hbd) (by omega) (by omega) hnm (by omega) HBY.out).mono ?_
      rintro e w3 ⟨v2, p2, c2, q2, rfl, hb3, hs⟩
      obtain ⟨rfl, rfl, rfl, hpp⟩ := HS.out.det hs
      have HPP := Lib.hid hpp
      replace hr2 := hr2.below hb3
      replace hbd := hbd.trans (hb3.mono hbd.size)
      have hbx := below_one w3 (.cells (cvs (.slice a n m) p2 c' q') 40)
      have hC := Blk.new w3 (cvs (.slice a n m) p2 c' q') 40
      replace hr2 := hr2.below hbx
      replace hbd := hbd.trans (hbx.mono hbd.size)
      clear hs hpp hb3 hbx
      go_wp2_with fail
      generalize w3.alloc (.cells (cvs (.slice a n m) p2 c' q') 40) = w4 at *
      generalize w3.heap.size = cb at *
      have L1 : ∀ w', S1 cb (.slice a n m) p2 c' q' w' → w'.cell? ⟨cb, 1, none⟩ = some (.int .i64 p2) ∧ w'.cell? ⟨cb, 2, none⟩ = some (.int .i64 c') ∧ w'.cell? ⟨cb, 3, none⟩ = some (.int .i64 q') := fun w' h => (Blk.c4 h).2
      have hS : S1 cb (.slice a n m) p2 c' q' w4.drew := hC
      replace hr2 := hr2.below (below_one' _)
      replace hbd := hbd.trans ((below_one' _).mono hbd.size)
      clear hC
      refine Seq.wp_region_seq (S1 cb (.slice a n m) p2 c' q') (by kernel_rfl) (by kernel_rfl) hS ?_
      repeat (first | (refine Seq.Seq.skip (by rfl) ?_; (try simp only [Act.put, List.setIfInBounds_toArray, List.set_cons_zero, List.set_cons_succ])) | (refine Seq.Seq.det ?_ (by rfl) (fun w hS => ?_) ?_; rotate_left; ((try dsimp only at hS); go_simp; (try rw [if_pos (by omega)]); with_reducible rfl); (try simp only [Act.put, List.setIfInBounds_toArray, List.set_cons_zero, List.set_cons_succ])))
      refine Seq.Seq.make (by rfl) (by rfl) (fun K Q' hK => ?_)
      go_simp
      go_at_call 23
      refine (fault_any _ _ _ _ _ _ (by exact hr2)).mono ?_
      rintro e w11 ⟨rfl, hb11⟩
      replace hr2 := hr2.below hb11
      replace hbd := hbd.trans (hb11.mono hbd.size)
      replace hS := hS.below hb11
      refine hK.out _ _ (hS) ?_
      clear hK K
      try simp only [Act.put, List.setIfInBounds_toArray, List.set_cons_zero, List.set_cons_succ]
      clear hb11
      by_cases hc : c' = 0
      · have hcb : (c' == 0) = true := by simpa using hc
        subst hc
        have hp := HPP.out rfl
        subst hp
        clear hcb
        obtain ⟨-, hg0, hg1, hg2, -⟩ := HS.out.good
        obtain ⟨y0, y1, j, hj, hj2, hj3⟩ := ve_once HBY.out hg0
        rw [← hg1] at y0 y1 hj3
        rw [← hg2] at hj2
        subst hj2
        have hjn : j ≤ n := by rw [← hz.1]; exact hj
        have HZT := Lib.hid (hz.take (k := j) hjn)
        rw [← hj3] at HZT
        have hjm : (j : Int) ≤ m := by omega
        clear hg0 hg1 hg2 hj hj3
        repeat (first | (refine Seq.Seq.skip (by rfl) ?_; (try simp only [Act.put, List.setIfInBounds_toArray, List.set_cons_zero, List.set_cons_succ])) | (refine Seq.Seq.det ?_ (by rfl) (fun w hS => ?_) ?_; rotate_left; ((try dsimp only at hS); go_simp; (try rw [if_pos (by omega)]); with_reducible rfl); (try simp only [Act.put, List.setIfInBounds_toArray, List.set_cons_zero, List.set_cons_succ])))
        refine Seq.Seq.make (by rfl) (by rfl) (fun K Q' hK => ?_)
        go_simp
        go_at_call 24
        refine (at_any _ _ _ _ _ _ (by exact hr2)).mono ?_
        rintro e w' ⟨rfl, rfl⟩
        refine hK.out _ _ (hS) ?_
        clear hK K
        try simp only [Act.put, List.setIfInBounds_toArray, List.set_cons_zero, List.set_cons_succ]
        repeat (first | (refine Seq.Seq.skip (by rfl) ?_; (try simp only [Act.put, List.setIfInBounds_toArray, List.set_cons_zero, List.set_cons_succ])) | (refine Seq.Seq.det ?_ (by rfl) (fun w hS => ?_) ?_; rotate_left; ((try dsimp only at hS); go_simp; (try rw [if_pos (by omega)]); with_reducible rfl); (try simp only [Act.put, List.setIfInBounds_toArray, List.set_cons_zero, List.set_cons_succ])))
        refine Seq.Seq.make (by rfl) (by rfl) (fun K Q' hK => ?_)
        go_simp
        go_at_call 16
        refine (rbytes_any 10 _ _ (vsz_le _) y0 y1).mono ?_
        rintro e w12 ⟨A12, m12, rfl, hb12, hbs12, _, _⟩
        replace hr2 := hr2.below hb12
        replace hbd := hbd.trans (hb12.mono hbd.size)
        replace hS := hS.below hb12
        refine hK.out _ _ (hS) ?_
        clear hK K
        try simp only [Act.put, List.setIfInBounds_toArray, List.set_cons_zero, List.set_cons_succ]
        clear hb12
        repeat (first | (refine Seq.Seq.skip (by rfl) ?_; (try simp only [Act.put, List.setIfInBounds_toArray, List.set_cons_zero, List.set_cons_succ])) | (refine Seq.Seq.det ?_ (by rfl) (fun w hS => ?_) ?_; rotate_left; ((try dsimp only at hS); go_simp; (try rw [if_pos (by omega)]); with_reducible rfl); (try simp only [Act.put, List.setIfInBounds_toArray, List.set_cons_zero, List.set_cons_succ])))
        refine Seq.Seq.make (by rfl) (by rfl) (fun K Q' hK => ?_)
        go_simp
        go_at_call 24
        refine (at_any _ _ _ _ _ _ (by exact hr2)).mono ?_
        rintro e w' ⟨rfl, rfl⟩
        refine hK.out _ _ (hS) ?_
        clear hK K
        try simp only [Act.put, List.setIfInBounds_toArray, List.set_cons_zero, List.set_cons_succ]
        repeat (first | (refine Seq.Seq.skip (by rfl) ?_; (try simp only [Act.put, List.setIfInBounds_toArray, List.set_cons_zero, List.set_cons_succ])) | (refine Seq.Seq.det ?_ (by rfl) (fun w hS => ?_) ?_; rotate_left; ((try dsimp only at hS); go_simp; (try rw [if_pos (by omega)]); with_reducible rfl); (try simp only [Act.put, List.setIfInBounds_toArray, List.set_cons_zero, List.set_cons_succ])))
        refine Seq.Seq.make (by rfl) (by rfl) (fun K Q' hK => ?_)
        go_simp
        go_at_call 15
        refine (same_any _ _ _ _ _ _ (vz v) _ hbs12 (HZT.out.below hbd)).mono ?_
        rintro e w' ⟨rfl, rfl⟩
        refine hK.out _ _ (hS) ?_
        clear hK K
        try simp only [Act.put, List.setIfInBounds_toArray, List.set_cons_zero, List.set_cons_succ]
        repeat (first | (refine Seq.Seq.skip (by rfl) ?_; (try simp only [Act.put, List.setIfInBounds_toArray, List.set_cons_zero, List.set_cons_succ])) | (refine Seq.Seq.det ?_ (by rfl) (fun w hS => ?_) ?_; rotate_left; ((try dsimp only at hS); go_simp; (try rw [if_pos (by omega)]); with_reducible rfl); (try simp only [Act.put, List.setIfInBounds_toArray, List.set_cons_zero, List.set_cons_succ])))
        refine Seq.Seq.nil ?_
        go_wp2
        go_roundw
        case rel => exact ⟨_, rfl, by omega, by omega, hbd⟩
        case measure => simp [intOf]
      · have hcb : (c' == 0) = false := by simpa using hc
        clear hc
        try simp only [hcb]
        repeat (first | (refine Seq.Seq.skip (by rfl) ?_; (try simp only [Act.put, List.setIfInBounds_toArray, List.set_cons_zero, List.set_cons_succ])) | (refine Seq.Seq.det ?_ (by rfl) (fun w hS => ?_) ?_; rotate_left; ((try dsimp only at hS); go_simp; (try rw [if_pos (by omega)]); with_reducible rfl); (try simp only [Act.put, List.setIfInBounds_toArray, List.set_cons_zero, List.set_cons_succ])))
        refine Seq.Seq.nil ?_
        go_wp2
        go_roundw
        case rel => exact ⟨_, rfl, by omega, by omega, hbd⟩
        case measure => simp [intOf]
    · clear k0 k1
      go_wp2_with fail
      refine (new_some _ _ _ _ hnm).mono ?_
      rintro e w1 ⟨rb, rfl, hrb, hb1, hr⟩
      have hbd := hb.trans (hb1.mono hb.size)
      clear hb hb1
      go_wp2_with fail
      refine (ereadtail_any _ _ _ _ _ _ _ _ _ hr (hz.below hbd) (by omega) (by omega) (by omega) HBY.out).mono ?_
      rintro e w2 ⟨v, p', c', q', rfl, hk, hr2, hs⟩
      have HS := Lib.hid hs
      replace hbd := Kp.below hbd (Nat.le_refl _) hk (by have := HW.out; omega)
      clear hs hr hk
      go_wp2_with fail
      refine (rread17_t _ _ _ _ _ _ _ _ (hz.below hbd) (by omega) (by omega) hnm (by omega) HBY.out).mono ?_
      rintro e w3 ⟨v2, p2, c2, q2, rfl, hb3, hs⟩
      obtain ⟨rfl, rfl, rfl, hpp⟩ := HS.out.det hs
      have HPP := Lib.hid hpp
      replace hr2 := hr2.below hb3
      replace hbd := hbd.trans (hb3.mono hbd.size)
      have hbx := below_one w3 (.cells (cvs (.slice a n m) p2 c' q') 40)
      have hC := Blk.new w3 (cvs (.slice a n m) p2 c' q') 40
      replace hr2 := hr2.below hbx
      replace hbd := hbd.trans (hbx.mono hbd.size)
      clear hs hpp hb3 hbx
      go_wp2_with fail
      generalize w3.alloc (.cells (cvs (.slice a n m) p2 c' q') 40) = w4 at *
      generalize w3.heap.size = cb at *
      have L1 : ∀ w', S1 cb (.slice a n m) p2 c' q' w' → w'.cell? ⟨cb, 1, none⟩ = some (.int .i64 p2) ∧ w'.cell? ⟨cb, 2, none⟩ = some (.int .i64 c') ∧ w'.cell? ⟨cb, 3, none⟩ = some (.int .i64 q') := fun w' h => (Blk.c4 h).2
      have hS : S1 cb (.slice a n m) p2 c' q' w4.drew := hC
      replace hr2 := hr2.below (below_one' _)
      replace hbd := hbd.trans ((below_one' _).mono hbd.size)
      clear hC
      refine Seq.wp_region_seq (S1 cb (.slice a n m) p2 c' q') (by kernel_rfl) (by kernel_rfl) hS ?_
      repeat (first | (refine Seq.Seq.skip (by rfl) ?_; (try simp only [Act.put, List.setIfInBounds_toArray, List.set_cons_zero, List.set_cons_succ])) | (refine Seq.Seq.det ?_ (by rfl) (fun w hS => ?_) ?_; rotate_left; ((try dsimp only at hS); go_simp; (try rw [if_pos (by omega)]); with_reducible rfl); (try simp only [Act.put, List.setIfInBounds_toArray, List.set_cons_zero, List.set_cons_succ])))
      refine Seq.Seq.make (by rfl) (by rfl) (fun K Q' hK => ?_)
      go_simp
      go_at_call 23
      refine (fault_any _ _ _ _ _ _ (by exact hr2)).mono ?_
      rintro e w11 ⟨rfl, hb11⟩
      replace hr2 := hr2.below hb11
      replace hbd := hbd.trans (hb11.mono hbd.size)
      replace hS := hS.below hb11
      refine hK.out _ _ (hS) ?_
      clear hK K
      try simp only [Act.put, List.setIfInBounds_toArray, List.set_cons_zero, List.set_cons_succ]
      clear hb11
      by_cases hc : c' = 0
      · have hcb : (c' == 0) = true := by simpa using hc
        subst hc
        have hp := HPP.out rfl
        subst hp
        clear hcb
        obtain ⟨-, hg0, hg1, hg2, -⟩ := HS.out.good
        obtain ⟨y0, y1, j, hj, hj2, hj3⟩ := ve_once HBY.out hg0
        rw [← hg1] at y0 y1 hj3
        rw [← hg2] at hj2
        subst hj2
        have hjn : j ≤ n := by rw [← hz.1]; exact hj
        have HZT := Lib.hid (hz.take (k := j) hjn)
        rw [← hj3] at HZT
        have hjm : (j : Int) ≤ m := by omega
        clear hg0 hg1 hg2 hj hj3
        repeat (first | (refine Seq.Seq.skip (by rfl) ?_; (try simp only [Act.put, List.setIfInBounds_toArray, List.set_cons_zero, List.set_cons_succ])) | (refine Seq.Seq.det ?_ (by rfl) (fun w hS => ?_) ?_; rotate_left; ((try dsimp only at hS); go_simp; (try rw [if_pos (by omega)]); with_reducible rfl); (try simp only [Act.put, List.setIfInBounds_toArray, List.set_cons_zero, List.set_cons_succ])))
        refine Seq.Seq.make (by rfl) (by rfl) (fun K Q' hK => ?_)
        go_simp
        go_at_call 24
        refine (at_any _ _ _ _ _ _ (by exact hr2)).mono ?_
        rintro e w' ⟨rfl, rfl⟩
        refine hK.out _ _ (hS) ?_
        clear hK K
        try simp only [Act.put, List.setIfInBounds_toArray, List.set_cons_zero, List.set_cons_succ]
        repeat (first | (refine Seq.Seq.skip (by rfl) ?_; (try simp only [Act.put, List.setIfInBounds_toArray, List.set_cons_zero, List.set_cons_succ])) | (refine Seq.Seq.det ?_ (by rfl) (fun w hS => ?_) ?_; rotate_left; ((try dsimp only at hS); go_simp; (try rw [if_pos (by omega)]); with_reducible rfl); (try simp only [Act.put, List.setIfInBounds_toArray, List.set_cons_zero, List.set_cons_succ])))
        refine Seq.Seq.make (by rfl) (by rfl) (fun K Q' hK => ?_)
        go_simp
        go_at_call 16
        refine (rbytes_any 10 _ _ (vsz_le _) y0 y1).mono ?_
        rintro e w12 ⟨A12, m12, rfl, hb12, hbs12, _, _⟩
        replace hr2 := hr2.below hb12
        replace hbd := hbd.trans (hb12.mono hbd.size)
        replace hS := hS.below hb12
        refine hK.out _ _ (hS) ?_
        clear hK K
        try simp only [Act.put, List.setIfInBounds_toArray, List.set_cons_zero, List.set_cons_succ]
        clear hb12
        repeat (first | (refine Seq.Seq.skip (by rfl) ?_; (try simp only [Act.put, List.setIfInBounds_toArray, List.set_cons_zero, List.set_cons_succ])) | (refine Seq.Seq.det ?_ (by rfl) (fun w hS => ?_) ?_; rotate_left; ((try dsimp only at hS); go_simp; (try rw [if_pos (by omega)]); with_reducible rfl); (try simp only [Act.put, List.setIfInBounds_toArray, List.set_cons_zero, List.set_cons_succ])))
        refine Seq.Seq.make (by rfl) (by rfl) (fun K Q' hK => ?_)
        go_simp
        go_at_call 24
        refine (at_any _ _ _ _ _ _ (by exact hr2)).mono ?_
        rintro e w' ⟨rfl, rfl⟩
        refine hK.out _ _ (hS) ?_
        clear hK K
        try simp only [Act.put, List.setIfInBounds_toArray, List.set_cons_zero, List.set_cons_succ]
        repeat (first | (refine Seq.Seq.skip (by rfl) ?_; (try simp only [Act.put, List.setIfInBounds_toArray, List.set_cons_zero, List.set_cons_succ])) | (refine Seq.Seq.det ?_ (by rfl) (fun w hS => ?_) ?_; rotate_left; ((try dsimp only at hS); go_simp; (try rw [if_pos (by omega)]); with_reducible rfl); (try simp only [Act.put, List.setIfInBounds_toArray, List.set_cons_zero, List.set_cons_succ])))
        refine Seq.Seq.make (by rfl) (by rfl) (fun K Q' hK => ?_)
        go_simp
        go_at_call 15
        refine (same_any _ _ _ _ _ _ (vz v) _ hbs12 (HZT.out.below hbd)).mono ?_
        rintro e w' ⟨rfl, rfl⟩
        refine hK.out _ _ (hS) ?_
        clear hK K
        try simp only [Act.put, List.setIfInBounds_toArray, List.set_cons_zero, List.set_cons_succ]
        repeat (first | (refine Seq.Seq.skip (by rfl) ?_; (try simp only [Act.put, List.setIfInBounds_toArray, List.set_cons_zero, List.set_cons_succ])) | (refine Seq.Seq.det ?_ (by rfl) (fun w hS => ?_) ?_; rotate_left; ((try dsimp only at hS); go_simp; (try rw [if_pos (by omega)]); with_reducible rfl); (try simp only [Act.put, List.setIfInBounds_toArray, List.set_cons_zero, List.set_cons_succ])))
        refine Seq.Seq.nil ?_
        go_wp2
        go_roundw
        case rel => exact ⟨_, rfl, by omega, by omega, hbd⟩
        case measure => simp [intOf]
      · have hcb : (c' == 0) = false := by simpa using hc
        clear hc
        try simp only [hcb]
        repeat (first | (refine Seq.Seq.skip (by rfl) ?_; (try simp only [Act.put, List.setIfInBounds_toArray, List.set_cons_zero, List.set_cons_succ])) | (refine Seq.Seq.det ?_ (by rfl) (fun w hS => ?_) ?_; rotate_left; ((try dsimp only at hS); go_simp; (try rw [if_pos (by omega)]); with_reducible rfl); (try simp only [Act.put, List.setIfInBounds_toArray, List.set_cons_zero, List.set_cons_succ])))
        refine Seq.Seq.nil ?_
        go_wp2
        go_roundw
        case rel => exact ⟨_, rfl, by omega, by omega, hbd⟩
        case measure => simp [intOf]
    · go_wp2_with fail
      refine (live17_any _).mono ?_
      rintro e w1 ⟨rfl, rfl⟩
      go_wp2
      go_ret
      exact ⟨rfl, hb⟩

set_option maxRecDepth 100000 in
theorem lifted (os : Os) (started : os.Started) (H : Type) (enc : TypeId × Value → H) :
    ReturnsInHanded {} Try.checked os 4 .any (Rows.epochReadsSpec.pre6 enc Try.prog Try.f4 Rows.epochReadsRow.domain false) (Rows.epochReadsSpec.post enc Try.prog Try.f4 false true false false) := by
  refine returnsInHanded_of_change (C := Try.checked) own started (by kernel_rfl) Try.func4
    (ChangeSpec.witness6 (enc := enc) (C := Try.checked) false ⟨#[], #[.slice none 0 0], []⟩ 8 (by kernel_rfl) (by kernel_rfl) (by kernel_rfl) (by kernel_rfl)) ?_
  intro W base args ds gs before hval0 hW hcnd _
  have hval : ∀ (j : Nat) t v, Try.f4.params[j]? = some t → args[j]? = some v → Value.okWide Try.prog W .any base t v := hval0
  have hW' := hW
  obtain ⟨p, q, hA0, hV, rfl, hfz, hnd⟩ := hW
  have hA : DataW.TrodAll enc Try.prog W 0 (fun _ => true) true Try.f4.params.toList args.toList ds p := hA0
  rw [Try.params4] at hA hval
  obtain ⟨v0, vs0, d0, ds0, p0, q0, hargs, rfl, rfl, h0, r0⟩ := trodAll_cons hA
  obtain ⟨rfl, rfl, rfl⟩ := trodAll_nil r0
  obtain rfl : args = #[v0] := by cases args; simp_all
  obtain ⟨rfl, rfl⟩ := trodVars_none hV
  have lt0 : ∀ x ∈ p0, x.block < W.heap.size := by obtain ⟨m, hm⟩ := h0; exact DataW.trod_lt m _ _ _ hm
  clear hA0 hval0
  refine (walk enc W base v0 d0 p0 (hval 0 27 v0 rfl rfl) h0).mono fun e W' ⟨he, bel⟩ => ?_
  subst he
  exact ⟨_, rfl, _, _, _, [], _, [], hW', trodAll_mk1 (shut_bool Try.underlying4 _), (trodAll_cons_mk (Below.trod laidOut (by kernel_rfl) (of_decide_eq_true (by kernel_rfl)) h0 bel lt0) trodAll_mk0), rfl, bel.frame _, fun h => by cases h⟩

theorem over : Rows.epochReadsRow.holds Try.pinned (OpenSpec.ofChange Rows.epochReadsSpec) :=
  OpenClaim.holds_of_wide 4 Try.f4 rfl rfl rfl rfl rfl rfl rfl ⟨rfl, rfl, rfl, rfl, rfl⟩ rfl rfl rfl rfl rfl (by kernel_rfl) Try.func4 (by kernel_rfl)
    (of_decide_eq_true (by kernel_rfl)) (by unfold Func.isWrapper; first | (rw [if_pos (by decide +kernel)]; kernel_rfl) | (rw [if_neg (by decide +kernel)]; exact ⟨rfl, rfl⟩))
    (fun os started H enc _ => lifted os started H enc)

/-- THE STATEMENT. -/
theorem proved : Rows.EpochReadsSaid := over
#print axioms proved
end Go.Proofs.Ytpilpkhgoonfaaa.epochReads
