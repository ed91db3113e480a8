/- TallyTells: called with any two counts and any two numbers, the law returns true; no condition. -/
import Derived.Test.YtepebneigehboaaRows
import Derived.Test.YtepebneigehboaaTalD
import Derived.ProofKit
import Derived.OpenShut
import Derived.ShutString
import Derived.ChangeOld
namespace Go.Proofs.Ytepebneigehboaa.tallyTells
open Go.ChangeShapes Go.WideShapes Go.ChangeAt Go.RowKit
open Go.ChangeMaps (open_string shut_string)
set_option linter.unusedVariables false

theorem own : ownKnob Try.prog.godebug = none := by kernel_rfl
theorem laidOut : laidOutB Try.prog = true := by kernel_rfl
open Cur Mem Flt


set_option maxRecDepth 100000 in
set_option maxHeartbeats 4000000 in
theorem walk {H : Type} (enc : TypeId × Value → H) (w : World) (base : Nat) (v0 : Value) (d0 : DataW H) (p0 : List MemPlace) (g0 : Value.okWide Try.prog w .any base 3 v0) (h0 : DataW.Trod enc Try.prog w 0 (fun _ => true) true 3 v0 d0 p0) (v1 : Value) (d1 : DataW H) (p1 : List MemPlace) (g1 : Value.okWide Try.prog w .any base 3 v1) (h1 : DataW.Trod enc Try.prog w 0 (fun _ => true) true 3 v1 d1 p1) (v2 : Value) (d2 : DataW H) (p2 : List MemPlace) (g2 : Value.okWide Try.prog w .any base 22 v2) (h2 : DataW.Trod enc Try.prog w 0 (fun _ => true) true 22 v2 d2 p2) :
    Calls Try.prog 3 #[v0, v1, v2] w fun e w' => e = .returned (.bool true) ∧ Below w.heap.size w w' := by
  obtain ⟨n, rfl, n0, n1⟩ := open_i64 g0 h0
  obtain ⟨m, rfl, m0, m1⟩ := open_i64 g1 h1
  obtain ⟨p, q, rfl, _, _, wp, wq⟩ := WideMaps.open_pair (k := 22) (e := 3) ⟨Try.underlying22, by kernel_rfl, by kernel_rfl, by kernel_rfl⟩ Try.underlying3 g2 h2
  clear g0 h0 g1 h1 g2 h2 wp wq n0 n1 m0 m1
  have ho := of_any n m
  have hr := rof_any n m
  have hm := made_any p q
  have hbx := below_one w (.cells #[.int .i64 p, .int .i64 q] 22)
  have hblk := Blk.new w #[.int .i64 p, .int .i64 q] 22
  have q0 := pt_self pt_zero
  cases hb : rt n m
  · rw [hb] at ho
    rw [if_neg (by decide)] at ho
    rw [nz_not hb] at ho
    have e1 : tof n m = .agg #[.int .i64 0, .int .i64 0, .bool true] := by unfold tof; rw [hb]; rfl
    rw [e1] at hr
    clear e1
    go_enter Try.func3, Try.ntmps3
    go_wp2_with fail
    refine (ho _).mono ?_
    rintro e w' ⟨rfl, rfl⟩
    go_wp2_with fail
    refine (hr _).mono ?_
    rintro e w2 ⟨rfl, hb2⟩
    have hbd := hbx.trans (hb2.mono hbx.size)
    have hbk := (hblk.below hb2).alloc (.cells #[.int .i64 0, .int .i64 0, .bool true] 28)
    obtain ⟨l0, l1⟩ := hbk.c2
    have hbd4 := hbd.alloc hbd.size (.cells #[.int .i64 0, .int .i64 0, .bool true] 28)
    clear hb2
    go_wp2_with fail
    refine (hm _).mono ?_
    rintro e w5 ⟨rfl, hb5⟩
    have hbd5 := hbd4.trans (hb5.mono hbd4.size)
    clear hb5 hbd4 hbd hbk l0 l1 hblk hbx ho hr hm hb
    have p3 := pt_int (cl p)
    have p4 := pt_int (cl q)
    have r1 := right_any p3 p4
    have r2 := things_any p3 p4
    have r3 := bytesT_any p3 p4
    have hs2 := as_any p3 p4 (cl p) (cl q) false
    unfold tq at hs2
    cases hc : rt (cl p) (cl q)
    · rw [hc] at r1 r2 r3
      rw [if_neg (by decide)] at r2 r3
      have e1 : tof (cl p) (cl q) = .agg #[.int .i64 0, .int .i64 0, .bool true] := by unfold tof; rw [hc]; rfl
      rw [e1]
      clear e1 hs2 p3 p4 hc
      generalize floatOfInt .f64 (cl p) = x at *
      generalize floatOfInt .f64 (cl q) = y at *
      go_wp2
      have hbA := hbd5.alloc hbd5.size (.cells #[.int .i64 0, .int .i64 0, .bool true] 28)
      have hcA := Blk.new w5 #[.int .i64 0, .int .i64 0, .bool true] 28
      generalize w5.alloc (.cells #[.int .i64 0, .int .i64 0, .bool true] 28) = wA at *
      generalize htb : w5.heap.size = tb at hcA ⊢
      clear htb
      have L : ∀ w', Blk w' tb #[.int .i64 0, .int .i64 0, .bool true] 28 → w'.cell? ⟨tb, 0, none⟩ = some (.int .i64 0) ∧ w'.cell? ⟨tb, 1, none⟩ = some (.int .i64 0) ∧ w'.cell? ⟨tb, 2, none⟩ = some (.bool true) := fun w' h => h.c3
      have hS : Blk wA.drew tb #[.int .i64 0, .int .i64 0, .bool true] 28 := hcA
      have hbdA : Below w.heap.size w wA.drew := hbA.drew
      clear hcA hbA
      refine Seq.wp_region_seq (fun w' => Blk w' tb #[.int .i64 0, .int .i64 0, .bool true] 28) (by kernel_rfl) (by kernel_rfl) hS ?_
      repeat (first | (refine Seq.Seq.skip (by rfl) ?_; (try simp only [Act.put, List.setIfInBounds_toArray, List.set_cons_zero, List.set_cons_succ])) | (refine Seq.Seq.det ?_ (by rfl) (fun w hS => ?_) ?_; rotate_left; ((try dsimp only at hS); go_simp; (try rw [if_pos (by omega)]); with_reducible rfl); (try simp only [Act.put, List.setIfInBounds_toArray, List.set_cons_zero, List.set_cons_succ])))
      refine Seq.Seq.make (by rfl) (by rfl) (fun K Q' hK => ?_)
      go_simp
      go_at_call 11
      refine (r1 _).mono ?_
      rintro e w' ⟨rfl, rfl⟩
      refine hK.out _ _ (hS) ?_
      clear hK K
      try simp only [Act.put, List.setIfInBounds_toArray, List.set_cons_zero, List.set_cons_succ]
      repeat (first | (refine Seq.Seq.skip (by rfl) ?_; (try simp only [Act.put, List.setIfInBounds_toArray, List.set_cons_zero, List.set_cons_succ])) | (refine Seq.Seq.det ?_ (by rfl) (fun w hS => ?_) ?_; rotate_left; ((try dsimp only at hS); go_simp; (try rw [if_pos (by omega)]); with_reducible rfl); (try simp only [Act.put, List.setIfInBounds_toArray, List.set_cons_zero, List.set_cons_succ])))
      refine Seq.Seq.make (by rfl) (by rfl) (fun K Q' hK => ?_)
      go_simp
      go_at_call 12
      refine (r2 _).mono ?_
      rintro e w' ⟨rfl, rfl⟩
      refine hK.out _ _ (hS) ?_
      clear hK K
      try simp only [Act.put, List.setIfInBounds_toArray, List.set_cons_zero, List.set_cons_succ]
      repeat (first | (refine Seq.Seq.skip (by rfl) ?_; (try simp only [Act.put, List.setIfInBounds_toArray, List.set_cons_zero, List.set_cons_succ])) | (refine Seq.Seq.det ?_ (by rfl) (fun w hS => ?_) ?_; rotate_left; ((try dsimp only at hS); go_simp; (try rw [if_pos (by omega)]); with_reducible rfl); (try simp only [Act.put, List.setIfInBounds_toArray, List.set_cons_zero, List.set_cons_succ])))
      refine Seq.Seq.make (by rfl) (by rfl) (fun K Q' hK => ?_)
      go_simp
      go_at_call 13
      refine (r3 _).mono ?_
      rintro e w' ⟨rfl, rfl⟩
      refine hK.out _ _ (hS) ?_
      clear hK K
      try simp only [Act.put, List.setIfInBounds_toArray, List.set_cons_zero, List.set_cons_succ]
      repeat (first | (refine Seq.Seq.skip (by rfl) ?_; (try simp only [Act.put, List.setIfInBounds_toArray, List.set_cons_zero, List.set_cons_succ])) | (refine Seq.Seq.det ?_ (by rfl) (fun w hS => ?_) ?_; rotate_left; ((try dsimp only at hS); go_simp; (try rw [if_pos (by omega)]); with_reducible rfl); (try simp only [Act.put, List.setIfInBounds_toArray, List.set_cons_zero, List.set_cons_succ])))
      refine Seq.Seq.nil ?_
      clear r1 r2 r3 L hS
      have hq1 := rof_any 1 m
      have ho1 := one_any m
      cases hc : rt 1 m
      · rw [nz_not hc] at ho1
        have e1 : tof 1 m = .agg #[.int .i64 0, .int .i64 0, .bool true] := by unfold tof; rw [hc]; rfl
        rw [e1] at hq1
        clear e1
        go_wp2_with fail
        refine (hq1 _).mono ?_
        rintro e w7 ⟨rfl, hb7⟩
        have hbd7 := hbdA.trans (hb7.mono hbdA.size)
        clear hb7
        go_wp2_with fail
        refine (ho1 _).mono ?_
        rintro e w' ⟨rfl, rfl⟩
        have hbd8 := hbd7.alloc hbd7.size (.cells #[.int .i64 0, .int .i64 0, .bool true] 28)
        go_wp2_with fail
        refine (live9_any _).mono ?_
        rintro e w9 ⟨rfl, hb9⟩
        have hbd9 := hbd8.trans (hb9.mono hbd8.size)
        go_wp2
        go_ret
        exact ⟨rfl, hbd9⟩
      · obtain ⟨a, b, c, d, _⟩ := rt_bd hc
        have p1 : Pt (rung 1) (1 : Int) := pt_rung (n := 1) (by omega)
        have p2 := pt_rung (n := m.toNat) (by omega)
        rw [show ((m.toNat : Nat) : Int) = m from by omega] at p2
        rw [← rt_word p1 p2 hc] at ho1
        have e1 : tof 1 m = .agg #[.int .i64 1, .int .i64 m, .bool false] := by unfold tof; rw [hc]; rfl
        rw [e1] at hq1
        have hs1 := as_any p1 p2 1 m false
        have e2 : asb 1 m 1 m false = true := by unfold asb; rw [hc]; simp
        rw [e2] at hs1
        unfold tq at hs1
        clear e1 e2 p1 p2 a b c d hc
        generalize rung 1 = x at *
        generalize rung m.toNat = y at *
        go_wp2_with fail
        refine (hq1 _).mono ?_
        rintro e w7 ⟨rfl, hb7⟩
        have hbd7 := hbdA.trans (hb7.mono hbdA.size)
        clear hb7
        go_wp2
        have hbA := hbd7.alloc hbd7.size (.cells #[.int .i64 1, .int .i64 m, .bool false] 28)
        have hcA := Blk.new w7 #[.int .i64 1, .int .i64 m, .bool false] 28
        generalize w7.alloc (.cells #[.int .i64 1, .int .i64 m, .bool false] 28) = wA at *
        generalize htb : w7.heap.size = tb at hcA ⊢
        clear htb
        have L : ∀ w', Blk w' tb #[.int .i64 1, .int .i64 m, .bool false] 28 → w'.cell? ⟨tb, 0, none⟩ = some (.int .i64 1) ∧ w'.cell? ⟨tb, 1, none⟩ = some (.int .i64 m) ∧ w'.cell? ⟨tb, 2, none⟩ = some (.bool false) := fun w' h => h.c3
        have hS : Blk wA.drew tb #[.int .i64 1, .int .i64 m, .bool false] 28 := hcA
        have hbdA : Below w.heap.size w wA.drew := hbA.drew
        clear hcA hbA
        refine Seq.wp_region_seq (fun w' => Blk w' tb #[.int .i64 1, .int .i64 m, .bool false] 28) (by kernel_rfl) (by kernel_rfl) hS ?_
        repeat (first | (refine Seq.Seq.skip (by rfl) ?_; (try simp only [Act.put, List.setIfInBounds_toArray, List.set_cons_zero, List.set_cons_succ])) | (refine Seq.Seq.det ?_ (by rfl) (fun w hS => ?_) ?_; rotate_left; ((try dsimp only at hS); go_simp; (try rw [if_pos (by omega)]); with_reducible rfl); (try simp only [Act.put, List.setIfInBounds_toArray, List.set_cons_zero, List.set_cons_succ])))
        refine Seq.Seq.make (by rfl) (by rfl) (fun K Q' hK => ?_)
        go_simp
        go_at_call 14
        refine (ho1 _).mono ?_
        rintro e w' ⟨rfl, rfl⟩
        refine hK.out _ _ (hS) ?_
        clear hK K
        try simp only [Act.put, List.setIfInBounds_toArray, List.set_cons_zero, List.set_cons_succ]
        repeat (first | (refine Seq.Seq.skip (by rfl) ?_; (try simp only [Act.put, List.setIfInBounds_toArray, List.set_cons_zero, List.set_cons_succ])) | (refine Seq.Seq.det ?_ (by rfl) (fun w hS => ?_) ?_; rotate_left; ((try dsimp only at hS); go_simp; (try rw [if_pos (by omega)]); with_reducible rfl); (try simp only [Act.put, List.setIfInBounds_toArray, List.set_cons_zero, List.set_cons_succ])))
        refine Seq.Seq.make (by rfl) (by rfl) (fun K Q' hK => ?_)
        go_simp
        go_at_call 9
        refine (hs1 _).mono ?_
        rintro e w8 ⟨rfl, hb8⟩
        have hS8 := hS.below hb8
        have hbd8 := hbdA.trans (hb8.mono hbdA.size)
        refine hK.out _ _ (hS8) ?_
        clear hK K
        try simp only [Act.put, List.setIfInBounds_toArray, List.set_cons_zero, List.set_cons_succ]
        repeat (first | (refine Seq.Seq.skip (by rfl) ?_; (try simp only [Act.put, List.setIfInBounds_toArray, List.set_cons_zero, List.set_cons_succ])) | (refine Seq.Seq.det ?_ (by rfl) (fun w hS => ?_) ?_; rotate_left; ((try dsimp only at hS); go_simp; (try rw [if_pos (by omega)]); with_reducible rfl); (try simp only [Act.put, List.setIfInBounds_toArray, List.set_cons_zero, List.set_cons_succ])))
        refine Seq.Seq.make (by rfl) (by rfl) (fun K Q' hK => ?_)
        go_simp
        go_at_call 15
        refine (live9_any _).mono ?_
        rintro e w9 ⟨rfl, hb9⟩
        have hS9 := hS8.below hb9
        have hbd9 := hbd8.trans (hb9.mono hbd8.size)
        refine hK.out _ _ (hS9) ?_
        clear hK K
        try simp only [Act.put, List.setIfInBounds_toArray, List.set_cons_zero, List.set_cons_succ]
        repeat (first | (refine Seq.Seq.skip (by rfl) ?_; (try simp only [Act.put, List.setIfInBounds_toArray, List.set_cons_zero, List.set_cons_succ])) | (refine Seq.Seq.det ?_ (by rfl) (fun w hS => ?_) ?_; rotate_left; ((try dsimp only at hS); go_simp; (try rw [if_pos (by omega)]); with_reducible rfl); (try simp only [Act.put, List.setIfInBounds_toArray, List.set_cons_zero, List.set_cons_succ])))
        refine Seq.Seq.nil ?_
        go_wp2
        go_ret
        exact ⟨rfl, hbd9⟩
    · have e2 : asb (cl p) (cl q) (cl p) (cl q) false = true := by unfold asb; rw [hc]; simp
      rw [e2] at hs2
      rw [hc] at r1
      have e1 : tof (cl p) (cl q) = .agg #[.int .i64 (cl p), .int .i64 (cl q), .bool false] := by unfold tof; rw [hc]; rfl
      rw [e1]
      clear e1 e2 p3 p4 hc r2 r3
      generalize floatOfInt .f64 (cl p) = x at *
      generalize floatOfInt .f64 (cl q) = y at *
      generalize cl p = cp at *
      generalize cl q = cq at *
      go_wp2
      have hbA := hbd5.alloc hbd5.size (.cells #[.int .i64 cp, .int .i64 cq, .bool false] 28)
      have hcA := Blk.new w5 #[.int .i64 cp, .int .i64 cq, .bool false] 28
      generalize w5.alloc (.cells #[.int .i64 cp, .int .i64 cq, .bool false] 28) = wA at *
      generalize htb : w5.heap.size = tb at hcA ⊢
      clear htb
      have L : ∀ w', Blk w' tb #[.int .i64 cp, .int .i64 cq, .bool false] 28 → w'.cell? ⟨tb, 0, none⟩ = some (.int .i64 cp) ∧ w'.cell? ⟨tb, 1, none⟩ = some (.int .i64 cq) ∧ w'.cell? ⟨tb, 2, none⟩ = some (.bool false) := fun w' h => h.c3
      have hS : Blk wA.drew tb #[.int .i64 cp, .int .i64 cq, .bool false] 28 := hcA
      have hbdA : Below w.heap.size w wA.drew := hbA.drew
      clear hcA hbA
      refine Seq.wp_region_seq (fun w' => Blk w' tb #[.int .i64 cp, .int .i64 cq, .bool false] 28) (by kernel_rfl) (by kernel_rfl) hS ?_
      repeat (first | (refine Seq.Seq.skip (by rfl) ?_; (try simp only [Act.put, List.setIfInBounds_toArray, List.set_cons_zero, List.set_cons_succ])) | (refine Seq.Seq.det ?_ (by rfl) (fun w hS => ?_) ?_; rotate_left; ((try dsimp only at hS); go_simp; (try rw [if_pos (by omega)]); with_reducible rfl); (try simp only [Act.put, List.setIfInBounds_toArray, List.set_cons_zero, List.set_cons_succ])))
      refine Seq.Seq.make (by rfl) (by rfl) (fun K Q' hK => ?_)
      go_simp
      go_at_call 11
      refine (r1 _).mono ?_
      rintro e w' ⟨rfl, rfl⟩
      refine hK.out _ _ (hS) ?_
      clear hK K
      try simp only [Act.put, List.setIfInBounds_toArray, List.set_cons_zero, List.set_cons_succ]
      repeat (first | (refine Seq.Seq.skip (by rfl) ?_; (try simp only [Act.put, List.setIfInBounds_toArray, List.set_cons_zero, List.set_cons_succ])) | (refine Seq.Seq.det ?_ (by rfl) (fun w hS => ?_) ?_; rotate_left; ((try dsimp only at hS); go_simp; (try rw [if_pos (by omega)]); with_reducible rfl); (try simp only [Act.put, List.setIfInBounds_toArray, List.set_cons_zero, List.set_cons_succ])))
      refine Seq.Seq.make (by rfl) (by rfl) (fun K Q' hK => ?_)
      go_simp
      go_at_call 9
      refine (hs2 _).mono ?_
      rintro e w6 ⟨rfl, hb6⟩
      have hS6 := hS.below hb6
      have hbd6 := hbdA.trans (hb6.mono hbdA.size)
      refine hK.out _ _ (hS6) ?_
      clear hK K
      try simp only [Act.put, List.setIfInBounds_toArray, List.set_cons_zero, List.set_cons_succ]
      repeat (first | (refine Seq.Seq.skip (by rfl) ?_; (try simp only [Act.put, List.setIfInBounds_toArray, List.set_cons_zero, List.set_cons_succ])) | (refine Seq.Seq.det ?_ (by rfl) (fun w hS => ?_) ?_; rotate_left; ((try dsimp only at hS); go_simp; (try rw [if_pos (by omega)]); with_reducible rfl); (try simp only [Act.put, List.setIfInBounds_toArray, List.set_cons_zero, List.set_cons_succ])))
      refine Seq.Seq.nil ?_
      clear r1 hs2 L hS hS6 hb6 hbdA
      have hq1 := rof_any 1 m
      have ho1 := one_any m
      cases hc : rt 1 m
      · rw [nz_not hc] at ho1
        have e1 : tof 1 m = .agg #[.int .i64 0, .int .i64 0, .bool true] := by unfold tof; rw [hc]; rfl
        rw [e1] at hq1
        clear e1
        go_wp2_with fail
        refine (hq1 _).mono ?_
        rintro e w7 ⟨rfl, hb7⟩
        have hbd7 := hbd6.trans (hb7.mono hbd6.size)
        clear hb7
        go_wp2_with fail
        refine (ho1 _).mono ?_
        rintro e w' ⟨rfl, rfl⟩
        have hbd8 := hbd7.alloc hbd7.size (.cells #[.int .i64 0, .int .i64 0, .bool true] 28)
        go_wp2_with fail
        refine (live9_any _).mono ?_
        rintro e w9 ⟨rfl, hb9⟩
        have hbd9 := hbd8.trans (hb9.mono hbd8.size)
        go_wp2
        go_ret
        exact ⟨rfl, hbd9⟩
      · obtain ⟨a, b, c, d, _⟩ := rt_bd hc
        have p1 : Pt (rung 1) (1 : Int) := pt_rung (n := 1) (by omega)
        have p2 := pt_rung (n := m.toNat) (by omega)
        rw [show ((m.toNat : Nat) : Int) = m from by omega] at p2
        rw [← rt_word p1 p2 hc] at ho1
        have e1 : tof 1 m = .agg #[.int .i64 1, .int .i64 m, .bool false] := by unfold tof; rw [hc]; rfl
        rw [e1] at hq1
        have hs1 := as_any p1 p2 1 m false
        have e2 : asb 1 m 1 m false = true := by unfold asb; rw [hc]; simp
        rw [e2] at hs1
        unfold tq at hs1
        clear e1 e2 p1 p2 a b c d hc
        generalize rung 1 = x at *
        generalize rung m.toNat = y at *
        go_wp2_with fail
        refine (hq1 _).mono ?_
        rintro e w7 ⟨rfl, hb7⟩
        have hbd7 := hbd6.trans (hb7.mono hbd6.size)
        clear hb7
        go_wp2
        have hbA := hbd7.alloc hbd7.size (.cells #[.int .i64 1, .int .i64 m, .bool false] 28)
        have hcA := Blk.new w7 #[.int .i64 1, .int .i64 m, .bool false] 28
        generalize w7.alloc (.cells #[.int .i64 1, .int .i64 m, .bool false] 28) = wA at *
        generalize htb : w7.heap.size = tb at hcA ⊢
        clear htb
        have L : ∀ w', Blk w' tb #[.int .i64 1, .int .i64 m, .bool false] 28 → w'.cell? ⟨tb, 0, none⟩ = some (.int .i64 1) ∧ w'.cell? ⟨tb, 1, none⟩ = some (.int .i64 m) ∧ w'.cell? ⟨tb, 2, none⟩ = some (.bool false) := fun w' h => h.c3
        have hS : Blk wA.drew tb #[.int .i64 1, .int .i64 m, .bool false] 28 := hcA
        have hbdA : Below w.heap.size w wA.drew := hbA.drew
        clear hcA hbA
        refine Seq.wp_region_seq (fun w' => Blk w' tb #[.int .i64 1, .int .i64 m, .bool false] 28) (by kernel_rfl) (by kernel_rfl) hS ?_
        repeat (first | (refine Seq.Seq.skip (by rfl) ?_; (try simp only [Act.put, List.setIfInBounds_toArray, List.set_cons_zero, List.set_cons_succ])) | (refine Seq.Seq.det ?_ (by rfl) (fun w hS => ?_) ?_; rotate_left; ((try dsimp only at hS); go_simp; (try rw [if_pos (by omega)]); with_reducible rfl); (try simp only [Act.put, List.setIfInBounds_toArray, List.set_cons_zero, List.set_cons_succ])))
        refine Seq.Seq.make (by rfl) (by rfl) (fun K Q' hK => ?_)
        go_simp
        go_at_call 14
        refine (ho1 _).mono ?_
        rintro e w' ⟨rfl, rfl⟩
        refine hK.out _ _ (hS) ?_
        clear hK K
        try simp only [Act.put, List.setIfInBounds_toArray, List.set_cons_zero, List.set_cons_succ]
        repeat (first | (refine Seq.Seq.skip (by rfl) ?_; (try simp only [Act.put, List.setIfInBounds_toArray, List.set_cons_zero, List.set_cons_succ])) | (refine Seq.Seq.det ?_ (by rfl) (fun w hS => ?_) ?_; rotate_left; ((try dsimp only at hS); go_simp; (try rw [if_pos (by omega)]); with_reducible rfl); (try simp only [Act.put, List.setIfInBounds_toArray, List.set_cons_zero, List.set_cons_succ])))
        refine Seq.Seq.make (by rfl) (by rfl) (fun K Q' hK => ?_)
        go_simp
        go_at_call 9
        refine (hs1 _).mono ?_
        rintro e w8 ⟨rfl, hb8⟩
        have hS8 := hS.below hb8
        have hbd8 := hbdA.trans (hb8.mono hbdA.size)
        refine hK.out _ _ (hS8) ?_
        clear hK K
        try simp only [Act.put, List.setIfInBounds_toArray, List.set_cons_zero, List.set_cons_succ]
        repeat (first | (refine Seq.Seq.skip (by rfl) ?_; (try simp only [Act.put, List.setIfInBounds_toArray, List.set_cons_zero, List.set_cons_succ])) | (refine Seq.Seq.det ?_ (by rfl) (fun w hS => ?_) ?_; rotate_left; ((try dsimp only at hS); go_simp; (try rw [if_pos (by omega)]); with_reducible rfl); (try simp only [Act.put, List.setIfInBounds_toArray, List.set_cons_zero, List.set_cons_succ])))
        refine Seq.Seq.make (by rfl) (by rfl) (fun K Q' hK => ?_)
        go_simp
        go_at_call 15
        refine (live9_any _).mono ?_
        rintro e w9 ⟨rfl, hb9⟩
        have hS9 := hS8.below hb9
        have hbd9 := hbd8.trans (hb9.mono hbd8.size)
        refine hK.out _ _ (hS9) ?_
        clear hK K
        try simp only [Act.put, List.setIfInBounds_toArray, List.set_cons_zero, List.set_cons_succ]
        repeat (first | (refine Seq.Seq.skip (by rfl) ?_; (try simp only [Act.put, List.setIfInBounds_toArray, List.set_cons_zero, List.set_cons_succ])) | (refine Seq.Seq.det ?_ (by rfl) (fun w hS => ?_) ?_; rotate_left; ((try dsimp only at hS); go_simp; (try rw [if_pos (by omega)]); with_reducible rfl); (try simp only [Act.put, List.setIfInBounds_toArray, List.set_cons_zero, List.set_cons_succ])))
        refine Seq.Seq.nil ?_
        go_wp2
        go_ret
        exact ⟨rfl, hbd9⟩
  · obtain ⟨a, b, c, d, _⟩ := rt_bd hb
    have p1 := pt_rung (n := n.toNat) (by omega)
    have p2 := pt_rung (n := m.toNat) (by omega)
    rw [show ((n.toNat : Nat) : Int) = n from by omega] at p1
    rw [show ((m.toNat : Nat) : Int) = m from by omega] at p2
    rw [hb, if_pos rfl, ← rt_word p1 p2 hb] at ho
    have e1 : tof n m = .agg #[.int .i64 n, .int .i64 m, .bool false] := by unfold tof; rw [hb]; rfl
    rw [e1] at hr
    have hs := as_any p1 p2 n m false
    have e2 : asb n m n m false = true := by unfold asb; rw [hb]; simp
    rw [e2] at hs
    unfold tq at hs
    clear e1 e2 p1 p2 a b c d
    generalize rung n.toNat = x at *
    generalize rung m.toNat = y at *
    go_enter Try.func3, Try.ntmps3
    go_wp2_with fail
    refine (ho _).mono ?_
    rintro e w' ⟨rfl, rfl⟩
    go_wp2_with fail
    refine (hr _).mono ?_
    rintro e w2 ⟨rfl, hb2⟩
    have hbd := hbx.trans (hb2.mono hbx.size)
    have hbk := (hblk.below hb2).alloc (.cells #[.int .i64 n, .int .i64 m, .bool false] 28)
    have hbd4 := hbd.alloc hbd.size (.cells #[.int .i64 n, .int .i64 m, .bool false] 28)
    clear hb2
    go_wp2_with fail
    refine (hs _).mono ?_
    rintro e w4 ⟨rfl, hb4⟩
    have hbk4 := hbk.below hb4
    obtain ⟨l0, l1⟩ := hbk4.c2
    have hbd4' := hbd4.trans (hb4.mono hbd4.size)
    clear hb4 hbd4 hbd hbk
    go_wp2_with fail
    refine (hm _).mono ?_
    rintro e w5 ⟨rfl, hb5⟩
    have hbd5 := hbd4'.trans (hb5.mono hbd4'.size)
    clear hb5 hbd4' hbk4 l0 l1 hblk hbx ho hr hm hb hs
    have p3 := pt_int (cl p)
    have p4 := pt_int (cl q)
    have r1 := right_any p3 p4
    have r2 := things_any p3 p4
    have r3 := bytesT_any p3 p4
    have hs2 := as_any p3 p4 (cl p) (cl q) false
    unfold tq at hs2
    cases hc : rt (cl p) (cl q)
    · rw [hc] at r1 r2 r3
      rw [if_neg (by decide)] at r2 r3
      have e1 : tof (cl p) (cl q) = .agg #[.int .i64 0, .int .i64 0, .bool true] := by unfold tof; rw [hc]; rfl
      rw [e1]
      clear e1 hs2 p3 p4 hc
      generalize floatOfInt .f64 (cl p) = x at *
      generalize floatOfInt .f64 (cl q) = y at *
      go_wp2
      have hbA := hbd5.alloc hbd5.size (.cells #[.int .i64 0, .int .i64 0, .bool true] 28)
      have hcA := Blk.new w5 #[.int .i64 0, .int .i64 0, .bool true] 28
      generalize w5.alloc (.cells #[.int .i64 0, .int .i64 0, .bool true] 28) = wA at *
      generalize htb : w5.heap.size = tb at hcA ⊢
      clear htb
      have L : ∀ w', Blk w' tb #[.int .i64 0, .int .i64 0, .bool true] 28 → w'.cell? ⟨tb, 0, none⟩ = some (.int .i64 0) ∧ w'.cell? ⟨tb, 1, none⟩ = some (.int .i64 0) ∧ w'.cell? ⟨tb, 2, none⟩ = some (.bool true) := fun w' h => h.c3
      have hS : Blk wA.drew tb #[.int .i64 0, .int .i64 0, .bool true] 28 := hcA
      have hbdA : Below w.heap.size w wA.drew := hbA.drew
      clear hcA hbA
      refine Seq.wp_region_seq (fun w' => Blk w' tb #[.int .i64 0, .int .i64 0, .bool true] 28) (by kernel_rfl) (by kernel_rfl) hS ?_
      repeat (first | (refine Seq.Seq.skip (by rfl) ?_; (try simp only [Act.put, List.setIfInBounds_toArray, List.set_cons_zero, List.set_cons_succ])) | (refine Seq.Seq.det ?_ (by rfl) (fun w hS => ?_) ?_; rotate_left; ((try dsimp only at hS); go_simp; (try rw [if_pos (by omega)]); with_reducible rfl); (try simp only [Act.put, List.setIfInBounds_toArray, List.set_cons_zero, List.set_cons_succ])))
      refine Seq.Seq.make (by rfl) (by rfl) (fun K Q' hK => ?_)
      go_simp
      go_at_call 11
      refine (r1 _).mono ?_
      rintro e w' ⟨rfl, rfl⟩
      refine hK.out _ _ (hS) ?_
      clear hK K
      try simp only [Act.put, List.setIfInBounds_toArray, List.set_cons_zero, List.set_cons_succ]
      repeat (first | (refine Seq.Seq.skip (by rfl) ?_; (try simp only [Act.put, List.setIfInBounds_toArray, List.set_cons_zero, List.set_cons_succ])) | (refine Seq.Seq.det ?_ (by rfl) (fun w hS => ?_) ?_; rotate_left; ((try dsimp only at hS); go_simp; (try rw [if_pos (by omega)]); with_reducible rfl); (try simp only [Act.put, List.setIfInBounds_toArray, List.set_cons_zero, List.set_cons_succ])))
      refine Seq.Seq.make (by rfl) (by rfl) (fun K Q' hK => ?_)
      go_simp
      go_at_call 12
      refine (r2 _).mono ?_
      rintro e w' ⟨rfl, rfl⟩
      refine hK.out _ _ (hS) ?_
      clear hK K
      try simp only [Act.put, List.setIfInBounds_toArray, List.set_cons_zero, List.set_cons_succ]
      repeat (first | (refine Seq.Seq.skip (by rfl) ?_; (try simp only [Act.put, List.setIfInBounds_toArray, List.set_cons_zero, List.set_cons_succ])) | (refine Seq.Seq.det ?_ (by rfl) (fun w hS => ?_) ?_; rotate_left; ((try dsimp only at hS); go_simp; (try rw [if_pos (by omega)]); with_reducible rfl); (try simp only [Act.put, List.setIfInBounds_toArray, List.set_cons_zero, List.set_cons_succ])))
      refine Seq.Seq.make (by rfl) (by rfl) (fun K Q' hK => ?_)
      go_simp
      go_at_call 13
      refine (r3 _).mono ?_
      rintro e w' ⟨rfl, rfl⟩
      refine hK.out _ _ (hS) ?_
      clear hK K
      try simp only [Act.put, List.setIfInBounds_toArray, List.set_cons_zero, List.set_cons_succ]
      repeat (first | (refine Seq.Seq.skip (by rfl) ?_; (try simp only [Act.put, List.setIfInBounds_toArray, List.set_cons_zero, List.set_cons_succ])) | (refine Seq.Seq.det ?_ (by rfl) (fun w hS => ?_) ?_; rotate_left; ((try dsimp only at hS); go_simp; (try rw [if_pos (by omega)]); with_reducible rfl); (try simp only [Act.put, List.setIfInBounds_toArray, List.set_cons_zero, List.set_cons_succ])))
      refine Seq.Seq.nil ?_
      clear r1 r2 r3 L hS
      have hq1 := rof_any 1 m
      have ho1 := one_any m
      cases hc : rt 1 m
      · rw [nz_not hc] at ho1
        have e1 : tof 1 m = .agg #[.int .i64 0, .int .i64 0, .bool true] := by unfold tof; rw [hc]; rfl
        rw [e1] at hq1
        clear e1
        go_wp2_with fail
        refine (hq1 _).mono ?_
        rintro e w7 ⟨rfl, hb7⟩
        have hbd7 := hbdA.trans (hb7.mono hbdA.size)
        clear hb7
        go_wp2_with fail
        refine (ho1 _).mono ?_
        rintro e w' ⟨rfl, rfl⟩
        have hbd8 := hbd7.alloc hbd7.size (.cells #[.int .i64 0, .int .i64 0, .bool true] 28)
        go_wp2_with fail
        refine (live9_any _).mono ?_
        rintro e w9 ⟨rfl, hb9⟩
        have hbd9 := hbd8.trans (hb9.mono hbd8.size)
        go_wp2
        go_ret
        exact ⟨rfl, hbd9⟩
      · obtain ⟨a, b, c, d, _⟩ := rt_bd hc
        have p1 : Pt (rung 1) (1 : Int) := pt_rung (n := 1) (by omega)
        have p2 := pt_rung (n := m.toNat) (by omega)
        rw [show ((m.toNat : Nat) : Int) = m from by omega] at p2
        rw [← rt_word p1 p2 hc] at ho1
        have e1 : tof 1 m = .agg #[.int .i64 1, .int .i64 m, .bool false] := by unfold tof; rw [hc]; rfl
        rw [e1] at hq1
        have hs1 := as_any p1 p2 1 m false
        have e2 : asb 1 m 1 m false = true := by unfold asb; rw [hc]; simp
        rw [e2] at hs1
        unfold tq at hs1
        clear e1 e2 p1 p2 a b c d hc
        generalize rung 1 = x at *
        generalize rung m.toNat = y at *
        go_wp2_with fail
        refine (hq1 _).mono ?_
        rintro e w7 ⟨rfl, hb7⟩
        have hbd7 := hbdA.trans (hb7.mono hbdA.size)
        clear hb7
        go_wp2
        have hbA := hbd7.alloc hbd7.size (.cells #[.int .i64 1, .int .i64 m, .bool false] 28)
        have hcA := Blk.new w7 #[.int .i64 1, .int .i64 m, .bool false] 28
        generalize w7.alloc (.cells #[.int .i64 1, .int .i64 m, .bool false] 28) = wA at *
        generalize htb : w7.heap.size = tb at hcA ⊢
        clear htb
        have L : ∀ w', Blk w' tb #[.int .i64 1, .int .i64 m, .bool false] 28 → w'.cell? ⟨tb, 0, none⟩ = some (.int .i64 1) ∧ w'.cell? ⟨tb, 1, none⟩ = some (.int .i64 m) ∧ w'.cell? ⟨tb, 2, none⟩ = some (.bool false) := fun w' h => h.c3
        have hS : Blk wA.drew tb #[.int .i64 1, .int .i64 m, .bool false] 28 := hcA
        have hbdA : Below w.heap.size w wA.drew := hbA.drew
        clear hcA hbA
        refine Seq.wp_region_seq (fun w' => Blk w' tb #[.int .i64 1, .int .i64 m, .bool false] 28) (by kernel_rfl) (by kernel_rfl) hS ?_
        repeat (first | (refine Seq.Seq.skip (by rfl) ?_; (try simp only [Act.put, List.setIfInBounds_toArray, List.set_cons_zero, List.set_cons_succ])) | (refine Seq.Seq.det ?_ (by rfl) (fun w hS => ?_) ?_; rotate_left; ((try dsimp only at hS); go_simp; (try rw [if_pos (by omega)]); with_reducible rfl); (try simp only [Act.put, List.setIfInBounds_toArray, List.set_cons_zero, List.set_cons_succ])))
        refine Seq.Seq.make (by rfl) (by rfl) (fun K Q' hK => ?_)
        go_simp
        go_at_call 14
        refine (ho1 _).mono ?_
        rintro e w' ⟨rfl, rfl⟩
        refine hK.out _ _ (hS) ?_
        clear hK K
        try simp only [Act.put, List.setIfInBounds_toArray, List.set_cons_zero, List.set_cons_succ]
        repeat (first | (refine Seq.Seq.skip (by rfl) ?_; (try simp only [Act.put, List.setIfInBounds_toArray, List.set_cons_zero, List.set_cons_succ])) | (refine Seq.Seq.det ?_ (by rfl) (fun w hS => ?_) ?_; rotate_left; ((try dsimp only at hS); go_simp; (try rw [if_pos (by omega)]); with_reducible rfl); (try simp only [Act.put, List.setIfInBounds_toArray, List.set_cons_zero, List.set_cons_succ])))
        refine Seq.Seq.make (by rfl) (by rfl) (fun K Q' hK => ?_)
        go_simp
        go_at_call 9
        refine (hs1 _).mono ?_
        rintro e w8 ⟨rfl, hb8⟩
        have hS8 := hS.below hb8
        have hbd8 := hbdA.trans (hb8.mono hbdA.size)
        refine hK.out _ _ (hS8) ?_
        clear hK K
        try simp only [Act.put, List.setIfInBounds_toArray, List.set_cons_zero, List.set_cons_succ]
        repeat (first | (refine Seq.Seq.skip (by rfl) ?_; (try simp only [Act.put, List.setIfInBounds_toArray, List.set_cons_zero, List.set_cons_succ])) | (refine Seq.Seq.det ?_ (by rfl) (fun w hS => ?_) ?_; rotate_left; ((try dsimp only at hS); go_simp; (try rw [if_pos (by omega)]); with_reducible rfl); (try simp only [Act.put, List.setIfInBounds_toArray, List.set_cons_zero, List.set_cons_succ])))
        refine Seq.Seq.make (by rfl) (by rfl) (fun K Q' hK => ?_)
        go_simp
        go_at_call 15
        refine (live9_any _).mono ?_
        rintro e w9 ⟨rfl, hb9⟩
        have hS9 := hS8.below hb9
        have hbd9 := hbd8.trans (hb9.mono hbd8.size)
        refine hK.out _ _ (hS9) ?_
        clear hK K
        try simp only [Act.put, List.setIfInBounds_toArray, List.set_cons_zero, List.set_cons_succ]
        repeat (first | (refine Seq.Seq.skip (by rfl) ?_; (try simp only [Act.put, List.setIfInBounds_toArray, List.set_cons_zero, List.set_cons_succ])) | (refine Seq.Seq.det ?_ (by rfl) (fun w hS => ?_) ?_; rotate_left; ((try dsimp only at hS); go_simp; (try rw [if_pos (by omega)]); with_reducible rfl); (try simp only [Act.put, List.setIfInBounds_toArray, List.set_cons_zero, List.set_cons_succ])))
        refine Seq.Seq.nil ?_
        go_wp2
        go_ret
        exact ⟨rfl, hbd9⟩
    · have e2 : asb (cl p) (cl q) (cl p) (cl q) false = true := by unfold asb; rw [hc]; simp
      rw [e2] at hs2
      rw [hc] at r1
      have e1 : tof (cl p) (cl q) = .agg #[.int .i64 (cl p), .int .i64 (cl q), .bool false] := by unfold tof; rw [hc]; rfl
      rw [e1]
      clear e1 e2 p3 p4 hc r2 r3
      generalize floatOfInt .f64 (cl p) = x at *
      generalize floatOfInt .f64 (cl q) = y at *
      generalize cl p = cp at *
      generalize cl q = cq at *
      go_wp2
      have hbA := hbd5.alloc hbd5.size (.cells #[.int .i64 cp, .int .i64 cq, .bool false] 28)
      have hcA := Blk.new w5 #[.int .i64 cp, .int .i64 cq, .bool false] 28
      generalize w5.alloc (.cells #[.int .i64 cp, .int .i64 cq, .bool false] 28) = wA at *
      generalize htb : w5.heap.size = tb at hcA ⊢
      clear htb
      have L : ∀ w', Blk w' tb #[.int .i64 cp, .int .i64 cq, .bool false] 28 → w'.cell? ⟨tb, 0, none⟩ = some (.int .i64 cp) ∧ w'.cell? ⟨tb, 1, none⟩ = some (.int .i64 cq) ∧ w'.cell? ⟨tb, 2, none⟩ = some (.bool false) := fun w' h => h.c3
      have hS : Blk wA.drew tb #[.int .i64 cp, .int .i64 cq, .bool false] 28 := hcA
      have hbdA : Below w.heap.size w wA.drew := hbA.drew
      clear hcA hbA
      refine Seq.wp_region_seq (fun w' => Blk w' tb #[.int .i64 cp, .int .i64 cq, .bool false] 28) (by kernel_rfl) (by kernel_rfl) hS ?_
      repeat (first | (refine Seq.Seq.skip (by rfl) ?_; (try simp only [Act.put, List.setIfInBounds_toArray, List.set_cons_zero, List.set_cons_succ])) | (refine Seq.Seq.det ?_ (by rfl) (fun w hS => ?_) ?_; rotate_left; ((try dsimp only at hS); go_simp; (try rw [if_pos (by omega)]); with_reducible rfl); (try simp only [Act.put, List.setIfInBounds_toArray, List.set_cons_zero, List.set_cons_succ])))
      refine Seq.Seq.make (by rfl) (by rfl) (fun K Q' hK => ?_)
      go_simp
      go_at_call 11
      refine (r1 _).mono ?_
      rintro e w' ⟨rfl, rfl⟩
      refine hK.out _ _ (hS) ?_
      clear hK K
      try simp only [Act.put, List.setIfInBounds_toArray, List.set_cons_zero, List.set_cons_succ]
      repeat (first | (refine Seq.Seq.skip (by rfl) ?_; (try simp only [Act.put, List.setIfInBounds_toArray, List.set_cons_zero, List.set_cons_succ])) | (refine Seq.Seq.det ?_ (by rfl) (fun w hS => ?_) ?_; rotate_left; ((try dsimp only at hS); go_simp; (try rw [if_pos (by omega)]); with_reducible rfl); (try simp only [Act.put, List.setIfInBounds_toArray, List.set_cons_zero, List.set_cons_succ])))
      refine Seq.Seq.make (by rfl) (by rfl) (fun K Q' hK => ?_)
      go_simp
      go_at_call 9
      refine (hs2 _).mono ?_
      rintro e w6 ⟨rfl, hb6⟩
      have hS6 := hS.below hb6
      have hbd6 := hbdA.trans (hb6.mono hbdA.size)
      refine hK.out _ _ (hS6) ?_
      clear hK K
      try simp only [Act.put, List.setIfInBounds_toArray, List.set_cons_zero, List.set_cons_succ]
      repeat (first | (refine Seq.Seq.skip (by rfl) ?_; (try simp only [Act.put, List.setIfInBounds_toArray, List.set_cons_zero, List.set_cons_succ])) | (refine Seq.Seq.det ?_ (by rfl) (fun w hS => ?_) ?_; rotate_left; ((try dsimp only at hS); go_simp; (try rw [if_pos (by omega)]); with_reducible rfl); (try simp only [Act.put, List.setIfInBounds_toArray, List.set_cons_zero, List.set_cons_succ])))
      refine Seq.Seq.nil ?_
      clear r1 hs2 L hS hS6 hb6 hbdA
      have hq1 := rof_any 1 m
      have ho1 := one_any m
      cases hc : rt 1 m
      · rw [nz_not hc] at ho1
        have e1 : tof 1 m = .agg #[.int .i64 0, .int .i64 0, .bool true] := by unfold tof; rw [hc]; rfl
        rw [e1] at hq1
        clear e1
        go_wp2_with fail
        refine (hq1 _).mono ?_
        rintro e w7 ⟨rfl, hb7⟩
        have hbd7 := hbd6.trans (hb7.mono hbd6.size)
        clear hb7
        go_wp2_with fail
        refine (ho1 _).mono ?_
        rintro e w' ⟨rfl, rfl⟩
        have hbd8 := hbd7.alloc hbd7.size (.cells #[.int .i64 0, .int .i64 0, .bool true] 28)
        go_wp2_with fail
        refine (live9_any _).mono ?_
        rintro e w9 ⟨rfl, hb9⟩
        have hbd9 := hbd8.trans (hb9.mono hbd8.size)
        go_wp2
        go_ret
        exact ⟨rfl, hbd9⟩
      · obtain ⟨a, b, c, d, _⟩ := rt_bd hc
        have p1 : Pt (rung 1) (1 : Int) := pt_rung (n := 1) (by omega)
        have p2 := pt_rung (n := m.toNat) (by omega)
        rw [show ((m.toNat : Nat) : Int) = m from by omega] at p2
        rw [← rt_word p1 p2 hc] at ho1
        have e1 : tof 1 m = .agg #[.int .i64 1, .int .i64 m, .bool false] := by unfold tof; rw [hc]; rfl
        rw [e1] at hq1
        have hs1 := as_any p1 p2 1 m false
        have e2 : asb 1 m 1 m false = true := by unfold asb; rw [hc]; simp
        rw [e2] at hs1
        unfold tq at hs1
        clear e1 e2 p1 p2 a b c d hc
        generalize rung 1 = x at *
        generalize rung m.toNat = y at *
        go_wp2_with fail
        refine (hq1 _).mono ?_
        rintro e w7 ⟨rfl, hb7⟩
        have hbd7 := hbd6.trans (hb7.mono hbd6.size)
        clear hb7
        go_wp2
        have hbA := hbd7.alloc hbd7.size (.cells #[.int .i64 1, .int .i64 m, .bool false] 28)
        have hcA := Blk.new w7 #[.int .i64 1, .int .i64 m, .bool false] 28
        generalize w7.alloc (.cells #[.int .i64 1, .int .i64 m, .bool false] 28) = wA at *
        generalize htb : w7.heap.size = tb at hcA ⊢
        clear htb
        have L : ∀ w', Blk w' tb #[.int .i64 1, .int .i64 m, .bool false] 28 → w'.cell? ⟨tb, 0, none⟩ = some (.int .i64 1) ∧ w'.cell? ⟨tb, 1, none⟩ = some (.int .i64 m) ∧ w'.cell? ⟨tb, 2, none⟩ = some (.bool false) := fun w' h => h.c3
        have hS : Blk wA.drew tb #[.int .i64 1, .int .i64 m, .bool false] 28 := hcA
        have hbdA : Below w.heap.size w wA.drew := hbA.drew
        clear hcA hbA
        refine Seq.wp_region_seq (fun w' => Blk w' tb #[.int .i64 1, .int .i64 m, .bool false] 28) (by kernel_rfl) (by kernel_rfl) hS ?_
        repeat (first | (refine Seq.Seq.skip (by rfl) ?_; (try simp only [Act.put, List.setIfInBounds_toArray, List.set_cons_zero, List.set_cons_succ])) | (refine Seq.Seq.det ?_ (by rfl) (fun w hS => ?_) ?_; rotate_left; ((try dsimp only at hS); go_simp; (try rw [if_pos (by omega)]); with_reducible rfl); (try simp only [Act.put, List.setIfInBounds_toArray, List.set_cons_zero, List.set_cons_succ])))
        refine Seq.Seq.make (by rfl) (by rfl) (fun K Q' hK => ?_)
        go_simp
        go_at_call 14
        refine (ho1 _).mono ?_
        rintro e w' ⟨rfl, rfl⟩
        refine hK.out _ _ (hS) ?_
        clear hK K
        try simp only [Act.put, List.setIfInBounds_toArray, List.set_cons_zero, List.set_cons_succ]
        repeat (first | (refine Seq.Seq.skip (by rfl) ?_; (try simp only [Act.put, List.setIfInBounds_toArray, List.set_cons_zero, List.set_cons_succ])) | (refine Seq.Seq.det ?_ (by rfl) (fun w hS => ?_) ?_; rotate_left; ((try dsimp only at hS); go_simp; (try rw [if_pos (by omega)]); with_reducible rfl); (try simp only [Act.put, List.setIfInBounds_toArray, List.set_cons_zero, List.set_cons_succ])))
        refine Seq.Seq.make (by rfl) (by rfl) (fun K Q' hK => ?_)
        go_simp
        go_at_call 9
        refine (hs1 _).mono ?_
        rintro e w8 ⟨rfl, hb8⟩
        have hS8 := hS.below hb8
        have hbd8 := hbdA.trans (hb8.mono hbdA.size)
        refine hK.out _ _ (hS8) ?_
        clear hK K
        try simp only [Act.put, List.setIfInBounds_toArray, List.set_cons_zero, List.set_cons_succ]
        repeat (first | (refine Seq.Seq.skip (by rfl) ?_; (try simp only [Act.put, List.setIfInBounds_toArray, List.set_cons_zero, List.set_cons_succ])) | (refine Seq.Seq.det ?_ (by rfl) (fun w hS => ?_) ?_; rotate_left; ((try dsimp only at hS); go_simp; (try rw [if_pos (by omega)]); with_reducible rfl); (try simp only [Act.put, List.setIfInBounds_toArray, List.set_cons_zero, List.set_cons_succ])))
        refine Seq.Seq.make (by rfl) (by rfl) (fun K Q' hK => ?_)
        go_simp
        go_at_call 15
        refine (live9_any _).mono ?_
        rintro e w9 ⟨rfl, hb9⟩
        have hS9 := hS8.below hb9
        have hbd9 := hbd8.trans (hb9.mono hbd8.size)
        refine hK.out _ _ (hS9) ?_
        clear hK K
        try simp only [Act.put, List.setIfInBounds_toArray, List.set_cons_zero, List.set_cons_succ]
        repeat (first | (refine Seq.Seq.skip (by rfl) ?_; (try simp only [Act.put, List.setIfInBounds_toArray, List.set_cons_zero, List.set_cons_succ])) | (refine Seq.Seq.det ?_ (by rfl) (fun w hS => ?_) ?_; rotate_left; ((try dsimp only at hS); go_simp; (try rw [if_pos (by omega)]); with_reducible rfl); (try simp only [Act.put, List.setIfInBounds_toArray, List.set_cons_zero, List.set_cons_succ])))
        refine Seq.Seq.nil ?_
        go_wp2
        go_ret
        exact ⟨rfl, hbd9⟩

set_option maxRecDepth 100000 in
theorem lifted (os : Os) (started : os.Started) (H : Type) (enc : TypeId × Value → H) :
    ReturnsInHanded {} Try.checked os 3 .any (Rows.tallyTellsSpec.pre6 enc Try.prog Try.f3 Rows.tallyTellsRow.domain false) (Rows.tallyTellsSpec.post enc Try.prog Try.f3 false true false false) := by
  refine returnsInHanded_of_change (C := Try.checked) own started (by kernel_rfl) Try.func3
    (ChangeSpec.witness6 (enc := enc) (C := Try.checked) false ⟨#[], #[.int .i64 0, .int .i64 0, .agg #[.int .i64 0, .int .i64 0]], []⟩ 8 (by kernel_rfl) (by kernel_rfl) (by kernel_rfl) (by kernel_rfl)) ?_
  intro W base args ds gs before hval0 hW hcnd _
  have hval : ∀ (j : Nat) t v, Try.f3.params[j]? = some t → args[j]? = some v → Value.okWide Try.prog W .any base t v := hval0
  have hW' := hW
  obtain ⟨p, q, hA0, hV, rfl, hfz, hnd⟩ := hW
  have hA : DataW.TrodAll enc Try.prog W 0 (fun _ => true) true Try.f3.params.toList args.toList ds p := hA0
  rw [Try.params3] at hA hval
  obtain ⟨v0, vs0, d0, ds0, p0, q0, hargs, rfl, rfl, h0, r0⟩ := trodAll_cons hA
  obtain ⟨v1, vs1, d1, ds1, p1, q1, rfl, rfl, rfl, h1, r1⟩ := trodAll_cons r0
  obtain ⟨v2, vs2, d2, ds2, p2, q2, rfl, rfl, rfl, h2, r2⟩ := trodAll_cons r1
  obtain ⟨rfl, rfl, rfl⟩ := trodAll_nil r2
  obtain rfl : args = #[v0, v1, v2] := by cases args; simp_all
  obtain ⟨rfl, rfl⟩ := trodVars_none hV
  have lt0 : ∀ x ∈ p0, x.block < W.heap.size := by obtain ⟨m, hm⟩ := h0; exact DataW.trod_lt m _ _ _ hm
  have lt1 : ∀ x ∈ p1, x.block < W.heap.size := by obtain ⟨m, hm⟩ := h1; exact DataW.trod_lt m _ _ _ hm
  have lt2 : ∀ x ∈ p2, x.block < W.heap.size := by obtain ⟨m, hm⟩ := h2; exact DataW.trod_lt m _ _ _ hm
  clear hA0 hval0
  refine (walk enc W base v0 d0 p0 (hval 0 3 v0 rfl rfl) h0 v1 d1 p1 (hval 1 3 v1 rfl rfl) h1 v2 d2 p2 (hval 2 22 v2 rfl rfl) h2).mono fun e W' ⟨he, bel⟩ => ?_
  subst he
  exact ⟨_, rfl, _, _, _, [], _, [], hW', trodAll_mk1 (shut_bool Try.underlying4 _), (trodAll_cons_mk (Below.trod laidOut (by kernel_rfl) (of_decide_eq_true (by kernel_rfl)) h0 bel lt0) (trodAll_cons_mk (Below.trod laidOut (by kernel_rfl) (of_decide_eq_true (by kernel_rfl)) h1 bel lt1) (trodAll_cons_mk (Below.trod laidOut (by kernel_rfl) (of_decide_eq_true (by kernel_rfl)) h2 bel lt2) trodAll_mk0))), rfl, bel.frame _, fun h => by cases h⟩

theorem over : Rows.tallyTellsRow.holds Try.pinned (OpenSpec.ofChange Rows.tallyTellsSpec) :=
  OpenClaim.holds_of_wide 3 Try.f3 rfl rfl rfl rfl rfl rfl rfl ⟨rfl, rfl, rfl, rfl, rfl⟩ rfl rfl rfl rfl rfl (by kernel_rfl) Try.func3 (by kernel_rfl)
    (of_decide_eq_true (by kernel_rfl)) (by unfold Func.isWrapper; first | (rw [if_pos (by decide +kernel)]; kernel_rfl) | (rw [if_neg (by decide +kernel)]; exact ⟨rfl, rfl⟩))
    (fun os started H enc _ => lifted os started H enc)

/-- THE STATEMENT. -/
theorem proved : Rows.TallyTellsSaid := over
#print axioms proved
end Go.Proofs.Ytepebneigehboaa.tallyTells
