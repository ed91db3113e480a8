/- StripeReads: called with any bytes and any number, the law returns true; no condition. -/
import Derived.Test.YtpoicagalmhfdaaRows
import Derived.Test.YtpoicagalmhfdaaStpU
import Derived.Test.YtpoicagalmhfdaaStpG
import Derived.Test.YtpoicagalmhfdaaStpJ
import Derived.Test.YtpoicagalmhfdaaStpN
import Derived.Test.YtpoicagalmhfdaaStpP
import Derived.Test.YtpoicagalmhfdaaK1
import Derived.ProofKit
import Derived.OpenShut
import Derived.ShutString
import Derived.ChangeOld
namespace Go.Proofs.Ytpoicagalmhfdaa.stripeReads
open Go.ChangeShapes Go.WideShapes Go.ChangeAt Go.RowKit
open Go.ChangeMaps (open_string shut_string)
set_option linter.unusedVariables false

theorem own : ownKnob Try.prog.godebug = none := by kernel_rfl
theorem laidOut : laidOutB Try.prog = true := by kernel_rfl
open Cur Mem

set_option maxRecDepth 100000

/-- What the loads of the law need. -/
def S2 (x y cb : Nat) (u v c : Array Value) (w' : World) : Prop :=
  Blk w' x u 25 ∧ Blk w' y v 25 ∧ Blk w' cb c 48
theorem S2.below {x y cb : Nat} {u v c : Array Value} {w' w'' : World} (h : S2 x y cb u v c w') (hb : Below w'.heap.size w' w'') : S2 x y cb u v c w'' :=
  ⟨h.1.below hb, h.2.1.below hb, h.2.2.below hb⟩


set_option maxHeartbeats 8000000 in
theorem walk {H : Type} (enc : TypeId × Value → H) (w : World) (base : Nat) (v0 : Value) (d0 : DataW H) (p0 : List MemPlace) (g0 : Value.okWide Try.prog w .any base 26 v0) (h0 : DataW.Trod enc Try.prog w 0 (fun _ => true) true 26 v0 d0 p0) (v1 : Value) (d1 : DataW H) (p1 : List MemPlace) (g1 : Value.okWide Try.prog w .any base 22 v1) (h1 : DataW.Trod enc Try.prog w 0 (fun _ => true) true 22 v1 d1 p1) :
    Calls Try.prog 4 #[v0, v1] w fun e w' => e = .returned (.bool true) ∧ Below w.heap.size w w' := by
  obtain ⟨a, n, m, z, rfl, hnm, hz, hby, hnil⟩ := open_bytes g0 h0
  obtain ⟨f, rfl, f0, f1⟩ := open_u64 g1 h1
  clear g0 h0 g1 h1
  have hbd := Below.refl w.heap.size w
  by_cases hn : 300 < (n : Int)
  · go_enter Try.func4, Try.ntmps4
    go_wp2_with fail
    refine (live19_any _).mono ?_
    rintro e wl ⟨rfl, hbl⟩
    replace hbd := hbd.trans (hbl.mono hbd.size)
    go_wp2
    go_ret
    exact ⟨rfl, hbd⟩
  have HBY := Lib.hid hby
  have HZ := Lib.hid hz
  have HON := Lib.hid (str_once (f := f) (p := 0) hby f0 (Int.le_refl _) (by omega))
  clear hz hby hbd
  go_enter Try.func4, Try.ntmps4
  go_wp2_with fail
  refine (new_some _ _ _ _ hnm).mono ?_
  rintro e w1 ⟨rb, rfl, hrb, hbd, hr⟩
  go_wp2_with fail
  refine (sread19_any rb a n n z f 0 0 0 _ hr (HZ.out.below hbd) (by omega) (by omega) (by omega) HBY.out f0 f1).mono ?_
  rintro e w2 ⟨f', t, A, N, m', S, p, c, q, rfl, hk2, hr2, hst2, hle, hnil', b0, b1, hsb, hl8, hN8, hs⟩
  have hbx := below_one w2 (.cells (stc f' t A N m') 25)
  have h6 := Blk.new w2 (stc f' t A N m') 25
  have hst3 := hst2.below hbx
  have hr3 := hr2.below hbx
  replace hbd := (Kp.below hbd (Nat.le_refl _) hk2 hrb)
  replace hbd := hbd.trans (hbx.mono hbd.size)
  have HS := Lib.hid hs
  clear hs hk2 hr hr2 hst2 hbx
  go_wp2_with fail
  generalize w2.alloc (.cells (stc f' t A N m') 25) = w3 at *
  generalize w2.heap.size = b6 at *
  refine (rread19_any a n m z f 0 0 0 w3 (HZ.out.below hbd) (by omega) (by omega) hnm (by omega) HBY.out f0).mono ?_
  rintro e w4 ⟨f2, t2, A2, N2, m2, S2', p2, c2, q2, rfl, hb4, hst4, hle2, hnil2, _, _, _, hl82, hN82, hs2⟩
  obtain ⟨e1, e2, e3, hp⟩ := St.det HS.out hs2
  injection e1 with e1 e4
  injection e4 with e4 e5
  subst e1 e4 e5 e2 e3
  obtain rfl : N = N2 := by rw [← hst3.1, ← hst4.1]
  have HP := Lib.hid hp
  have h7 := (Blk.new w4 (cvs (.slice a n m) p2 c q) 48).alloc (.cells (stc f' t A2 N m2) 25)
  have h8 := Blk.new (w4.alloc (.cells (cvs (.slice a n m) p2 c q) 48)) (stc f' t A2 N m2) 25
  rw [show (w4.alloc (.cells (cvs (.slice a n m) p2 c q) 48)).heap.size = w4.heap.size + 1 by simp] at h8
  have hbx := hb4.trans ((below_two w4 (.cells (cvs (.slice a n m) p2 c q) 48) (.cells (stc f' t A2 N m2) 25)).mono hb4.size)
  have hst8 := hst4.below (below_two w4 (.cells (cvs (.slice a n m) p2 c q) 48) (.cells (stc f' t A2 N m2) 25))
  replace h6 := h6.below hbx
  replace hst3 := hst3.below hbx
  replace hr3 := hr3.below hbx
  replace hbd := hbd.trans (hbx.mono hbd.size)
  clear hs2 hp hb4 hbx hst4
  go_upto_region 6 with (fail)
  generalize (w4.alloc (.cells (cvs (.slice a n m) p2 c q) 48)).alloc (.cells (stc f' t A2 N m2) 25) = w5 at *
  generalize w4.heap.size = b7 at *
  have hS : S2 b6 (b7 + 1) b7 (stc f' t A N m') (stc f' t A2 N m2) (cvs (.slice a n m) p2 c q) w5.drew := ⟨h6, h8, h7⟩
  have L1 : ∀ w', S2 b6 (b7 + 1) b7 (stc f' t A N m') (stc f' t A2 N m2) (cvs (.slice a n m) p2 c q) w' → (w'.cell? ⟨b6, 0, none⟩ = some (.int .u64 f') ∧ w'.cell? ⟨b6, 1, none⟩ = some (.int .u64 t) ∧ w'.cell? ⟨b6, 2, none⟩ = some (.slice A N m')) := fun w' h => h.1.c3
  have L2 : ∀ w', S2 b6 (b7 + 1) b7 (stc f' t A N m') (stc f' t A2 N m2) (cvs (.slice a n m) p2 c q) w' → (w'.cell? ⟨b7 + 1, 0, none⟩ = some (.int .u64 f') ∧ w'.cell? ⟨b7 + 1, 1, none⟩ = some (.int .u64 t) ∧ w'.cell? ⟨b7 + 1, 2, none⟩ = some (.slice A2 N m2)) := fun w' h => h.2.1.c3
  have L3 : ∀ w', S2 b6 (b7 + 1) b7 (stc f' t A N m') (stc f' t A2 N m2) (cvs (.slice a n m) p2 c q) w' → (w'.cell? ⟨b7, 0, none⟩ = some (.slice a n m) ∧ w'.cell? ⟨b7, 1, none⟩ = some (.int .i64 p2) ∧ w'.cell? ⟨b7, 2, none⟩ = some (.int .i64 c) ∧ w'.cell? ⟨b7, 3, none⟩ = some (.int .i64 q)) := fun w' h => h.2.2.c4
  have hstd3 := hst3.below (below_one' w5)
  have hstd8 := hst8.below (below_one' w5)
  have hrd := hr3.below (below_one' w5)
  replace hbd := hbd.trans ((below_one' w5).mono hbd.size)
  clear h6 h7 h8 hst3 hst8 hr3
  go_wp2
  refine Seq.wp_region_seq (S2 b6 (b7 + 1) b7 (stc f' t A N m') (stc f' t A2 N m2) (cvs (.slice a n m) p2 c q)) (by kernel_rfl) (by kernel_rfl) hS ?_
  repeat (first | (refine Seq.Seq.skip (by rfl) ?_; (try simp only [Act.put, List.setIfInBounds_toArray, List.set_cons_zero, List.set_cons_succ])) | (refine Seq.Seq.det ?_ (by rfl) (fun w hS => ?_) ?_; rotate_left; ((try dsimp only at hS); go_simp; (try rw [if_pos (by omega)]); with_reducible rfl); (try simp only [Act.put, List.setIfInBounds_toArray, List.set_cons_zero, List.set_cons_succ])))
  refine Seq.Seq.make (by rfl) (by rfl) (fun K Q' hK => ?_)
  go_simp
  go_at_call 17
  refine (rstsame_any _ _ f' t A N m' S f' t A2 N m2 S _ hstd3 hstd8 (by omega) (by omega) (fun l hl => by have := hl8 l hl; omega) (fun l hl => by have := hl8 l hl; omega)).mono ?_
  rintro e w6 ⟨rfl, hb6⟩
  rw [decide_eq_true rfl]
  replace hS := hS.below hb6
  replace hstd3 := hstd3.below hb6
  replace hrd := hrd.below hb6
  replace hbd := hbd.trans (hb6.mono hbd.size)
  refine hK.out _ _ (hS) ?_
  clear hK K
  try simp only [Act.put, List.setIfInBounds_toArray, List.set_cons_zero, List.set_cons_succ]
  repeat (first | (refine Seq.Seq.skip (by rfl) ?_; (try simp only [Act.put, List.setIfInBounds_toArray, List.set_cons_zero, List.set_cons_succ])) | (refine Seq.Seq.det ?_ (by rfl) (fun w hS => ?_) ?_; rotate_left; ((try dsimp only at hS); go_simp; (try rw [if_pos (by omega)]); with_reducible rfl); (try simp only [Act.put, List.setIfInBounds_toArray, List.set_cons_zero, List.set_cons_succ])))
  refine Seq.Seq.make (by rfl) (by rfl) (fun K Q' hK => ?_)
  go_simp
  go_at_call 25
  refine (fault_any _ _ _ _ _ _ (by exact hrd)).mono ?_
  rintro e w7 ⟨rfl, hb7⟩
  replace hS := hS.below hb7
  replace hstd3 := hstd3.below hb7
  replace hrd := hrd.below hb7
  replace hbd := hbd.trans (hb7.mono hbd.size)
  refine hK.out _ _ (hS) ?_
  clear hK K
  try simp only [Act.put, List.setIfInBounds_toArray, List.set_cons_zero, List.set_cons_succ]
  repeat (first | (refine Seq.Seq.skip (by rfl) ?_; (try simp only [Act.put, List.setIfInBounds_toArray, List.set_cons_zero, List.set_cons_succ])) | (refine Seq.Seq.det ?_ (by rfl) (fun w hS => ?_) ?_; rotate_left; ((try dsimp only at hS); go_simp; (try rw [if_pos (by omega)]); with_reducible rfl); (try simp only [Act.put, List.setIfInBounds_toArray, List.set_cons_zero, List.set_cons_succ])))
  refine Seq.Seq.nil ?_
  clear L1 L2 L3 hb6 hb7 hstd8
  obtain ⟨u0, u1, u2, u3⟩ := hS.2.2.c4
  by_cases hc : c = 0
  · subst hc
    have hp := HP.out rfl
    subst hp
    obtain ⟨_, g0, gv, gp, gq⟩ := HS.out.good
    obtain ⟨s, p', e, hsf, hok, _, k0, k1, hby2⟩ := HON.out g0
    rw [e] at gv gp
    have hs1 : s = (f', t, S) := gv.symm
    have hp1 : p' = p := gp.symm
    subst hs1 hp1
    rw [HZ.out.1] at k1
    have HOK := Lib.hid hok
    obtain ⟨j, rfl⟩ := Int.eq_ofNat_of_zero_le k0
    have hjn : j ≤ n := by omega
    have hjm : (j : Int) ≤ m := by omega
    have HZT : Hid (Bs w a j (stb (f', t, S))) := Lib.hid (by
      have := HZ.out.take (k := j) hjn
      rw [hby2]; unfold piece; simpa using this)
    have HLE := Lib.hid (stb_len hok)
    clear g0 gv gp gq e hby2 hok HON HS HP hsf
    go_wp2
    clear u0 u1 u2 u3
    have L1 : ∀ w', S2 b6 (b7 + 1) b7 (stc f' t A N m') (stc f' t A2 N m2) (cvs (.slice a n m) j 0 q) w' → (w'.cell? ⟨b6, 0, none⟩ = some (.int .u64 f') ∧ w'.cell? ⟨b6, 1, none⟩ = some (.int .u64 t) ∧ w'.cell? ⟨b6, 2, none⟩ = some (.slice A N m')) := fun w' h => h.1.c3
    have L3 : ∀ w', S2 b6 (b7 + 1) b7 (stc f' t A N m') (stc f' t A2 N m2) (cvs (.slice a n m) j 0 q) w' → (w'.cell? ⟨b7, 0, none⟩ = some (.slice a n m) ∧ w'.cell? ⟨b7, 1, none⟩ = some (.int .i64 j) ∧ w'.cell? ⟨b7, 2, none⟩ = some (.int .i64 0) ∧ w'.cell? ⟨b7, 3, none⟩ = some (.int .i64 q)) := fun w' h => h.2.2.c4
    replace hS := hS.below (below_one' _)
    replace hstd3 := hstd3.below (below_one' _)
    replace hrd := hrd.below (below_one' _)
    replace hbd := hbd.trans ((below_one' _).mono hbd.size)
    refine Seq.wp_region_seq (S2 b6 (b7 + 1) b7 (stc f' t A N m') (stc f' t A2 N m2) (cvs (.slice a n m) j 0 q)) (by kernel_rfl) (by kernel_rfl) hS ?_
    repeat (first | (refine Seq.Seq.skip (by rfl) ?_; (try simp only [Act.put, List.setIfInBounds_toArray, List.set_cons_zero, List.set_cons_succ])) | (refine Seq.Seq.det ?_ (by rfl) (fun w hS => ?_) ?_; rotate_left; ((try dsimp only at hS); go_simp; (try rw [if_pos (by omega)]); with_reducible rfl); (try simp only [Act.put, List.setIfInBounds_toArray, List.set_cons_zero, List.set_cons_succ])))
    refine Seq.Seq.make (by rfl) (by rfl) (fun K Q' hK => ?_)
    go_simp
    go_at_call 23
    refine (at_any _ _ _ _ _ _ (by exact hrd)).mono ?_
    rintro e w8 ⟨rfl, rfl⟩
    refine hK.out _ _ (hS) ?_
    clear hK K
    try simp only [Act.put, List.setIfInBounds_toArray, List.set_cons_zero, List.set_cons_succ]
    repeat (first | (refine Seq.Seq.skip (by rfl) ?_; (try simp only [Act.put, List.setIfInBounds_toArray, List.set_cons_zero, List.set_cons_succ])) | (refine Seq.Seq.det ?_ (by rfl) (fun w hS => ?_) ?_; rotate_left; ((try dsimp only at hS); go_simp; (try rw [if_pos (by omega)]); with_reducible rfl); (try simp only [Act.put, List.setIfInBounds_toArray, List.set_cons_zero, List.set_cons_succ])))
    refine Seq.Seq.make (by rfl) (by rfl) (fun K Q' hK => ?_)
    go_simp
    go_at_call 15
    refine (rright19_any _ f' t A N m' S _ hstd3 hle (by omega) (fun l hl => by have := hl8 l hl; omega)).mono ?_
    rintro e w9 ⟨rfl, hb9⟩
    rw [HOK.out]
    replace hS := hS.below hb9
    replace hstd3 := hstd3.below hb9
    replace hbd := hbd.trans (hb9.mono hbd.size)
    refine hK.out _ _ (hS) ?_
    clear hK K
    try simp only [Act.put, List.setIfInBounds_toArray, List.set_cons_zero, List.set_cons_succ]
    repeat (first | (refine Seq.Seq.skip (by rfl) ?_; (try simp only [Act.put, List.setIfInBounds_toArray, List.set_cons_zero, List.set_cons_succ])) | (refine Seq.Seq.det ?_ (by rfl) (fun w hS => ?_) ?_; rotate_left; ((try dsimp only at hS); go_simp; (try rw [if_pos (by omega)]); with_reducible rfl); (try simp only [Act.put, List.setIfInBounds_toArray, List.set_cons_zero, List.set_cons_succ])))
    refine Seq.Seq.make (by rfl) (by rfl) (fun K Q' hK => ?_)
    go_simp
    go_at_call 21
    refine (rstbytes_any _ f' t A N m' S HOK.out b0.1 _ hstd3 hle).mono ?_
    rintro e w10 ⟨A10, m10, rfl, hb10, hs10, _, _, _⟩
    replace hS := hS.below hb10
    replace hbd := hbd.trans (hb10.mono hbd.size)
    refine hK.out _ _ (hS) ?_
    clear hK K
    try simp only [Act.put, List.setIfInBounds_toArray, List.set_cons_zero, List.set_cons_succ]
    repeat (first | (refine Seq.Seq.skip (by rfl) ?_; (try simp only [Act.put, List.setIfInBounds_toArray, List.set_cons_zero, List.set_cons_succ])) | (refine Seq.Seq.det ?_ (by rfl) (fun w hS => ?_) ?_; rotate_left; ((try dsimp only at hS); go_simp; (try rw [if_pos (by omega)]); with_reducible rfl); (try simp only [Act.put, List.setIfInBounds_toArray, List.set_cons_zero, List.set_cons_succ])))
    refine Seq.Seq.make (by rfl) (by rfl) (fun K Q' hK => ?_)
    go_simp
    go_at_call 13
    refine (same_any _ _ _ _ _ _ (stb (f', t, S)) _ hs10 (HZT.out.below hbd)).mono ?_
    rintro e w11 ⟨rfl, rfl⟩
    refine hK.out _ _ (hS) ?_
    clear hK K
    try simp only [Act.put, List.setIfInBounds_toArray, List.set_cons_zero, List.set_cons_succ]
    repeat (first | (refine Seq.Seq.skip (by rfl) ?_; (try simp only [Act.put, List.setIfInBounds_toArray, List.set_cons_zero, List.set_cons_succ])) | (refine Seq.Seq.det ?_ (by rfl) (fun w hS => ?_) ?_; rotate_left; ((try dsimp only at hS); go_simp; (try rw [if_pos (by omega)]); with_reducible rfl); (try simp only [Act.put, List.setIfInBounds_toArray, List.set_cons_zero, List.set_cons_succ])))
    refine Seq.Seq.make (by rfl) (by rfl) (fun K Q' hK => ?_)
    go_simp
    go_at_call 8
    refine (live19_any _).mono ?_
    rintro e w12 ⟨rfl, hb12⟩
    replace hS := hS.below hb12
    replace hbd := hbd.trans (hb12.mono hbd.size)
    refine hK.out _ _ (hS) ?_
    clear hK K
    try simp only [Act.put, List.setIfInBounds_toArray, List.set_cons_zero, List.set_cons_succ]
    repeat (first | (refine Seq.Seq.skip (by rfl) ?_; (try simp only [Act.put, List.setIfInBounds_toArray, List.set_cons_zero, List.set_cons_succ])) | (refine Seq.Seq.det ?_ (by rfl) (fun w hS => ?_) ?_; rotate_left; ((try dsimp only at hS); go_simp; (try rw [if_pos (by omega)]); with_reducible rfl); (try simp only [Act.put, List.setIfInBounds_toArray, List.set_cons_zero, List.set_cons_succ])))
    refine Seq.Seq.nil ?_
    clear hb9 hb10 hb12 hS hstd3 hrd L1 L3 hs10
    go_wp2
    go_ret
    exact ⟨rfl, hbd⟩
  · have hcb : (c == 0) = false := by simpa using hc
    have hcb2 : (c != 0) = true := by simpa using hc
    clear hS hstd3 hrd
    go_wp2_with fail
    refine (live19_any _).mono ?_
    rintro e wl ⟨rfl, hbl⟩
    replace hbd := hbd.trans (hbl.mono hbd.size)
    go_wp2
    go_ret
    exact ⟨rfl, hbd⟩

set_option maxRecDepth 100000 in
theorem lifted (os : Os) (started : os.Started) (H : Type) (enc : TypeId × Value → H) :
    ReturnsInHanded {} Try.checked os 4 .any (Rows.stripeReadsSpec.pre6 enc Try.prog Try.f4 Rows.stripeReadsRow.domain false) (Rows.stripeReadsSpec.post enc Try.prog Try.f4 false true false false) := by
  refine returnsInHanded_of_change (C := Try.checked) own started (by kernel_rfl) Try.func4
    (ChangeSpec.witness6 (enc := enc) (C := Try.checked) false ⟨#[], #[.slice none 0 0, .int .u64 0], []⟩ 8 (by kernel_rfl) (by kernel_rfl) (by kernel_rfl) (by kernel_rfl)) ?_
  intro W base args ds gs before hval0 hW hcnd _
  have hval : ∀ (j : Nat) t v, Try.f4.params[j]? = some t → args[j]? = some v → Value.okWide Try.prog W .any base t v := hval0
  have hW' := hW
  obtain ⟨p, q, hA0, hV, rfl, hfz, hnd⟩ := hW
  have hA : DataW.TrodAll enc Try.prog W 0 (fun _ => true) true Try.f4.params.toList args.toList ds p := hA0
  rw [Try.params4] at hA hval
  obtain ⟨v0, vs0, d0, ds0, p0, q0, hargs, rfl, rfl, h0, r0⟩ := trodAll_cons hA
  obtain ⟨v1, vs1, d1, ds1, p1, q1, rfl, rfl, rfl, h1, r1⟩ := trodAll_cons r0
  obtain ⟨rfl, rfl, rfl⟩ := trodAll_nil r1
  obtain rfl : args = #[v0, v1] := by cases args; simp_all
  obtain ⟨rfl, rfl⟩ := trodVars_none hV
  have lt0 : ∀ x ∈ p0, x.block < W.heap.size := by obtain ⟨m, hm⟩ := h0; exact DataW.trod_lt m _ _ _ hm
  have lt1 : ∀ x ∈ p1, x.block < W.heap.size := by obtain ⟨m, hm⟩ := h1; exact DataW.trod_lt m _ _ _ hm
  clear hA0 hval0
  refine (walk enc W base v0 d0 p0 (hval 0 26 v0 rfl rfl) h0 v1 d1 p1 (hval 1 22 v1 rfl rfl) h1).mono fun e W' ⟨he, bel⟩ => ?_
  subst he
  exact ⟨_, rfl, _, _, _, [], _, [], hW', trodAll_mk1 (shut_bool Try.underlying4 _), (trodAll_cons_mk (Below.trod laidOut (by kernel_rfl) (of_decide_eq_true (by kernel_rfl)) h0 bel lt0) (trodAll_cons_mk (Below.trod laidOut (by kernel_rfl) (of_decide_eq_true (by kernel_rfl)) h1 bel lt1) trodAll_mk0)), rfl, bel.frame _, fun h => by cases h⟩

theorem over : Rows.stripeReadsRow.holds Try.pinned (OpenSpec.ofChange Rows.stripeReadsSpec) :=
  OpenClaim.holds_of_wide 4 Try.f4 rfl rfl rfl rfl rfl rfl rfl ⟨rfl, rfl, rfl, rfl, rfl⟩ rfl rfl rfl rfl rfl (by kernel_rfl) Try.func4 (by kernel_rfl)
    (of_decide_eq_true (by kernel_rfl)) (by unfold Func.isWrapper; first | (rw [if_pos (by decide +kernel)]; kernel_rfl) | (rw [if_neg (by decide +kernel)]; exact ⟨rfl, rfl⟩))
    (fun os started H enc _ => lifted os started H enc)

/-- THE STATEMENT. -/
theorem proved : Rows.StripeReadsSaid := over
#print axioms proved
end Go.Proofs.Ytpoicagalmhfdaa.stripeReads
