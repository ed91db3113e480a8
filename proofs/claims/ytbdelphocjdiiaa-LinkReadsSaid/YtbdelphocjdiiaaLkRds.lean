/- LinkReads: called with any bytes and any number, the law returns true; no condition. -/
import Derived.Test.YtbdelphocjdiiaaRows
import Derived.Test.YtbdelphocjdiiaaLnkP
import Derived.Test.YtbdelphocjdiiaaK34
import Derived.Test.YtbdelphocjdiiaaK33
import Derived.ProofKit
import Derived.OpenShut
import Derived.ShutString
import Derived.ChangeOld
namespace Go.Proofs.Ytbdelphocjdiiaa.linkReads
open Go.ChangeShapes Go.WideShapes Go.ChangeAt Go.RowKit
open Go.ChangeMaps (open_string shut_string)
set_option linter.unusedVariables false

theorem own : ownKnob Try.prog.godebug = none := by kernel_rfl
theorem laidOut : laidOutB Try.prog = true := by kernel_rfl
open Cur Mem

set_option maxRecDepth 100000


set_option maxHeartbeats 8000000 in
theorem walk {H : Type} (enc : TypeId × Value → H) (w : World) (base : Nat) (v0 : Value) (d0 : DataW H) (p0 : List MemPlace) (g0 : Value.okWide Try.prog w .any base 24 v0) (h0 : DataW.Trod enc Try.prog w 0 (fun _ => true) true 24 v0 d0 p0) (v1 : Value) (d1 : DataW H) (p1 : List MemPlace) (g1 : Value.okWide Try.prog w .any base 22 v1) (h1 : DataW.Trod enc Try.prog w 0 (fun _ => true) true 22 v1 d1 p1) :
    Calls Try.prog 4 #[v0, v1] w fun e w' => e = .returned (.bool true) ∧ Below w.heap.size w w' := by
  obtain ⟨a, n, m, z, rfl, hnm, hz, hby, hnil⟩ := open_bytes g0 h0
  obtain ⟨pos, rfl, b0, b1⟩ := open_u64 g1 h1
  clear g0 h0 g1 h1
  have hbd := Below.refl w.heap.size w
  by_cases hn : 300 < (n : Int)
  · go_enter Try.func4, Try.ntmps4
    go_wp2_with fail
    refine (live23_any _).mono ?_
    rintro e wl ⟨rfl, hbl⟩
    replace hbd := hbd.trans (hbl.mono hbd.size)
    go_wp2
    go_ret
    exact ⟨rfl, hbd⟩
  have HBY := Lib.hid hby
  have HZ := Lib.hid hz
  have HON := Lib.hid (lrd_once (pos := pos) (p := 0) hby b1 (Int.le_refl _) (by omega))
  clear hz hby hbd
  go_enter Try.func4, Try.ntmps4
  go_wp2_with fail
  refine (new_some _ _ _ _ hnm).mono ?_
  rintro e w1 ⟨rb, rfl, hrb, hb1, hr1⟩
  go_wp2_with fail
  refine (lread_any _ _ _ _ z pos 0 0 0 _ hr1 (HZ.out.below hb1) (by omega) (by omega) (by omega) HBY.out b0 b1).mono ?_
  rintro e w2 ⟨v, L, p', c', q', rfl, hk2, hr2, ho2, hl16, hb4, hs2⟩
  have hb2 := Kp.below hb1 (Nat.le_refl _) hk2 hrb
  have HS2 := Lib.hid hs2
  clear hs2 hk2 hr1
  go_wp2_with fail
  refine (rlread_any a n m z pos 0 0 0 _ (HZ.out.below hb2) (by omega) (by omega) hnm (by omega) HBY.out b0 b1).mono ?_
  rintro e w3 ⟨v2, L2, p2, c2, q2, rfl, hb3, ho3, hl2, _, hs3⟩
  obtain ⟨rfl, rfl, rfl, hp⟩ := HS2.out.det hs3
  have hb4' := hb2.trans (hb3.mono hb2.size)
  have ho4 := ho2.below hb3
  have hr4 := hr2.below hb3
  have HP := Lib.hid hp
  clear hb2 hb3 ho2 hr2 hs3 hp hb1
  have hbA := below_one w3 (.cells (cvs (.slice a n m) p2 c' q') 46)
  have ho5 := ho4.below hbA
  have ho6 := ho3.below hbA
  have hr5 := hr4.below hbA
  have hcA := Blk.new w3 (cvs (.slice a n m) p2 c' q') 46
  have hbdA := hb4'.trans (hbA.mono hb4'.size)
  clear hbA ho4 ho3 hr4 hb4'
  go_wp2_with fail
  generalize w3.alloc (.cells (cvs (.slice a n m) p2 c' q') 46) = w6 at *
  generalize w3.heap.size = cb at *
  obtain ⟨A1, cc1, rfl, _, _, hu1⟩ := ho5.lks
  obtain ⟨A2, cc2, rfl, _, _, hu2⟩ := ho6.lks
  clear ho5 ho6
  have hbl : blen 1000000 L := fun s hs => by have := hb4 s hs; omega
  obtain ⟨NL, hNL⟩ : ∃ NL, NL = L.length := ⟨_, rfl⟩
  rw [← hNL] at hu1 hu2 hl16 ⊢
  have HNL := Lib.hid hNL
  clear hNL hb4 hl2
  have L0 : ∀ w', Blk w' cb (cvs (.slice a n m) p2 c' q') 46 → w'.cell? ⟨cb, 0, none⟩ = some (.slice a n m) ∧ w'.cell? ⟨cb, 1, none⟩ = some (.int .i64 p2) ∧ w'.cell? ⟨cb, 2, none⟩ = some (.int .i64 c') ∧ w'.cell? ⟨cb, 3, none⟩ = some (.int .i64 q') := fun w' h => h.c4
  have hS : Blk w6.drew cb (cvs (.slice a n m) p2 c' q') 46 := hcA
  have hbd : Below w.heap.size w w6.drew := hbdA.trans ((below_one' _).mono hbdA.size)
  have hr : IsRd w6.drew rb (.slice a n n) p' c' q' := hr5
  have hu3 := hu1.below (below_one' _)
  have hu4 := hu2.below (below_one' _)
  clear hcA hbdA hr5 hu1 hu2
  refine Seq.wp_region_seq (fun w' => Blk w' cb (cvs (.slice a n m) p2 c' q') 46) (by kernel_rfl) (by kernel_rfl) hS ?_
  generalize w6.drew = wd at *
  repeat (first | (refine Seq.Seq.skip (by rfl) ?_; (try simp only [Act.put, List.setIfInBounds_toArray, List.set_cons_zero, List.set_cons_succ])) | (refine Seq.Seq.det ?_ (by rfl) (fun w hS => ?_) ?_; rotate_left; ((try dsimp only at hS); go_simp; (try rw [if_pos (by omega)]); with_reducible rfl); (try simp only [Act.put, List.setIfInBounds_toArray, List.set_cons_zero, List.set_cons_succ])))
  refine Seq.Seq.make (by rfl) (by rfl) (fun K Q' hK => ?_)
  go_simp
  go_at_call 21
  have hsc := rlsame_any _ _ A1 A2 NL NL cc1 cc2 L L wd hu3 hu4 (by omega) (by omega) hbl hbl
  rw [show decide (L = L) = true from decide_eq_true rfl] at hsc
  refine hsc.mono ?_
  rintro e w7 ⟨rfl, hb7⟩
  replace hS := hS.below hb7
  replace hbd := hbd.trans (hb7.mono hbd.size)
  replace hr := hr.below hb7
  replace hu3 := hu3.below hb7
  refine hK.out _ _ (hS) ?_
  clear hK K
  try simp only [Act.put, List.setIfInBounds_toArray, List.set_cons_zero, List.set_cons_succ]
  clear hu4 hb7 hsc hbl
  repeat (first | (refine Seq.Seq.skip (by rfl) ?_; (try simp only [Act.put, List.setIfInBounds_toArray, List.set_cons_zero, List.set_cons_succ])) | (refine Seq.Seq.det ?_ (by rfl) (fun w hS => ?_) ?_; rotate_left; ((try dsimp only at hS); go_simp; (try rw [if_pos (by omega)]); with_reducible rfl); (try simp only [Act.put, List.setIfInBounds_toArray, List.set_cons_zero, List.set_cons_succ])))
  refine Seq.Seq.make (by rfl) (by rfl) (fun K Q' hK => ?_)
  go_simp
  go_at_call 23
  refine (fault_any _ _ _ _ _ _ (by exact hr)).mono ?_
  rintro e w9 ⟨rfl, hb9⟩
  replace hS := hS.below hb9
  replace hbd := hbd.trans (hb9.mono hbd.size)
  replace hr := hr.below hb9
  replace hu3 := hu3.below hb9
  refine hK.out _ _ (hS) ?_
  clear hK K
  try simp only [Act.put, List.setIfInBounds_toArray, List.set_cons_zero, List.set_cons_succ]
  repeat (first | (refine Seq.Seq.skip (by rfl) ?_; (try simp only [Act.put, List.setIfInBounds_toArray, List.set_cons_zero, List.set_cons_succ])) | (refine Seq.Seq.det ?_ (by rfl) (fun w hS => ?_) ?_; rotate_left; ((try dsimp only at hS); go_simp; (try rw [if_pos (by omega)]); with_reducible rfl); (try simp only [Act.put, List.setIfInBounds_toArray, List.set_cons_zero, List.set_cons_succ])))
  refine Seq.Seq.nil ?_
  clear hb9 L0
  obtain ⟨u0, u1, u2, u3⟩ := hS.c4
  by_cases hc : c' = 0
  · subst hc
    have hp := HP.out rfl
    subst hp
    obtain ⟨_, g0, gv, gp, gq⟩ := HS2.out.good
    obtain ⟨l', p3, e, hok, hlb, k0, k1, hpc⟩ := HON.out g0
    rw [e] at gv gp
    have hs1 : l' = L := gv.symm
    have hp1 : p3 = p' := gp.symm
    subst hs1 hp1
    rw [HZ.out.1] at k1
    obtain ⟨j, rfl⟩ := Int.eq_ofNat_of_zero_le k0
    have hjn : j ≤ n := by omega
    have hjm : (j : Int) ≤ m := by omega
    have HZT : Hid (Bs w a j (lkz pos l')) := Lib.hid (by
      have := HZ.out.take (k := j) hjn
      rw [hpc]; unfold piece; simpa using this)
    have HOK := Lib.hid hok
    clear g0 gv gp gq e hpc hok HON HS2 HP hlb
    go_wp2
    clear u0 u1 u2 u3
    have L0 : ∀ w', Blk w' cb (cvs (.slice a n m) j 0 q') 46 → w'.cell? ⟨cb, 0, none⟩ = some (.slice a n m) ∧ w'.cell? ⟨cb, 1, none⟩ = some (.int .i64 j) ∧ w'.cell? ⟨cb, 2, none⟩ = some (.int .i64 0) ∧ w'.cell? ⟨cb, 3, none⟩ = some (.int .i64 q') := fun w' h => h.c4
    replace hS := hS.below (below_one' _)
    replace hu3 := hu3.below (below_one' _)
    replace hr := hr.below (below_one' _)
    replace hbd := hbd.trans ((below_one' _).mono hbd.size)
    refine Seq.wp_region_seq (fun w' => Blk w' cb (cvs (.slice a n m) j 0 q') 46) (by kernel_rfl) (by kernel_rfl) hS ?_
    repeat (first | (refine Seq.Seq.skip (by rfl) ?_; (try simp only [Act.put, List.setIfInBounds_toArray, List.set_cons_zero, List.set_cons_succ])) | (refine Seq.Seq.det ?_ (by rfl) (fun w hS => ?_) ?_; rotate_left; ((try dsimp only at hS); go_simp; (try rw [if_pos (by omega)]); with_reducible rfl); (try simp only [Act.put, List.setIfInBounds_toArray, List.set_cons_zero, List.set_cons_succ])))
    refine Seq.Seq.make (by rfl) (by rfl) (fun K Q' hK => ?_)
    go_simp
    go_at_call 20
    refine (at_any _ _ _ _ _ _ (by exact hr)).mono ?_
    rintro e w8 ⟨rfl, rfl⟩
    refine hK.out _ _ (hS) ?_
    clear hK K
    try simp only [Act.put, List.setIfInBounds_toArray, List.set_cons_zero, List.set_cons_succ]
    repeat (first | (refine Seq.Seq.skip (by rfl) ?_; (try simp only [Act.put, List.setIfInBounds_toArray, List.set_cons_zero, List.set_cons_succ])) | (refine Seq.Seq.det ?_ (by rfl) (fun w hS => ?_) ?_; rotate_left; ((try dsimp only at hS); go_simp; (try rw [if_pos (by omega)]); with_reducible rfl); (try simp only [Act.put, List.setIfInBounds_toArray, List.set_cons_zero, List.set_cons_succ])))
    refine Seq.Seq.make (by rfl) (by rfl) (fun K Q' hK => ?_)
    go_simp
    go_at_call 13
    have hrc := rlkright_any _ pos _ _ cc1 l' _ hu3 b0 b1
    rw [HOK.out] at hrc
    refine hrc.mono ?_
    rintro e w9 ⟨rfl, hb9⟩
    replace hS := hS.below hb9
    replace hu3 := hu3.below hb9
    replace hbd := hbd.trans (hb9.mono hbd.size)
    clear hrc
    refine hK.out _ _ (hS) ?_
    clear hK K
    try simp only [Act.put, List.setIfInBounds_toArray, List.set_cons_zero, List.set_cons_succ]
    repeat (first | (refine Seq.Seq.skip (by rfl) ?_; (try simp only [Act.put, List.setIfInBounds_toArray, List.set_cons_zero, List.set_cons_succ])) | (refine Seq.Seq.det ?_ (by rfl) (fun w hS => ?_) ?_; rotate_left; ((try dsimp only at hS); go_simp; (try rw [if_pos (by omega)]); with_reducible rfl); (try simp only [Act.put, List.setIfInBounds_toArray, List.set_cons_zero, List.set_cons_succ])))
    refine Seq.Seq.make (by rfl) (by rfl) (fun K Q' hK => ?_)
    go_simp
    go_at_call 18
    refine (rlkbytes_any _ pos _ _ _ l' _ hu3 b0 b1 HOK.out).mono ?_
    rintro e w10 ⟨A10, m10, rfl, hb10, hs10, _, _, _⟩
    replace hS := hS.below hb10
    replace hbd := hbd.trans (hb10.mono hbd.size)
    refine hK.out _ _ (hS) ?_
    clear hK K
    try simp only [Act.put, List.setIfInBounds_toArray, List.set_cons_zero, List.set_cons_succ]
    repeat (first | (refine Seq.Seq.skip (by rfl) ?_; (try simp only [Act.put, List.setIfInBounds_toArray, List.set_cons_zero, List.set_cons_succ])) | (refine Seq.Seq.det ?_ (by rfl) (fun w hS => ?_) ?_; rotate_left; ((try dsimp only at hS); go_simp; (try rw [if_pos (by omega)]); with_reducible rfl); (try simp only [Act.put, List.setIfInBounds_toArray, List.set_cons_zero, List.set_cons_succ])))
    refine Seq.Seq.make (by rfl) (by rfl) (fun K Q' hK => ?_)
    go_simp
    go_at_call 17
    refine (same_any _ _ _ _ _ _ (lkz pos l') _ hs10 (HZT.out.below hbd)).mono ?_
    rintro e w11 ⟨rfl, rfl⟩
    refine hK.out _ _ (hS) ?_
    clear hK K
    try simp only [Act.put, List.setIfInBounds_toArray, List.set_cons_zero, List.set_cons_succ]
    repeat (first | (refine Seq.Seq.skip (by rfl) ?_; (try simp only [Act.put, List.setIfInBounds_toArray, List.set_cons_zero, List.set_cons_succ])) | (refine Seq.Seq.det ?_ (by rfl) (fun w hS => ?_) ?_; rotate_left; ((try dsimp only at hS); go_simp; (try rw [if_pos (by omega)]); with_reducible rfl); (try simp only [Act.put, List.setIfInBounds_toArray, List.set_cons_zero, List.set_cons_succ])))
    refine Seq.Seq.make (by rfl) (by rfl) (fun K Q' hK => ?_)
    go_simp
    go_at_call 8
    refine (live23_any _).mono ?_
    rintro e w12 ⟨rfl, hb12⟩
    replace hS := hS.below hb12
    replace hbd := hbd.trans (hb12.mono hbd.size)
    refine hK.out _ _ (hS) ?_
    clear hK K
    try simp only [Act.put, List.setIfInBounds_toArray, List.set_cons_zero, List.set_cons_succ]
    repeat (first | (refine Seq.Seq.skip (by rfl) ?_; (try simp only [Act.put, List.setIfInBounds_toArray, List.set_cons_zero, List.set_cons_succ])) | (refine Seq.Seq.det ?_ (by rfl) (fun w hS => ?_) ?_; rotate_left; ((try dsimp only at hS); go_simp; (try rw [if_pos (by omega)]); with_reducible rfl); (try simp only [Act.put, List.setIfInBounds_toArray, List.set_cons_zero, List.set_cons_succ])))
    refine Seq.Seq.nil ?_
    clear hb9 hb10 hb12 hS hu3 hr L0 hs10
    go_wp2
    go_ret
    exact ⟨rfl, hbd⟩
  · have hcb : (c' == 0) = false := by simpa using hc
    have hcb2 : (c' != 0) = true := by simpa using hc
    have hl0 := HS2.out.nil hc
    have hN0 : NL = 0 := by rw [HNL.out, hl0]; rfl
    subst hN0
    clear hr hl0 hc
    go_wp2_with fail
    refine (live23_any _).mono ?_
    rintro e wl ⟨rfl, hbl⟩
    replace hbd := hbd.trans (hbl.mono hbd.size)
    go_wp2
    go_ret
    exact ⟨rfl, hbd⟩

set_option maxRecDepth 100000 in
theorem lifted (os : Os) (started : os.Started) (H : Type) (enc : TypeId × Value → H) :
    ReturnsInHanded {} Try.checked os 4 .any (Rows.linkReadsSpec.pre6 enc Try.prog Try.f4 Rows.linkReadsRow.domain false) (Rows.linkReadsSpec.post enc Try.prog Try.f4 false true false false) := by
  refine returnsInHanded_of_change (C := Try.checked) own started (by kernel_rfl) Try.func4
    (ChangeSpec.witness6 (enc := enc) (C := Try.checked) false ⟨#[], #[.slice none 0 0, .int .u64 0], []⟩ 8 (by kernel_rfl) (by kernel_rfl) (by kernel_rfl) (by kernel_rfl)) ?_
  intro W base args ds gs before hval0 hW hcnd _
  have hval : ∀ (j : Nat) t v, Try.f4.params[j]? = some t → args[j]? = some v → Value.okWide Try.prog W .any base t v := hval0
  have hW' := hW
  obtain ⟨p, q, hA0, hV, rfl, hfz, hnd⟩ := hW
  have hA : DataW.TrodAll enc Try.prog W 0 (fun _ => true) true Try.f4.params.toList args.toList ds p := hA0
  rw [Try.params4] at hA hval
  obtain ⟨v0, vs0, d0, ds0, p0, q0, hargs, rfl, rfl, h0, r0⟩ := trodAll_cons hA
  obtain ⟨v1, vs1, d1, ds1, p1, q1, rfl, rfl, rfl, h1, r1⟩ := trodAll_cons r0
  obtain ⟨rfl, rfl, rfl⟩ := trodAll_nil r1
  obtain rfl : args = #[v0, v1] := by cases args; simp_all
  obtain ⟨rfl, rfl⟩ := trodVars_none hV
  have lt0 : ∀ x ∈ p0, x.block < W.heap.size := by obtain ⟨m, hm⟩ := h0; exact DataW.trod_lt m _ _ _ hm
  have lt1 : ∀ x ∈ p1, x.block < W.heap.size := by obtain ⟨m, hm⟩ := h1; exact DataW.trod_lt m _ _ _ hm
  clear hA0 hval0
  refine (walk enc W base v0 d0 p0 (hval 0 24 v0 rfl rfl) h0 v1 d1 p1 (hval 1 22 v1 rfl rfl) h1).mono fun e W' ⟨he, bel⟩ => ?_
  subst he
  exact ⟨_, rfl, _, _, _, [], _, [], hW', trodAll_mk1 (shut_bool Try.underlying4 _), (trodAll_cons_mk (Below.trod laidOut (by kernel_rfl) (of_decide_eq_true (by kernel_rfl)) h0 bel lt0) (trodAll_cons_mk (Below.trod laidOut (by kernel_rfl) (of_decide_eq_true (by kernel_rfl)) h1 bel lt1) trodAll_mk0)), rfl, bel.frame _, fun h => by cases h⟩

theorem over : Rows.linkReadsRow.holds Try.pinned (OpenSpec.ofChange Rows.linkReadsSpec) :=
  OpenClaim.holds_of_wide 4 Try.f4 rfl rfl rfl rfl rfl rfl rfl ⟨rfl, rfl, rfl, rfl, rfl⟩ rfl rfl rfl rfl rfl (by kernel_rfl) Try.func4 (by kernel_rfl)
    (of_decide_eq_true (by kernel_rfl)) (by unfold Func.isWrapper; first | (rw [if_pos (by decide +kernel)]; kernel_rfl) | (rw [if_neg (by decide +kernel)]; exact ⟨rfl, rfl⟩))
    (fun os started H enc _ => lifted os started H enc)

/-- THE STATEMENT. -/
theorem proved : Rows.LinkReadsSaid := over
#print axioms proved
end Go.Proofs.Ytbdelphocjdiiaa.linkReads
