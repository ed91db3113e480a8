/- ZigzagReads: called with any bytes and any int, the law returns true; no condition. -/
import Derived.Test.YtccbgoddalbbaaaRows
import Derived.Test.YtccbgoddalbbaaaZigL
import Derived.ProofKit
import Derived.OpenShut
import Derived.ShutString
import Derived.ChangeOld
namespace Go.Proofs.Ytccbgoddalbbaaa.zigzagReads
open Go.ChangeShapes Go.WideShapes Go.ChangeAt Go.RowKit
open Go.ChangeMaps (open_string shut_string)
set_option linter.unusedVariables false

theorem own : ownKnob Try.prog.godebug = none := by kernel_rfl
theorem laidOut : laidOutB Try.prog = true := by kernel_rfl
open Cur Mem


set_option maxRecDepth 100000 in
set_option maxHeartbeats 4000000 in
theorem walk {H : Type} (enc : TypeId × Value → H) (w : World) (base : Nat) (v0 : Value) (d0 : DataW H) (p0 : List MemPlace) (g0 : Value.okWide Try.prog w .any base 23 v0) (h0 : DataW.Trod enc Try.prog w 0 (fun _ => true) true 23 v0 d0 p0) (v1 : Value) (d1 : DataW H) (p1 : List MemPlace) (g1 : Value.okWide Try.prog w .any base 3 v1) (h1 : DataW.Trod enc Try.prog w 0 (fun _ => true) true 3 v1 d1 p1) :
    Calls Try.prog 5 #[v0, v1] w fun e w' => e = .returned (.bool true) ∧ Below w.heap.size w w' := by
  obtain ⟨a, n, m, z, rfl, hnm, hz, hby, _⟩ := open_bytes g0 h0
  obtain ⟨nn, rfl, t0, t1⟩ := open_i64 g1 h1
  clear g0 h0 g1 h1
  by_cases hn : 300 < (n : Int)
  · go_enter Try.func5, Try.ntmps5
    go_wp2_with fail
    refine (live5_any _).mono ?_
    rintro e w1 ⟨rfl, hb⟩
    go_wp2
    go_ret
    exact ⟨rfl, hb⟩
  · have HBY := Lib.hid hby
    clear hby
    go_enter Try.func5, Try.ntmps5
    go_wp2_with fail
    refine (new_some _ _ _ _ hnm).mono ?_
    rintro e w1 ⟨rb, rfl, hrb, hb1, hr1⟩
    go_wp2_with fail
    refine (rrising_any _ _ _ _ z 0 0 0 nn _ hr1 (hz.below hb1) (by omega) (by omega) (by omega) HBY.out).mono ?_
    rintro e w2 ⟨v, l, p', c', q', rfl, ho2, hk2, hr2, hs2, hl2⟩
    have hb2 := Kp.below hb1 (Nat.le_refl _) hk2 hrb
    have HS2 := Lib.hid hs2
    have hneq : v.ownBlock ≠ some rb := OwnU.ne_rd ho2 hr2
    clear hs2 hk2 hr1
    go_wp2_with fail
    refine (rrread_any a n m z 0 0 0 nn _ (hz.below hb2) (by omega) (by omega) hnm (by omega) HBY.out).mono ?_
    rintro e w3 ⟨v2, l2, p2, c2, q2, rfl, ho3, hb3, hs3, hl3⟩
    obtain ⟨rfl, rfl, rfl, hp⟩ := HS2.out.det hs3
    have hb4 := hb2.trans (hb3.mono hb2.size)
    have ho4 := own_below ho2 hb3
    have hr4 := hr2.below hb3
    have hlt : rb < w3.heap.size := hr4.lt
    have HP := Lib.hid hp
    clear hb2 hb3 ho2 hr2 hs3 hp hb1
    have hbA := below_one w3 (.cells (cvs (.slice a n m) p2 c' q') 38)
    have ho5 : OwnU _ w1.heap.size _ l := own_below ho4 hbA
    have ho6 : OwnU _ w2.heap.size _ l := own_below ho3 hbA
    have hr5 := hr4.below hbA
    have hcA := Blk.new w3 (cvs (.slice a n m) p2 c' q') 38
    have hbdA := hb4.trans (hbA.mono hb4.size)
    clear hbA ho4 ho3 hr4 hb4
    go_wp2_with fail
    generalize w3.alloc (.cells (cvs (.slice a n m) p2 c' q') 38) = w6 at *
    generalize w3.heap.size = cb at *
    obtain ⟨A1, cc1, rfl⟩ := ho5.slice
    obtain ⟨A2, cc2, rfl⟩ := ho6.slice
    obtain ⟨_, _, _, hu1⟩ := OwnU.us ho5
    obtain ⟨_, _, _, hu2⟩ := OwnU.us ho6
    clear ho5 ho6 hneq
    have hll : (l.length : Int) ≤ 300 := by
      by_cases hc : c' = 0
      · have h := HS2.out
        rw [hc] at h
        have := (h.once hz.1 HBY.out (by omega) (by omega)).2.2
        omega
      · rw [HS2.out.nil hc]; simp
    have L0 : ∀ w', Blk w' cb (cvs (.slice a n m) p2 c' q') 38 → w'.cell? ⟨cb, 1, none⟩ = some (.int .i64 p2) ∧ w'.cell? ⟨cb, 2, none⟩ = some (.int .i64 c') ∧ w'.cell? ⟨cb, 3, none⟩ = some (.int .i64 q') := fun w' h => ⟨h.c4.2.1, h.c4.2.2.1, h.c4.2.2.2⟩
    have hS : Blk w6.drew cb (cvs (.slice a n m) p2 c' q') 38 := hcA
    have hbd : Below w.heap.size w w6.drew := hbdA.trans ((below_one' _).mono hbdA.size)
    have hr : IsRd w6.drew rb (.slice a n n) p' c' q' := hr5
    have hu3 : Us w6.drew A1 l.length l := hu1
    have hu4 : Us w6.drew A2 l.length l := hu2
    clear hcA hbdA hr5 hu1 hu2
    refine Seq.wp_region_seq (fun w' => Blk w' cb (cvs (.slice a n m) p2 c' q') 38) (by kernel_rfl) (by kernel_rfl) hS ?_
    repeat (first | (refine Seq.Seq.skip (by rfl) ?_; (try simp only [Act.put, List.setIfInBounds_toArray, List.set_cons_zero, List.set_cons_succ])) | (refine Seq.Seq.det ?_ (by rfl) (fun w hS => ?_) ?_; rotate_left; ((try dsimp only at hS); go_simp; (try rw [if_pos (by omega)]); with_reducible rfl); (try simp only [Act.put, List.setIfInBounds_toArray, List.set_cons_zero, List.set_cons_succ])))
    refine Seq.Seq.make (by rfl) (by rfl) (fun K Q' hK => ?_)
    go_simp
    go_at_call 28
    refine (same5_any _ _ _ _ _ _ l _ hu3 hu4 (by omega) hl2).mono ?_
    rintro e w7 ⟨rfl, hb7⟩
    have hS7 := hS.below hb7
    have hbd7 := hbd.trans (hb7.mono hbd.size)
    have hr7 := hr.below hb7
    have hu7 := hu3.below hb7
    refine hK.out _ _ (hS7) ?_
    clear hK K
    try simp only [Act.put, List.setIfInBounds_toArray, List.set_cons_zero, List.set_cons_succ]
    clear hS hbd hr hu3 hu4 hb7
    repeat (first | (refine Seq.Seq.skip (by rfl) ?_; (try simp only [Act.put, List.setIfInBounds_toArray, List.set_cons_zero, List.set_cons_succ])) | (refine Seq.Seq.det ?_ (by rfl) (fun w hS => ?_) ?_; rotate_left; ((try dsimp only at hS); go_simp; (try rw [if_pos (by omega)]); with_reducible rfl); (try simp only [Act.put, List.setIfInBounds_toArray, List.set_cons_zero, List.set_cons_succ])))
    refine Seq.Seq.make (by rfl) (by rfl) (fun K Q' hK => ?_)
    go_simp
    go_at_call 20
    refine (fault_any _ _ _ _ _ _ hr7).mono ?_
    rintro e w9 ⟨rfl, hb9⟩
    have hS9 := hS7.below hb9
    have hbd9 := hbd7.trans (hb9.mono hbd7.size)
    have hr9 := hr7.below hb9
    have hu9 := hu7.below hb9
    refine hK.out _ _ (hS9) ?_
    clear hK K
    try simp only [Act.put, List.setIfInBounds_toArray, List.set_cons_zero, List.set_cons_succ]
    clear hS7 hbd7 hr7 hu7 hb9
    by_cases hc : c' = 0
    · subst hc
      repeat (first | (refine Seq.Seq.skip (by rfl) ?_; (try simp only [Act.put, List.setIfInBounds_toArray, List.set_cons_zero, List.set_cons_succ])) | (refine Seq.Seq.det ?_ (by rfl) (fun w hS => ?_) ?_; rotate_left; ((try dsimp only at hS); go_simp; (try rw [if_pos (by omega)]); with_reducible rfl); (try simp only [Act.put, List.setIfInBounds_toArray, List.set_cons_zero, List.set_cons_succ])))
      refine Seq.Seq.make (by rfl) (by rfl) (fun K Q' hK => ?_)
      go_simp
      go_at_call 29
      refine (at_any _ _ _ _ _ _ hr9).mono ?_
      rintro e w' ⟨rfl, rfl⟩
      rw [HP.out rfl]
      refine hK.out _ _ (hS9) ?_
      clear hK K
      try simp only [Act.put, List.setIfInBounds_toArray, List.set_cons_zero, List.set_cons_succ]
      repeat (first | (refine Seq.Seq.skip (by rfl) ?_; (try simp only [Act.put, List.setIfInBounds_toArray, List.set_cons_zero, List.set_cons_succ])) | (refine Seq.Seq.det ?_ (by rfl) (fun w hS => ?_) ?_; rotate_left; ((try dsimp only at hS); go_simp; (try rw [if_pos (by omega)]); with_reducible rfl); (try simp only [Act.put, List.setIfInBounds_toArray, List.set_cons_zero, List.set_cons_succ])))
      have hri : risesB l = true := (HS2.out.once hz.1 HBY.out (by omega) (by omega)).2.1
      have HRI := Lib.hid hri
      clear hri
      refine Seq.Seq.make (by rfl) (by rfl) (fun K Q' hK => ?_)
      go_simp
      go_at_call 22
      refine (rrises_any _ _ _ l _ hu9 (by omega) hl2).mono ?_
      rintro e w10 ⟨rfl, hb10⟩
      rw [HRI.out]
      have hS10 := hS9.below hb10
      have hbd10 := hbd9.trans (hb10.mono hbd9.size)
      refine hK.out _ _ (hS10) ?_
      clear hK K
      try simp only [Act.put, List.setIfInBounds_toArray, List.set_cons_zero, List.set_cons_succ]
      repeat (first | (refine Seq.Seq.skip (by rfl) ?_; (try simp only [Act.put, List.setIfInBounds_toArray, List.set_cons_zero, List.set_cons_succ])) | (refine Seq.Seq.det ?_ (by rfl) (fun w hS => ?_) ?_; rotate_left; ((try dsimp only at hS); go_simp; (try rw [if_pos (by omega)]); with_reducible rfl); (try simp only [Act.put, List.setIfInBounds_toArray, List.set_cons_zero, List.set_cons_succ])))
      refine Seq.Seq.make (by rfl) (by rfl) (fun K Q' hK => ?_)
      go_simp
      go_at_call 7
      refine (live5_any _).mono ?_
      rintro e w11 ⟨rfl, hb11⟩
      have hS11 := hS10.below hb11
      have hbd11 := hbd10.trans (hb11.mono hbd10.size)
      refine hK.out _ _ (hS11) ?_
      clear hK K
      try simp only [Act.put, List.setIfInBounds_toArray, List.set_cons_zero, List.set_cons_succ]
      repeat (first | (refine Seq.Seq.skip (by rfl) ?_; (try simp only [Act.put, List.setIfInBounds_toArray, List.set_cons_zero, List.set_cons_succ])) | (refine Seq.Seq.det ?_ (by rfl) (fun w hS => ?_) ?_; rotate_left; ((try dsimp only at hS); go_simp; (try rw [if_pos (by omega)]); with_reducible rfl); (try simp only [Act.put, List.setIfInBounds_toArray, List.set_cons_zero, List.set_cons_succ])))
      refine Seq.Seq.nil ?_
      go_wp2
      go_ret
      exact ⟨rfl, hbd11⟩
    · have hcb : (c' != 0) = true := by simpa using hc
      clear hc
      repeat (first | (refine Seq.Seq.skip (by rfl) ?_; (try simp only [Act.put, List.setIfInBounds_toArray, List.set_cons_zero, List.set_cons_succ])) | (refine Seq.Seq.det ?_ (by rfl) (fun w hS => ?_) ?_; rotate_left; ((try dsimp only at hS); go_simp; (try rw [if_pos (by omega)]); with_reducible rfl); (try simp only [Act.put, List.setIfInBounds_toArray, List.set_cons_zero, List.set_cons_succ])))
      refine Seq.Seq.make (by rfl) (by rfl) (fun K Q' hK => ?_)
      go_simp
      go_at_call 7
      refine (live5_any _).mono ?_
      rintro e w11 ⟨rfl, hb11⟩
      have hS11 := hS9.below hb11
      have hbd11 := hbd9.trans (hb11.mono hbd9.size)
      refine hK.out _ _ (hS11) ?_
      clear hK K
      try simp only [Act.put, List.setIfInBounds_toArray, List.set_cons_zero, List.set_cons_succ]
      repeat (first | (refine Seq.Seq.skip (by rfl) ?_; (try simp only [Act.put, List.setIfInBounds_toArray, List.set_cons_zero, List.set_cons_succ])) | (refine Seq.Seq.det ?_ (by rfl) (fun w hS => ?_) ?_; rotate_left; ((try dsimp only at hS); go_simp; (try rw [if_pos (by omega)]); with_reducible rfl); (try simp only [Act.put, List.setIfInBounds_toArray, List.set_cons_zero, List.set_cons_succ])))
      refine Seq.Seq.nil ?_
      go_wp2
      go_ret
      exact ⟨rfl, hbd11⟩

set_option maxRecDepth 100000 in
theorem lifted (os : Os) (started : os.Started) (H : Type) (enc : TypeId × Value → H) :
    ReturnsInHanded {} Try.checked os 5 .any (Rows.zigzagReadsSpec.pre6 enc Try.prog Try.f5 Rows.zigzagReadsRow.domain false) (Rows.zigzagReadsSpec.post enc Try.prog Try.f5 false true false false) := by
  refine returnsInHanded_of_change (C := Try.checked) own started (by kernel_rfl) Try.func5
    (ChangeSpec.witness6 (enc := enc) (C := Try.checked) false ⟨#[], #[.slice none 0 0, .int .i64 0], []⟩ 8 (by kernel_rfl) (by kernel_rfl) (by kernel_rfl) (by kernel_rfl)) ?_
  intro W base args ds gs before hval0 hW hcnd _
  have hval : ∀ (j : Nat) t v, Try.f5.params[j]? = some t → args[j]? = some v → Value.okWide Try.prog W .any base t v := hval0
  have hW' := hW
  obtain ⟨p, q, hA0, hV, rfl, hfz, hnd⟩ := hW
  have hA : DataW.TrodAll enc Try.prog W 0 (fun _ => true) true Try.f5.params.toList args.toList ds p := hA0
  rw [Try.params5] at hA hval
  obtain ⟨v0, vs0, d0, ds0, p0, q0, hargs, rfl, rfl, h0, r0⟩ := trodAll_cons hA
  obtain ⟨v1, vs1, d1, ds1, p1, q1, rfl, rfl, rfl, h1, r1⟩ := trodAll_cons r0
  obtain ⟨rfl, rfl, rfl⟩ := trodAll_nil r1
  obtain rfl : args = #[v0, v1] := by cases args; simp_all
  obtain ⟨rfl, rfl⟩ := trodVars_none hV
  have lt0 : ∀ x ∈ p0, x.block < W.heap.size := by obtain ⟨m, hm⟩ := h0; exact DataW.trod_lt m _ _ _ hm
  have lt1 : ∀ x ∈ p1, x.block < W.heap.size := by obtain ⟨m, hm⟩ := h1; exact DataW.trod_lt m _ _ _ hm
  clear hA0 hval0
  refine (walk enc W base v0 d0 p0 (hval 0 23 v0 rfl rfl) h0 v1 d1 p1 (hval 1 3 v1 rfl rfl) h1).mono fun e W' ⟨he, bel⟩ => ?_
  subst he
  exact ⟨_, rfl, _, _, _, [], _, [], hW', trodAll_mk1 (shut_bool Try.underlying4 _), (trodAll_cons_mk (Below.trod laidOut (by kernel_rfl) (of_decide_eq_true (by kernel_rfl)) h0 bel lt0) (trodAll_cons_mk (Below.trod laidOut (by kernel_rfl) (of_decide_eq_true (by kernel_rfl)) h1 bel lt1) trodAll_mk0)), rfl, bel.frame _, fun h => by cases h⟩

theorem over : Rows.zigzagReadsRow.holds Try.pinned (OpenSpec.ofChange Rows.zigzagReadsSpec) :=
  OpenClaim.holds_of_wide 5 Try.f5 rfl rfl rfl rfl rfl rfl rfl ⟨rfl, rfl, rfl, rfl, rfl⟩ rfl rfl rfl rfl rfl (by kernel_rfl) Try.func5 (by kernel_rfl)
    (of_decide_eq_true (by kernel_rfl)) (by unfold Func.isWrapper; first | (rw [if_pos (by decide +kernel)]; kernel_rfl) | (rw [if_neg (by decide +kernel)]; exact ⟨rfl, rfl⟩))
    (fun os started H enc _ => lifted os started H enc)

/-- THE STATEMENT. -/
theorem proved : Rows.ZigzagReadsSaid := over
#print axioms proved
end Go.Proofs.Ytccbgoddalbbaaa.zigzagReads
