/- ZigzagSigns: called with any number with a sign, any number and any bytes, the law returns true; no condition. -/
import Derived.Test.YtccbgoddalbbaaaRows
import Derived.Test.YtccbgoddalbbaaaZigL
import Derived.ProofKit
import Derived.OpenShut
import Derived.ShutString
import Derived.ChangeOld
namespace Go.Proofs.Ytccbgoddalbbaaa.zigzagSigns
open Go.ChangeShapes Go.WideShapes Go.ChangeAt Go.RowKit
open Go.ChangeMaps (open_string shut_string)
set_option linter.unusedVariables false

theorem own : ownKnob Try.prog.godebug = none := by kernel_rfl
theorem laidOut : laidOutB Try.prog = true := by kernel_rfl
open Cur Mem


set_option maxRecDepth 100000 in
set_option maxHeartbeats 4000000 in
theorem walk {H : Type} (enc : TypeId × Value → H) (w : World) (base : Nat) (v0 : Value) (d0 : DataW H) (p0 : List MemPlace) (g0 : Value.okWide Try.prog w .any base 2 v0) (h0 : DataW.Trod enc Try.prog w 0 (fun _ => true) true 2 v0 d0 p0) (v1 : Value) (d1 : DataW H) (p1 : List MemPlace) (g1 : Value.okWide Try.prog w .any base 22 v1) (h1 : DataW.Trod enc Try.prog w 0 (fun _ => true) true 22 v1 d1 p1) (v2 : Value) (d2 : DataW H) (p2 : List MemPlace) (g2 : Value.okWide Try.prog w .any base 23 v2) (h2 : DataW.Trod enc Try.prog w 0 (fun _ => true) true 23 v2 d2 p2) :
    Calls Try.prog 3 #[v0, v1, v2] w fun e w' => e = .returned (.bool true) ∧ Below w.heap.size w w' := by
  obtain ⟨n, rfl, n0, n1⟩ := open_int64 g0 h0
  obtain ⟨x, rfl, x0, x1⟩ := open_u64 g1 h1
  obtain ⟨a, nb, m, z, rfl, hnm, hz, hby, _⟩ := open_bytes g2 h2
  clear g0 h0 g1 h1 g2 h2
  by_cases hn : 300 < (nb : Int)
  · go_enter Try.func3, Try.ntmps3
    go_wp2_with fail
    refine (live5_any _).mono ?_
    rintro e w1 ⟨rfl, hb⟩
    go_wp2
    go_ret
    exact ⟨rfl, hb⟩
  · have HBY := Lib.hid hby
    clear hby
    obtain ⟨g0, g1⟩ := zg_bd n n0 n1
    obtain ⟨y0, y1⟩ := zag_bd x x0 x1
    have E1 := Lib.hid (zag_zg n)
    have E2 := Lib.hid (zg_zag x x0)
    go_enter Try.func3, Try.ntmps3
    have HP : Hid (putZ [] (vz (zg n)) 20 0 = vz (zg n) ∧ putC [] (vz (zg n)) 20 0 = 0) := Lib.hid (by
      have := vsz_le (zg n)
      have h := putZ_fits (z := []) (y := vz (zg n)) (M := 20) (by rw [vz_length]; simp; omega)
      exact h)
    go_wp2_with fail
    refine (zig_any n _ n0 n1).mono ?_
    rintro e w' ⟨rfl, rfl⟩
    go_wp2_with fail
    refine (rzig_any n _ n0 n1).mono ?_
    rintro e w' ⟨rfl, rfl⟩
    go_wp2_with fail
    refine (zag_any x _ x0 x1).mono ?_
    rintro e w' ⟨rfl, rfl⟩
    go_wp2_with fail
    refine (rzag_any x _ x0 x1).mono ?_
    rintro e w' ⟨rfl, rfl⟩
    go_wp2_with fail
    refine (zig_any n _ n0 n1).mono ?_
    rintro e w' ⟨rfl, rfl⟩
    go_wp2_with fail
    refine (zag_any (zg n) _ g0 g1).mono ?_
    rintro e w' ⟨rfl, rfl⟩
    rw [E1.out]
    go_wp2_with fail
    refine (zag_any x _ x0 x1).mono ?_
    rintro e w' ⟨rfl, rfl⟩
    go_wp2_with fail
    refine (zig_any (zag x) _ y0 y1).mono ?_
    rintro e w' ⟨rfl, rfl⟩
    rw [E2.out]
    go_wp2_with fail
    refine (wnew_any 20 w (by omega)).mono ?_
    rintro e w1 ⟨b, rfl, hbb, hb1, hw1⟩
    rw [if_neg (by omega)] at hw1
    go_wp2_with fail
    refine (zput_any n hw1 n0 n1 (by simp) hb1.size).mono ?_
    rintro e w2 ⟨r', rfl, hk2, hg2, hw2⟩
    rw [HP.out.1, HP.out.2] at hw2
    have hb2 := hw1.belowOf hb1 (Nat.le_refl _) hk2 (Nat.le_refl _)
    clear hw1 hk2 hg2 hb1
    go_wp2_with fail
    refine (wbytes_good hw2 (by rw [vz_length]; have := vsz_le (zg n); omega)).mono ?_
    rintro e w3 ⟨g, rfl, hg, hb3, hblk⟩
    have hbs3 := Bs.of_block hblk
    have hbd3 := hb2.trans (hb3.mono hb2.size)
    clear hb3 hb2 hw2 hblk hg hbb
    have HVL := Lib.hid (vz_length (zg n))
    rw [HVL.out] at hbs3 ⊢
    go_wp2_with fail
    refine (new_some _ _ _ _ hnm).mono ?_
    rintro e w4 ⟨rb, rfl, hrb, hb4, hr4⟩
    have hbd4 := hbd3.trans (hb4.mono hbd3.size)
    have hbs4 := hbs3.below hb4
    have hrw : w.heap.size ≤ rb := Nat.le_trans hbd3.size hrb
    clear hb4 hbs3 hbd3 hrb
    go_wp2_with fail
    refine (rread_any a nb m z 0 0 0 _ (hz.below hbd4) (by omega) (by omega) hnm (by omega) HBY.out).mono ?_
    rintro e w5 ⟨y, p', c', q', rfl, hb5, hs5⟩
    have HS5 := Lib.hid hs5
    have hy := rd_lt hs5 hz.1 (by omega) (by omega) HBY.out
    obtain ⟨hy0, hy1⟩ := hy
    obtain ⟨z0, z1⟩ := zag_bd y hy0 hy1
    have hbA := hb5.alloc hb5.size (.cells (cvs (.slice a nb m) p' c' q') 38)
    have hbdA := hbd4.trans (hbA.mono hbd4.size)
    have hbsA := hbs4.below hbA
    have hrA := hr4.below hbA
    have hcA := Blk.new w5 (cvs (.slice a nb m) p' c' q') 38
    have hlt : rb < w5.heap.size := (hr4.below hb5).lt
    clear hb5 hbA hbs4 hr4 hbd4 hs5
    go_wp2_with fail
    generalize w5.alloc (.cells (cvs (.slice a nb m) p' c' q') 38) = w6 at *
    generalize w5.heap.size = cb at *
    have L0 : ∀ w', Blk w' cb (cvs (.slice a nb m) p' c' q') 38 → w'.cell? ⟨cb, 2, none⟩ = some (.int .i64 c') ∧ w'.cell? ⟨cb, 3, none⟩ = some (.int .i64 q') := fun w' h => ⟨h.c4.2.2.1, h.c4.2.2.2⟩
    have hS : Blk w6.drew cb (cvs (.slice a nb m) p' c' q') 38 := hcA
    have hbd : Below w.heap.size w w6.drew := hbdA.trans ((below_one' _).mono hbdA.size)
    have hr : IsRd w6.drew rb (.slice a nb nb) 0 0 0 := hrA
    have hbs : Bs w6.drew (some ⟨g, 0, none⟩) (vsz (zg n)) (vz (zg n)) := hbsA
    clear hcA hbdA hrA hbsA
    refine Seq.wp_region_seq (fun w' => Blk w' cb (cvs (.slice a nb m) p' c' q') 38) (by kernel_rfl) (by kernel_rfl) hS ?_
    repeat (first | (refine Seq.Seq.skip (by rfl) ?_; (try simp only [Act.put, List.setIfInBounds_toArray, List.set_cons_zero, List.set_cons_succ])) | (refine Seq.Seq.det ?_ (by rfl) (fun w hS => ?_) ?_; rotate_left; ((try dsimp only at hS); go_simp; (try rw [if_pos (by omega)]); with_reducible rfl); (try simp only [Act.put, List.setIfInBounds_toArray, List.set_cons_zero, List.set_cons_succ])))
    refine Seq.Seq.make (by rfl) (by rfl) (fun K Q' hK => ?_)
    go_simp
    go_at_call 9
    refine (rzig_any n _ n0 n1).mono ?_
    rintro e w' ⟨rfl, rfl⟩
    refine hK.out _ _ (hS) ?_
    clear hK K
    try simp only [Act.put, List.setIfInBounds_toArray, List.set_cons_zero, List.set_cons_succ]
    repeat (first | (refine Seq.Seq.skip (by rfl) ?_; (try simp only [Act.put, List.setIfInBounds_toArray, List.set_cons_zero, List.set_cons_succ])) | (refine Seq.Seq.det ?_ (by rfl) (fun w hS => ?_) ?_; rotate_left; ((try dsimp only at hS); go_simp; (try rw [if_pos (by omega)]); with_reducible rfl); (try simp only [Act.put, List.setIfInBounds_toArray, List.set_cons_zero, List.set_cons_succ])))
    refine Seq.Seq.make (by rfl) (by rfl) (fun K Q' hK => ?_)
    go_simp
    go_at_call 18
    refine (rbytes_any 10 _ _ (vsz_le _) g0 g1).mono ?_
    rintro e w7 ⟨A7, m7, rfl, hb7, hbs7, _, _⟩
    have hS7 := hS.below hb7
    have hbd7 := hbd.trans (hb7.mono hbd.size)
    have hr7 := hr.below hb7
    have hbs8 := hbs.below hb7
    rw [HVL.out] at hbs7 ⊢
    refine hK.out _ _ (hS7) ?_
    clear hK K
    try simp only [Act.put, List.setIfInBounds_toArray, List.set_cons_zero, List.set_cons_succ]
    clear hS hbd hr hbs hb7
    repeat (first | (refine Seq.Seq.skip (by rfl) ?_; (try simp only [Act.put, List.setIfInBounds_toArray, List.set_cons_zero, List.set_cons_succ])) | (refine Seq.Seq.det ?_ (by rfl) (fun w hS => ?_) ?_; rotate_left; ((try dsimp only at hS); go_simp; (try rw [if_pos (by omega)]); with_reducible rfl); (try simp only [Act.put, List.setIfInBounds_toArray, List.set_cons_zero, List.set_cons_succ])))
    refine Seq.Seq.make (by rfl) (by rfl) (fun K Q' hK => ?_)
    go_simp
    go_at_call 17
    refine (same_any _ _ _ _ _ _ (vz (zg n)) _ hbs8 hbs7).mono ?_
    rintro e w' ⟨rfl, rfl⟩
    refine hK.out _ _ (hS7) ?_
    clear hK K
    try simp only [Act.put, List.setIfInBounds_toArray, List.set_cons_zero, List.set_cons_succ]
    repeat (first | (refine Seq.Seq.skip (by rfl) ?_; (try simp only [Act.put, List.setIfInBounds_toArray, List.set_cons_zero, List.set_cons_succ])) | (refine Seq.Seq.det ?_ (by rfl) (fun w hS => ?_) ?_; rotate_left; ((try dsimp only at hS); go_simp; (try rw [if_pos (by omega)]); with_reducible rfl); (try simp only [Act.put, List.setIfInBounds_toArray, List.set_cons_zero, List.set_cons_succ])))
    refine Seq.Seq.make (by rfl) (by rfl) (fun K Q' hK => ?_)
    go_simp
    go_at_call 19
    refine (zread_any _ _ _ _ _ _ _ _ _ hr7 (hz.below hbd7) (by omega) (by omega) (by omega) HBY.out).mono ?_
    rintro e w8 ⟨v, p2, c2, q2, rfl, hk8, hr8, hs8⟩
    obtain ⟨rfl, rfl, rfl, rfl⟩ := hs8.det HS5.out
    have hS8 := blk_kp hS7 hk8 (by omega)
    have hbd8 := Kp.below hbd7 (Nat.le_refl _) hk8 hrw
    refine hK.out _ _ (hS8) ?_
    clear hK K
    try simp only [Act.put, List.setIfInBounds_toArray, List.set_cons_zero, List.set_cons_succ]
    clear hS7 hbd7 hr7 hbs7 hbs8 hk8 hs8
    repeat (first | (refine Seq.Seq.skip (by rfl) ?_; (try simp only [Act.put, List.setIfInBounds_toArray, List.set_cons_zero, List.set_cons_succ])) | (refine Seq.Seq.det ?_ (by rfl) (fun w hS => ?_) ?_; rotate_left; ((try dsimp only at hS); go_simp; (try rw [if_pos (by omega)]); with_reducible rfl); (try simp only [Act.put, List.setIfInBounds_toArray, List.set_cons_zero, List.set_cons_succ])))
    refine Seq.Seq.make (by rfl) (by rfl) (fun K Q' hK => ?_)
    go_simp
    go_at_call 11
    refine (rzag_any _ _ hy0 hy1).mono ?_
    rintro e w' ⟨rfl, rfl⟩
    refine hK.out _ _ (hS8) ?_
    clear hK K
    try simp only [Act.put, List.setIfInBounds_toArray, List.set_cons_zero, List.set_cons_succ]
    repeat (first | (refine Seq.Seq.skip (by rfl) ?_; (try simp only [Act.put, List.setIfInBounds_toArray, List.set_cons_zero, List.set_cons_succ])) | (refine Seq.Seq.det ?_ (by rfl) (fun w hS => ?_) ?_; rotate_left; ((try dsimp only at hS); go_simp; (try rw [if_pos (by omega)]); with_reducible rfl); (try simp only [Act.put, List.setIfInBounds_toArray, List.set_cons_zero, List.set_cons_succ])))
    refine Seq.Seq.make (by rfl) (by rfl) (fun K Q' hK => ?_)
    go_simp
    go_at_call 20
    refine (fault_any _ _ _ _ _ _ hr8).mono ?_
    rintro e w9 ⟨rfl, hb9⟩
    have hS9 := hS8.below hb9
    have hbd9 := hbd8.trans (hb9.mono hbd8.size)
    refine hK.out _ _ (hS9) ?_
    clear hK K
    try simp only [Act.put, List.setIfInBounds_toArray, List.set_cons_zero, List.set_cons_succ]
    repeat (first | (refine Seq.Seq.skip (by rfl) ?_; (try simp only [Act.put, List.setIfInBounds_toArray, List.set_cons_zero, List.set_cons_succ])) | (refine Seq.Seq.det ?_ (by rfl) (fun w hS => ?_) ?_; rotate_left; ((try dsimp only at hS); go_simp; (try rw [if_pos (by omega)]); with_reducible rfl); (try simp only [Act.put, List.setIfInBounds_toArray, List.set_cons_zero, List.set_cons_succ])))
    refine Seq.Seq.make (by rfl) (by rfl) (fun K Q' hK => ?_)
    go_simp
    go_at_call 7
    refine (live5_any _).mono ?_
    rintro e w10 ⟨rfl, hb10⟩
    have hS10 := hS9.below hb10
    have hbd10 := hbd9.trans (hb10.mono hbd9.size)
    refine hK.out _ _ (hS10) ?_
    clear hK K
    try simp only [Act.put, List.setIfInBounds_toArray, List.set_cons_zero, List.set_cons_succ]
    repeat (first | (refine Seq.Seq.skip (by rfl) ?_; (try simp only [Act.put, List.setIfInBounds_toArray, List.set_cons_zero, List.set_cons_succ])) | (refine Seq.Seq.det ?_ (by rfl) (fun w hS => ?_) ?_; rotate_left; ((try dsimp only at hS); go_simp; (try rw [if_pos (by omega)]); with_reducible rfl); (try simp only [Act.put, List.setIfInBounds_toArray, List.set_cons_zero, List.set_cons_succ])))
    refine Seq.Seq.nil ?_
    go_wp2
    go_ret
    exact ⟨rfl, hbd10⟩

set_option maxRecDepth 100000 in
theorem lifted (os : Os) (started : os.Started) (H : Type) (enc : TypeId × Value → H) :
    ReturnsInHanded {} Try.checked os 3 .any (Rows.zigzagSignsSpec.pre6 enc Try.prog Try.f3 Rows.zigzagSignsRow.domain false) (Rows.zigzagSignsSpec.post enc Try.prog Try.f3 false true false false) := by
  refine returnsInHanded_of_change (C := Try.checked) own started (by kernel_rfl) Try.func3
    (ChangeSpec.witness6 (enc := enc) (C := Try.checked) false ⟨#[], #[.int .i64 0, .int .u64 0, .slice none 0 0], []⟩ 8 (by kernel_rfl) (by kernel_rfl) (by kernel_rfl) (by kernel_rfl)) ?_
  intro W base args ds gs before hval0 hW hcnd _
  have hval : ∀ (j : Nat) t v, Try.f3.params[j]? = some t → args[j]? = some v → Value.okWide Try.prog W .any base t v := hval0
  have hW' := hW
  obtain ⟨p, q, hA0, hV, rfl, hfz, hnd⟩ := hW
  have hA : DataW.TrodAll enc Try.prog W 0 (fun _ => true) true Try.f3.params.toList args.toList ds p := hA0
  rw [Try.params3] at hA hval
  obtain ⟨v0, vs0, d0, ds0, p0, q0, hargs, rfl, rfl, h0, r0⟩ := trodAll_cons hA
  obtain ⟨v1, vs1, d1, ds1, p1, q1, rfl, rfl, rfl, h1, r1⟩ := trodAll_cons r0
  obtain ⟨v2, vs2, d2, ds2, p2, q2, rfl, rfl, rfl, h2, r2⟩ := trodAll_cons r1
  obtain ⟨rfl, rfl, rfl⟩ := trodAll_nil r2
  obtain rfl : args = #[v0, v1, v2] := by cases args; simp_all
  obtain ⟨rfl, rfl⟩ := trodVars_none hV
  have lt0 : ∀ x ∈ p0, x.block < W.heap.size := by obtain ⟨m, hm⟩ := h0; exact DataW.trod_lt m _ _ _ hm
  have lt1 : ∀ x ∈ p1, x.block < W.heap.size := by obtain ⟨m, hm⟩ := h1; exact DataW.trod_lt m _ _ _ hm
  have lt2 : ∀ x ∈ p2, x.block < W.heap.size := by obtain ⟨m, hm⟩ := h2; exact DataW.trod_lt m _ _ _ hm
  clear hA0 hval0
  refine (walk enc W base v0 d0 p0 (hval 0 2 v0 rfl rfl) h0 v1 d1 p1 (hval 1 22 v1 rfl rfl) h1 v2 d2 p2 (hval 2 23 v2 rfl rfl) h2).mono fun e W' ⟨he, bel⟩ => ?_
  subst he
  exact ⟨_, rfl, _, _, _, [], _, [], hW', trodAll_mk1 (shut_bool Try.underlying4 _), (trodAll_cons_mk (Below.trod laidOut (by kernel_rfl) (of_decide_eq_true (by kernel_rfl)) h0 bel lt0) (trodAll_cons_mk (Below.trod laidOut (by kernel_rfl) (of_decide_eq_true (by kernel_rfl)) h1 bel lt1) (trodAll_cons_mk (Below.trod laidOut (by kernel_rfl) (of_decide_eq_true (by kernel_rfl)) h2 bel lt2) trodAll_mk0))), rfl, bel.frame _, fun h => by cases h⟩

theorem over : Rows.zigzagSignsRow.holds Try.pinned (OpenSpec.ofChange Rows.zigzagSignsSpec) :=
  OpenClaim.holds_of_wide 3 Try.f3 rfl rfl rfl rfl rfl rfl rfl ⟨rfl, rfl, rfl, rfl, rfl⟩ rfl rfl rfl rfl rfl (by kernel_rfl) Try.func3 (by kernel_rfl)
    (of_decide_eq_true (by kernel_rfl)) (by unfold Func.isWrapper; first | (rw [if_pos (by decide +kernel)]; kernel_rfl) | (rw [if_neg (by decide +kernel)]; exact ⟨rfl, rfl⟩))
    (fun os started H enc _ => lifted os started H enc)

/-- THE STATEMENT. -/
theorem proved : Rows.ZigzagSignsSaid := over
#print axioms proved
end Go.Proofs.Ytccbgoddalbbaaa.zigzagSigns
