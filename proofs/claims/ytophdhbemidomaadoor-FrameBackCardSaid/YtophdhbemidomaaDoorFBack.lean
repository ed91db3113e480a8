/- FrameBack: called with any two rows of bytes and any int, the law returns true; condition: crc's two tables read as the program's text lays them, to which the card ties them. -/
import Derived.Test.YtophdhbemidomaaDoorRows
import Derived.Test.YtophdhbemidomaaDoorK8
import Derived.Test.YtophdhbemidomaaDoorCrcT
import Derived.Test.YtophdhbemidomaaDoorK1
import Derived.Deep.Cut
import Derived.ProofKit
import Derived.OpenShut
import Derived.ShutString
import Derived.ChangeOld
import Derived.Test.YtophdhbemidomaaDoorCards
import Derived.Test.YtophdhbemidomaaDoorTie
import Derived.LaidMore
import Derived.Stop.Joined
import Derived.Deep.Slices
import Derived.SevenTiedAt
namespace Go.Proofs.YtophdhbemidomaaDoor.frameBack
open Go.ChangeShapes Go.WideShapes Go.ChangeAt Go.RowKit
open Go.ChangeMaps (open_string shut_string)
set_option linter.unusedVariables false

theorem own : ownKnob Tryd.prog.godebug = none := by kernel_rfl
theorem laidOut : laidOutB Tryd.prog = true := by kernel_rfl
open Cur Mem CrcM

theorem min500 : min (500 : Int) 2097152 = 500 := by decide

set_option maxRecDepth 100000 in
set_option maxHeartbeats 8000000 in
theorem walk {H : Type} (enc : TypeId × Value → H) (w : World) (hT : Tbs w) (base : Nat) (v0 : Value) (d0 : DataW H) (p0 : List MemPlace) (g0 : Value.okWide Tryd.prog w .any base 22 v0) (h0 : DataW.Trod enc Tryd.prog w 0 (fun _ => true) true 22 v0 d0 p0) (v1 : Value) (d1 : DataW H) (p1 : List MemPlace) (g1 : Value.okWide Tryd.prog w .any base 22 v1) (h1 : DataW.Trod enc Tryd.prog w 0 (fun _ => true) true 22 v1 d1 p1) (v2 : Value) (d2 : DataW H) (p2 : List MemPlace) (g2 : Value.okWide Tryd.prog w .any base 3 v2) (h2 : DataW.Trod enc Tryd.prog w 0 (fun _ => true) true 3 v2 d2 p2) :
    Calls Tryd.prog 5 #[v0, v1, v2] w fun e w' => e = .returned (.bool true) ∧ Below w.heap.size w w' := by
  obtain ⟨a, n, m, y, rfl, hnm, hy, hby, hnil⟩ := open_bytes g0 h0
  obtain ⟨a2, n2, m2, x, rfl, hnm2, hx, hbx, hnil2⟩ := open_bytes g1 h1
  obtain ⟨cc, rfl, t0, t1⟩ := open_i64 g2 h2
  clear g0 h0 g1 h1 g2 h2
  have HT := Lib.hid hT
  clear hT
  by_cases hn : 500 < (n : Int)
  · go_enter Tryd.func5, Tryd.ntmps5
    go_wp2_with fail
    refine (live8_any _ HT.out).mono ?_
    rintro e w1 ⟨rfl, hb⟩
    go_wp2
    go_ret
    exact ⟨rfl, hb⟩
  by_cases hn2 : 500 < (n2 : Int)
  · go_enter Tryd.func5, Tryd.ntmps5
    go_wp2_with fail
    refine (live8_any _ HT.out).mono ?_
    rintro e w1 ⟨rfl, hb⟩
    go_wp2
    go_ret
    exact ⟨rfl, hb⟩
  have HBY := Lib.hid hby
  have HBX := Lib.hid hbx
  have hv := vsz_le (n : Int)
  have hv2 := vsz_pos (n : Int)
  have hfl := frm_length y
  have HFB := Lib.hid (frm_byte (by rw [hy.1]; omega) hby)
  rw [hy.1] at hfl
  have hR1 := fr_put (z := frm y ++ x) (pre := []) (y := y) (rest := x) (mo := 500) (by simp) (by rw [hy.1]; omega) (by rw [hy.1]; omega) hby
  have hR2 := fun k hk => fr_cut (y := y) (mo := 500) (k := k) hk (by rw [hy.1]; omega) (by rw [hy.1]; omega)
  have hR3 := fun h => fr_once (z := x) (mo := 500) (p := 0) hbx (Int.le_refl 0) (by omega) h
  rw [show ((([] : List Int).length : Nat) : Int) = 0 from rfl, show (([] : List Int).length + (frm y).length : Nat) = (frm y).length by simp] at hR1
  obtain ⟨F, hF⟩ : ∃ F, F = (frm y).length := ⟨_, rfl⟩
  obtain ⟨Z, hZ⟩ : ∃ Z, Z = frm y := ⟨_, rfl⟩
  rw [← hZ] at hF HFB hR1 hR2
  rw [← hF] at hR1
  have hF5 : 5 ≤ F := by rw [hF, hZ, hfl]; omega
  have hF6 : F ≤ 600 := by rw [hF, hZ, hfl]; omega
  have HZ := Lib.hid hZ
  have HF := Lib.hid hF.symm
  have HR1 := Lib.hid hR1
  have HR2 := Lib.hid hR2
  have HR3 := Lib.hid hR3
  have HXL := Lib.hid hx.1
  have HYL := Lib.hid hy.1
  have HAL : Hid ((Z ++ x).length = F + n2) := Lib.hid (by rw [List.length_append, ← hF, hx.1])
  have HAB : Hid (∀ v ∈ Z ++ x, 0 ≤ v ∧ v < 256) := Lib.hid (by
    intro v hv
    rcases List.mem_append.1 hv with h | h
    · exact HFB.out v h
    · exact hbx v h)
  clear hby hbx hfl hZ hF hR1 hR2 hR3 hv hv2
  have hM : ∃ M, M = min (max cc 0) ((F : Int) - 1) := ⟨_, rfl⟩
  obtain ⟨M, hM⟩ := hM
  have hM0 : 0 ≤ M := by omega
  have hM1 : M ≤ (F : Int) - 1 := by omega
  obtain ⟨j, rfl⟩ := Int.eq_ofNat_of_zero_le hM0
  have hjF : j < F := by omega
  have HM := Lib.hid hM
  clear hM t0 t1 hM1
  go_enter Tryd.func5, Tryd.ntmps5
  go_wp2_with fail
  refine (fbytes_any a n _ y w hy hnil (by omega) HBY.out HT.out).mono ?_
  unfold FBPost
  rw [← HZ.out, HF.out]
  rintro e w1 ⟨g, rfl, hg, hb1, hblk⟩
  have hbs1 := Bs.of_block hblk
  rw [HF.out] at hbs1
  clear hblk hg
  have hown0 := own_of_row (B := w1.heap.size) (z := []) (Blk.new w1 #[] 5) (Nat.le_refl _) (by simp)
  have hbs1A := hbs1.below (below_one w1 (.cells #[] 5))
  go_wp2_with (first
    | (at_builtin; (refine list_append_gr rfl (.tmp 32) (.tmp 33) rfl w1.heap.size (.slice (some ⟨w1.heap.size, 0, none⟩) 0 0) [] rfl hown0 _ _ _ _ rfl hbs1A (by simp) (by simp; omega) (by simp) ?_; intro v6 w8 ho6 hg6 hgr6; have hb6 := Own.belowOf (below_one w1 (.cells #[] 5)) (by simp) hown0 hg6; rw [List.nil_append] at ho6; obtain ⟨A8, c8, hv6⟩ := ho6.slice; rw [HF.out] at hv6; subst hv6; have hx8 := (hx.below hb1).below hb6; clear hg6 hgr6 hown0 hbs1A))
    | (at_builtin; go_must (refine list_append_gr rfl (.tmp 34) (.tmp 35) rfl w1.heap.size (.slice A8 F c8) Z rfl (by exact ho6) _ _ _ _ rfl hx8 hnil2 (by rw [HF.out]; omega) hb6.size ?_; intro v9 w9 ho9 hg9 hgr9; have hb9 := Own.belowOf hb6 hb6.size ho6 hg9; have hcap := ho9.slice; obtain ⟨A9, c9, hv9⟩ := hcap; rw [HAL.out] at hv9; subst hv9; have hcap9 := ho9.cap; have hbs9 := ho9.bs.2; clear hg9 hgr9)))
  have hbd9 := hb1.trans (hb9.mono hb1.size)
  have hbs1' := hbs1.below hb9
  clear hb1 hb9 hb6 hbs1 ho6 ho9 hx8
  refine (fget_any _ _ _ _ _ _ hbs9 hcap9 (by omega) HAB.out (HT.out.below hbd9)).mono ?_
  rw [min500]
  rintro e w10 ⟨v10, l10, nn, c10, q10, rfl, ho10, hb10, hst⟩
  have hst' : l10 = y ∧ nn = (F : Int) ∧ c10 = 0 ∧ q10 = 0 := by
    rcases hst with ⟨_, h1, h2, h3, h4⟩ | ⟨h0, _⟩
    · rw [HR1.out] at h1 h2; exact ⟨h1, h2, h3, h4⟩
    · rw [HR1.out] at h0; exact absurd rfl h0
  obtain ⟨rfl, rfl, rfl, rfl⟩ := hst'
  obtain ⟨A10, cc10, rfl⟩ := ho10.slice
  have hbA := hb10.alloc hb10.size (.cells #[.int .i64 0, .int .i64 0] 42)
  have hFb := Blk.new w10 #[.int .i64 0, .int .i64 0] 42
  have hbs10 := ho10.bs.2.alloc (.cells #[.int .i64 0, .int .i64 0] 42)
  have hbs2 := hbs1'.below hbA
  have hbd10 := hbd9.trans (hbA.mono hbd9.size)
  have hfb : w.heap.size ≤ w10.heap.size := Nat.le_trans hbd9.size hb10.size
  have hgfb : g < w10.heap.size := Nat.lt_of_lt_of_le (hbs1'.lt (by omega) ⟨g, 0, none⟩ rfl) hb10.size
  rw [HYL.out] at hbs10 ⊢
  clear hst ho10 hb10 hbA hbs1' hbs9 hbd9 hcap9
  go_wp2_with fail
  generalize w10.alloc (.cells #[.int .i64 0, .int .i64 0] 42) = w11 at *
  generalize w10.heap.size = fb at *
  refine (same_any _ _ _ _ _ _ l10 _ hbs10 (hy.below hbd10)).mono ?_
  rintro e w' ⟨rfl, rfl⟩
  clear hbs10
  go_upto_region 9 with (fail)
  go_upto_region 10 with (fail)
  rw [← HM.out]
  have hbt := hbs2.take (k := j) (by omega)
  have j0 : (0 : Int) ≤ j := by omega
  have j1 : (j : Int) ≤ F := by omega
  have HTB : Hid (∀ v ∈ Z.take j, 0 ≤ v ∧ v < 256) := Lib.hid (fun v hv => HFB.out v (List.mem_of_mem_take hv))
  go_wp2_with fail
  refine (fget_any _ _ _ (Z.take j) _ _ hbt (by omega) (by omega) HTB.out (HT.out.below hbd10)).mono ?_
  rw [min500]
  rintro e w12 ⟨v12, l12, nn, c12, q12, rfl, ho12, hb12, hst⟩
  have hst' : l12 = [] ∧ nn = 0 ∧ c12 = 1 ∧ q12 = (j : Int) := by
    have e := HR2.out j (by rw [HF.out]; exact hjF)
    rcases hst with ⟨h0, _⟩ | ⟨_, h1, h2, h3, h4⟩
    · rw [e] at h0; exact absurd h0 (by show ¬ (1 : Int) = 0; decide)
    · rw [e] at h3 h4; exact ⟨h1, h2, h3, h4⟩
  obtain ⟨rfl, rfl, rfl, rfl⟩ := hst'
  obtain ⟨A12, cc12, rfl⟩ := ho12.slice
  have hFb2 := hFb.below hb12
  have hbd12 := hbd10.trans (hb12.mono hbd10.size)
  obtain ⟨f0, f1⟩ := hFb2.c2
  obtain ⟨z0, z1⟩ := hFb2.f2
  obtain ⟨hFb3, hkF⟩ := blk_set2 hFb2 (.int .i64 1) (.int .i64 (j : Int))
  have hbd13 := Kp.below hbd12 (Nat.le_refl _) hkF hfb
  have HF3 := Lib.hid hFb3
  have HBD := Lib.hid hbd13
  clear hst ho12 hb12 hFb hFb3 hkF hbd13 hbd12 hbd10 hbt hbs2 hFb2
  go_upto_region 11 with (fail)
  generalize (w12.setCell ⟨fb, 0, none⟩ (.int .i64 1)).setCell ⟨fb, 1, none⟩ (.int .i64 (j : Int)) = w13 at *
  clear f0 f1 z0 z1
  obtain ⟨f0, f1⟩ := HF3.out.c2
  go_upto_region 13 with (fail)
  have hbd13 := HBD.out
  go_wp2_with fail
  refine (fget_any _ _ _ x _ _ (hx.below hbd13) hnm2 (by omega) HBX.out (HT.out.below hbd13)).mono ?_
  rw [min500]
  rintro e w14 ⟨v14, l14, nn, c14, q14, rfl, ho14, hb14, hst⟩
  obtain ⟨A14, cc14, rfl⟩ := ho14.slice
  have hbA := hb14.alloc hb14.size (.cells #[.int .i64 c14, .int .i64 q14] 42)
  have hGb := Blk.new w14 #[.int .i64 c14, .int .i64 q14] 42
  have hbs14 := ho14.bs.2.alloc (.cells #[.int .i64 c14, .int .i64 q14] 42)
  have hbd14 := hbd13.trans (hbA.mono hbd13.size)
  have hnil14 : A14 = none → cc14 = 0 := by
    intro e
    subst e
    rcases ho14.2 with ⟨e, _⟩ | ⟨g, cap, cur, e, _⟩
    · injection e
    · injection e with e; cases e
  have HNA := Lib.hid hnil14
  clear ho14 hb14 hbA hnil14 hbd13 f0 f1
  rcases hst with ⟨g0, rfl, rfl, rfl, rfl⟩ | ⟨g0, rfl, rfl, rfl, rfl⟩
  · obtain ⟨o1, o2, o3, o4, o5⟩ := HR3.out g0
    have HLB : Hid (∀ v ∈ (fr x 500 0).1, 0 ≤ v ∧ v < 256) := Lib.hid (fun v hv => HBX.out v (o5 v hv))
    generalize (fr x 500 0).1 = l14 at *
    generalize (fr x 500 0).2.1 = nn at *
    obtain ⟨k, rfl⟩ := Int.eq_ofNat_of_zero_le o3
    have hk : k ≤ n2 := by have := HXL.out; omega
    have HE : Hid (frm l14 = x.take k) := Lib.hid (by rw [o1]; unfold piece; simp)
    have hl14 : l14.length ≤ 500 := by omega
    have HTL : Hid ((x.take k).length = k) := Lib.hid (by rw [List.length_take, HXL.out]; omega)
    have k0 : (0 : Int) ≤ k := by omega
    have k1 : (k : Int) ≤ m2 := by omega
    clear o1 o2 o4 o5 g0
    go_wp2_with fail
    generalize w14.alloc (.cells #[.int .i64 0, .int .i64 0] 42) = w15 at *
    generalize w14.heap.size = fb2 at *
    refine (fbytes_any _ _ _ l14 _ hbs14 HNA.out (by omega) HLB.out (HT.out.below hbd14)).mono ?_
    unfold FBPost
    rw [HE.out, HTL.out]
    rintro e w16 ⟨g16, rfl, hg16, hb16, hblk16⟩
    have hbs16 := Bs.of_block hblk16
    rw [HTL.out] at hbs16
    have hbd16 := hbd14.trans (hb16.mono hbd14.size)
    have hxt := (hx.below hbd16).take (k := k) hk
    clear hblk16 hg16 hb16 hbd14 hbs14 hGb
    go_wp2_with fail
    refine (same_any _ _ _ _ _ _ (x.take k) _ hbs16 hxt).mono ?_
    rintro e w' ⟨rfl, rfl⟩
    go_wp2_with fail
    refine (live8_any _ (HT.out.below hbd16)).mono ?_
    rintro e w22 ⟨rfl, hb22⟩
    go_wp2
    go_ret
    exact ⟨rfl, hbd16.trans (hb22.mono hbd16.size)⟩
  · have hc : ((fr x 500 0).2.2.1 != 0) = true := by simpa using g0
    clear g0
    generalize (fr x 500 0).2.2.1 = c14 at *
    generalize (fr x 500 0).2.2.2 = q14 at *
    go_wp2_with fail
    refine (live8_any _ (HT.out.below hbd14)).mono ?_
    rintro e w22 ⟨rfl, hb22⟩
    go_wp2
    go_ret
    exact ⟨rfl, hbd14.trans (hb22.mono hbd14.size)⟩

theorem tabs_of {W : World} (h : laidMetH Tryd.prog Rows.frameBackRow.laid W) : Tbs W := by
  rw [MakeChecks.laidMetH_plain _ _ _ (by kernel_rfl)] at h
  exact tbs_of_laid h
theorem door_met (os : Os) (args : Array Value) : laidMetH Tryd.prog Rows.frameBackRow.laid ((World.doorLaid Tryd.prog 4000 os).forCall (fun _ _ => 0) ⟨#[], args, []⟩).memory :=
  laidMetH_of_parts3 (fuel := 8) (laidMet_of_run' 8 (by kernel_rfl) (by kernel_rfl)) (by kernel_rfl) (by kernel_rfl)
set_option maxRecDepth 100000 in
theorem lifted (os : Os) (started : os.Started) (H : Type) (enc : TypeId × Value → H) :
    ReturnsInHanded {} Tryd.checked os 5 .any (fun w args => (Rows.frameBackSpec.pre enc Tryd.prog Tryd.f5 [] false w args ∧ laidMetH Tryd.prog Rows.frameBackRow.laid w) ∧ sizedMet enc Tryd.prog Tryd.f5 (OpenSpec.ofChange Rows.frameBackSpec) false w args)
      (Rows.frameBackSpec.post enc Tryd.prog Tryd.f5 false true false false) := by
  refine returnsInHanded_of_change_and (C := Tryd.checked) (X := fun w _ => laidMetH Tryd.prog Rows.frameBackRow.laid w) (fun _ _ _ hh h => h.of_heap hh) own started (by kernel_rfl) Tryd.func5
    (ChangeSpec.witness_shaped (enc := enc) (C := Tryd.checked) (os := os) (X := fun w _ => laidMetH Tryd.prog Rows.frameBackRow.laid w) false (World.doorLaid Tryd.prog 4000 os) #[.slice none 0 0, .slice none 0 0, .int .i64 0] 8 rfl (World.shaped_of_RefB (by kernel_rfl) (by kernel_rfl)) (by kernel_rfl) (by kernel_rfl) (by kernel_rfl) (door_met os _)) ?_
  intro W base args ds gs before hval0 hW _ _ hL _
  have hval : ∀ (j : Nat) t v, Tryd.f5.params[j]? = some t → args[j]? = some v → Value.okWide Tryd.prog W .any base t v := hval0
  have hW' := hW
  obtain ⟨p, q, hA0, hV, rfl, hfz, hnd⟩ := hW
  have hA : DataW.TrodAll enc Tryd.prog W 0 (fun _ => true) true Tryd.f5.params.toList args.toList ds p := hA0
  rw [Tryd.params5] at hA hval
  obtain ⟨v0, vs0, d0, ds0, p0, q0, hargs, rfl, rfl, h0, r0⟩ := trodAll_cons hA
  obtain ⟨v1, vs1, d1, ds1, p1, q1, rfl, rfl, rfl, h1, r1⟩ := trodAll_cons r0
  obtain ⟨v2, vs2, d2, ds2, p2, q2, rfl, rfl, rfl, h2, r2⟩ := trodAll_cons r1
  obtain ⟨rfl, rfl, rfl⟩ := trodAll_nil r2
  obtain rfl : args = #[v0, v1, v2] := by cases args; simp_all
  obtain ⟨rfl, rfl⟩ := trodVars_none hV
  have lt0 : ∀ x ∈ p0, x.block < W.heap.size := by obtain ⟨m, hm⟩ := h0; exact DataW.trod_lt m _ _ _ hm
  have lt1 : ∀ x ∈ p1, x.block < W.heap.size := by obtain ⟨m, hm⟩ := h1; exact DataW.trod_lt m _ _ _ hm
  have lt2 : ∀ x ∈ p2, x.block < W.heap.size := by obtain ⟨m, hm⟩ := h2; exact DataW.trod_lt m _ _ _ hm
  clear hA0 hval0
  refine (walk enc W (tabs_of hL) base v0 d0 p0 (hval 0 22 v0 rfl rfl) h0 v1 d1 p1 (hval 1 22 v1 rfl rfl) h1 v2 d2 p2 (hval 2 3 v2 rfl rfl) h2).mono fun e W' ⟨he, bel⟩ => ?_
  subst he
  exact ⟨_, rfl, _, _, _, [], _, [], hW', trodAll_mk1 (shut_bool Tryd.underlying4 _), (trodAll_cons_mk (Below.trod laidOut (by kernel_rfl) (of_decide_eq_true (by kernel_rfl)) h0 bel lt0) (trodAll_cons_mk (Below.trod laidOut (by kernel_rfl) (of_decide_eq_true (by kernel_rfl)) h1 bel lt1) (trodAll_cons_mk (Below.trod laidOut (by kernel_rfl) (of_decide_eq_true (by kernel_rfl)) h2 bel lt2) trodAll_mk0))), rfl, bel.frame _, fun h => by cases h⟩

theorem over : Rows.FrameBackSaid :=
  OpenClaim.holds_of_wide 5 Tryd.f5 rfl rfl rfl rfl rfl rfl rfl ⟨rfl, rfl, rfl, rfl, rfl⟩ rfl rfl rfl rfl rfl (by kernel_rfl) Tryd.func5 (by kernel_rfl)
    (of_decide_eq_true (by kernel_rfl)) (by unfold Func.isWrapper; first | (rw [if_pos (by decide +kernel)]; kernel_rfl) | (rw [if_neg (by decide +kernel)]; exact ⟨rfl, rfl⟩))
    (fun os started H enc _ => lifted os started H enc)

/-- THE TIED CARD. -/
theorem proved : Rows.FrameBackCardSaid :=
  Claim7.holds_tied_plain_at .later [] [.data, .data] true Rows.frameBackCard.stood.harness Rows.frameBackCard.stood.looks
    over (fun _ h => by cases h) (by kernel_rfl) (fun _ h => by cases h) frameBack_row_tie rfl ⟨rfl, rfl⟩ (by kernel_rfl) rfl
    (fun f fn hf hfn => by
      obtain rfl : f = 5 := Option.some.inj ((show Tryd.prog.funcNamed "tholepin/tholepinlaw08.FrameBack" = some 5 by kernel_rfl).symm.trans hf) |>.symm
      obtain rfl : fn = Tryd.f5 := (Option.some.inj (Tryd.func5.symm.trans hfn)).symm
      exact ⟨by kernel_rfl, fun j t ht => by
        rw [Tryd.params5] at ht
        have hm : t ∈ [22, 22, 3] := by simpa using Array.mem_of_getElem? ht
        have hall : ([22, 22, 3].all fun u => !Tryd.prog.wantsStandIn u) = true := by kernel_rfl
        exact (show Tryd.prog.wantsStandIn t = false by simpa using List.all_eq_true.1 hall t hm)⟩)
    (by kernel_rfl)
#print axioms proved
end Go.Proofs.YtophdhbemidomaaDoor.frameBack
