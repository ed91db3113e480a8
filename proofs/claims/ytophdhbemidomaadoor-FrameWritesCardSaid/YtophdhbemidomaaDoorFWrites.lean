/- FrameWrites: called with any two rows of bytes and any int, the law returns true; condition: crc's two tables read as the program's text lays them, to which the card ties them. -/
import Derived.Test.YtophdhbemidomaaDoorRows
import Derived.Test.YtophdhbemidomaaDoorK8
import Derived.Test.YtophdhbemidomaaDoorCrcT
import Derived.Test.YtophdhbemidomaaDoorK1
import Derived.ProofKit
import Derived.OpenShut
import Derived.ShutString
import Derived.ChangeOld
import Derived.Test.YtophdhbemidomaaDoorCards
import Derived.Test.YtophdhbemidomaaDoorTie
import Derived.LaidMore
import Derived.Stop.Joined
import Derived.Deep.Slices
import Derived.SevenTiedAt
namespace Go.Proofs.YtophdhbemidomaaDoor.frameWrites
open Go.ChangeShapes Go.WideShapes Go.ChangeAt Go.RowKit
open Go.ChangeMaps (open_string shut_string)
set_option linter.unusedVariables false

theorem own : ownKnob Tryd.prog.godebug = none := by kernel_rfl
theorem laidOut : laidOutB Tryd.prog = true := by kernel_rfl
open Cur Mem CrcM

set_option maxRecDepth 100000 in
set_option maxHeartbeats 8000000 in
theorem walk {H : Type} (enc : TypeId × Value → H) (w : World) (hT : Tbs w) (base : Nat) (v0 : Value) (d0 : DataW H) (p0 : List MemPlace) (g0 : Value.okWide Tryd.prog w .any base 22 v0) (h0 : DataW.Trod enc Tryd.prog w 0 (fun _ => true) true 22 v0 d0 p0) (v1 : Value) (d1 : DataW H) (p1 : List MemPlace) (g1 : Value.okWide Tryd.prog w .any base 22 v1) (h1 : DataW.Trod enc Tryd.prog w 0 (fun _ => true) true 22 v1 d1 p1) (v2 : Value) (d2 : DataW H) (p2 : List MemPlace) (g2 : Value.okWide Tryd.prog w .any base 3 v2) (h2 : DataW.Trod enc Tryd.prog w 0 (fun _ => true) true 3 v2 d2 p2) :
    Calls Tryd.prog 3 #[v0, v1, v2] w fun e w' => e = .returned (.bool true) ∧ Below w.heap.size w w' := by
  obtain ⟨a, n, m, y, rfl, hnm, hy, hby, hnil⟩ := open_bytes g0 h0
  obtain ⟨a2, n2, m2, x, rfl, hnm2, hx, hbx, hnil2⟩ := open_bytes g1 h1
  obtain ⟨nn, rfl, t0, t1⟩ := open_i64 g2 h2
  clear g0 h0 g1 h1 g2 h2
  have HT := Lib.hid hT
  clear hT
  by_cases hn : 500 < (n : Int)
  · go_enter Tryd.func3, Tryd.ntmps3
    go_wp2_with fail
    refine (live8_any _ HT.out).mono ?_
    rintro e w1 ⟨rfl, hb⟩
    go_wp2
    go_ret
    exact ⟨rfl, hb⟩
  by_cases hn2 : 500 < (n2 : Int)
  · go_enter Tryd.func3, Tryd.ntmps3
    go_wp2_with fail
    refine (live8_any _ HT.out).mono ?_
    rintro e w1 ⟨rfl, hb⟩
    go_wp2
    go_ret
    exact ⟨rfl, hb⟩
  have HBY := Lib.hid hby
  have HBX := Lib.hid hbx
  have hv := vsz_le (n : Int)
  have hfl := frm_length y
  rw [hy.1] at hfl
  have HFL : Hid ((frm y).length = vsz n + n + 4) := Lib.hid hfl
  have HP1 := Lib.hid (putZ_fits (z := []) (y := x) (M := 2000) (by rw [hx.1]; simp; omega))
  have HP2 : Hid (puts [vz n, y, fixZ (sm y : Nat) 4] ([] ++ x) 2000 0 = (x ++ frm y, 0)) := Lib.hid (by
    have e : [vz (n : Int), y, fixZ (sm y : Nat) 4].flatten = frm y := by unfold frm; rw [hy.1]; simp
    have := puts_fits (xs := [vz (n : Int), y, fixZ (sm y : Nat) 4]) (z := [] ++ x) (M := 2000) (by rw [e, hfl, List.nil_append, hx.1]; omega)
    rw [this, e]; rfl)
  have HXL := Lib.hid hx.1
  clear hby hbx hfl
  have hM : ∃ M, M = min (max nn 0) 1099511627776 := ⟨_, rfl⟩
  obtain ⟨M, hM⟩ := hM
  have hM0 : 0 ≤ M := by omega
  have hM1 : M ≤ 1099511627776 := by omega
  have HM := Lib.hid hM
  clear hM t0 t1
  have hvm := vsz_le M
  have HVM := Lib.hid (vz_length M)
  have HMM : Hid (max M 0 = M) := Lib.hid (by omega)
  have HU : Hid (M < 18446744073709551616) := Lib.hid (by omega)
  have hlt := HT.out.lt
  have HLT := Lib.hid hlt
  clear hlt
  go_enter Tryd.func3, Tryd.ntmps3
  go_wp2_with fail
  refine (fbytes_any a n _ y w hy hnil (by omega) HBY.out HT.out).mono ?_
  rintro e w1 ⟨g, rfl, hg, hb1, hblk⟩
  have hbs1 := Bs.of_block hblk
  have hglt := hblk.lt
  rw [HFL.out] at hbs1 ⊢
  clear hblk
  go_wp2_with fail
  refine (wnew_any 2000 w1 (by omega)).mono ?_
  rintro e w2 ⟨b, rfl, hbb, hb2, hw2⟩
  rw [if_neg (by omega)] at hw2
  have hbd2 := hb1.trans (hb2.mono hb1.size)
  have hbs2 := hbs1.below hb2
  have hB2 := hb2.size
  have hW1 := hb1.size
  have HG : Hid (∀ a', some (⟨g, 0, none⟩ : Addr) = some a' → a'.block < w1.heap.size) := Lib.hid (fun a' ha => by injection ha with ha; subst ha; exact hglt)
  clear hb1 hbs1
  go_wp2_with fail
  refine (wput_any _ n2 _ hw2 (hx.below hbd2) hnil2 (fun h0 a' ha => hw2.off_lt (by have := hx.lt h0 a' ha; omega)) (by simp; omega) hB2).mono ?_
  rintro e w3 ⟨r3, rfl, hk3, hg3, hw3⟩
  rw [HP1.out.1, HP1.out.2] at hw3
  have hbd3 := hw2.belowOf hbd2 (by omega) hk3 hW1
  have hbs3 := hbs2.ks hk3 (fun h0 a' ha => hw2.off_lt (HG.out a' ha))
  have hB3 : w1.heap.size ≤ w3.heap.size := Nat.le_trans hB2 hk3.size
  clear hk3 hg3 hbs2 hbd2 hw2 hb2 hB2
  go_wp2_with fail
  refine (fput_any _ n _ hw3 (hy.below hbd3) hnil (fun h0 a' ha => hw3.off_lt (by have := hy.lt h0 a' ha; omega)) (by have := HXL.out; simp; omega) hB3 HBY.out (HT.out.below hbd3) (by have := HLT.out; omega)).mono ?_
  rintro e w4 ⟨r4, rfl, hk4, hg4, hw4⟩
  rw [HP2.out] at hw4
  have hbd4 := hw3.belowOf hbd3 (by omega) hk4 hW1
  have hbs4 := hbs3.ks hk4 (fun h0 a' ha => hw3.off_lt (HG.out a' ha))
  have HXF : Hid ((x ++ frm y).length = n2 + (vsz n + n + 4)) := Lib.hid (by rw [List.length_append, HXL.out, HFL.out])
  clear hk4 hg4 hbs3 hbd3 hw3 hB3
  go_wp2_with fail
  refine (wbytes_good hw4 (by rw [HXF.out]; omega)).mono ?_
  rintro e w5 ⟨g5, rfl, hg5, hb5, hblk5⟩
  have hbs5 := Bs.of_block hblk5
  have hbs6 := hbs4.below hb5
  have hbd5 := hbd4.trans (hb5.mono hbd4.size)
  rw [HXF.out] at hbs5 ⊢
  clear hw4 hb5 hblk5 hbd4 hbs4
  go_wp2_with fail
  rw [← HM.out]
  refine (rbytes_any 10 _ _ (vsz_le _) hM0 HU.out).mono ?_
  rintro e w6 ⟨A6, m6, rfl, hb6, _, _, _, _⟩
  have hbs7 := hbs5.below hb6
  have hbs8 := hbs6.below hb6
  have hbd6 := hbd5.trans (hb6.mono hbd5.size)
  rw [HVM.out]
  clear hb6 hbs5 hbs6 hbd5
  go_wp2_with fail
  refine (rfbytes_any _ n _ y _ (hy.below hbd6) hnil (by omega) HBY.out).mono ?_
  rintro e w7 ⟨A7, m7, rfl, hb7, hbs9, _⟩
  have hbs10 := hbs7.below hb7
  have hbs11 := hbs8.below hb7
  have hbd7 := hbd6.trans (hb7.mono hbd6.size)
  rw [HFL.out] at hbs9 ⊢
  clear hb7 hbs7 hbs8 hbd6
  go_wp2_with fail
  refine (same_any _ _ _ _ _ _ (frm y) _ hbs11 hbs9).mono ?_
  rintro e w8 ⟨rfl, rfl⟩
  clear hbs9
  have hown0 := own_of_row (B := w7.heap.size) (z := []) (Blk.new w7 #[] 5) (Nat.le_refl _) (by simp)
  have hxA := (hx.below hbd7).below (below_one w7 (.cells #[] 5))
  have hB7 := hbd7.size
  go_wp2_with (first
    | (at_builtin; (refine list_append_gw (by first | rfl | simp [Region.wanted, yielded]) (.tmp 64) (.tmp 65) rfl w7.heap.size (.slice (some ⟨w7.heap.size, 0, none⟩) 0 0) [] rfl hown0 _ _ _ _ rfl hxA hnil2 (by simp; omega) (by simp) ?_; intro v6 w8 ho6 hg6 hgr6; have hb6 := Own.belowOf (below_one w7 (.cells #[] 5)) (by simp) hown0 hg6; rw [List.nil_append] at ho6; obtain ⟨A8, c8, hv6⟩ := ho6.slice; rw [HXL.out] at hv6; subst hv6; have hbs13 := hbs11.below hb6; clear hg6 hgr6 hxA hown0 hbs11))
    | (at_builtin; go_must (refine list_append_gw (by first | rfl | simp [Region.wanted, yielded]) (.tmp 66) (.tmp 67) rfl w7.heap.size (.slice A8 n2 c8) x rfl (by exact ho6) _ _ _ _ rfl hbs13 (by simp) (by rw [HXL.out]; omega) hb6.size ?_; intro v9 w9 ho9 hg9 hgr9; have hb9 := Own.belowOf hb6 hb6.size ho6 hg9; obtain ⟨A9, c9, hv9⟩ := ho9.slice; rw [HXF.out] at hv9; subst hv9; clear hg9 hgr9)))
  refine (same_any _ _ _ _ _ _ (x ++ frm y) _ (hbs10.below hb9) ho9.bs.2).mono ?_
  rintro e w10 ⟨rfl, rfl⟩
  have hbd9 := hbd7.trans (hb9.mono hbd7.size)
  clear hb9 hbd7 hb6 hbs10 hbs13 ho9 ho6
  go_wp2_with fail
  refine (fsize_any _ _ (by omega)).mono ?_
  rintro e w10 ⟨rfl, rfl⟩
  rw [show max (n : Int) 0 = n by omega]
  go_wp2_with fail
  refine (fsize_any _ _ (by omega)).mono ?_
  rintro e w10 ⟨rfl, rfl⟩
  rw [HMM.out]
  go_wp2_with fail
  refine (fmost_any _ _ (by omega)).mono ?_
  rintro e w10 ⟨rfl, rfl⟩
  rw [HMM.out]
  go_wp2_with fail
  refine (live8_any _ (HT.out.below hbd9)).mono ?_
  rintro e w11 ⟨rfl, hb11⟩
  go_wp2
  go_ret
  exact ⟨rfl, hbd9.trans (hb11.mono hbd9.size)⟩

theorem tabs_of {W : World} (h : laidMetH Tryd.prog Rows.frameWritesRow.laid W) : Tbs W := by
  rw [MakeChecks.laidMetH_plain _ _ _ (by kernel_rfl)] at h
  exact tbs_of_laid h
theorem door_met (os : Os) (args : Array Value) : laidMetH Tryd.prog Rows.frameWritesRow.laid ((World.doorLaid Tryd.prog 4000 os).forCall (fun _ _ => 0) ⟨#[], args, []⟩).memory :=
  laidMetH_of_parts3 (fuel := 8) (laidMet_of_run' 8 (by kernel_rfl) (by kernel_rfl)) (by kernel_rfl) (by kernel_rfl)
set_option maxRecDepth 100000 in
theorem lifted (os : Os) (started : os.Started) (H : Type) (enc : TypeId × Value → H) :
    ReturnsInHanded {} Tryd.checked os 3 .any (fun w args => (Rows.frameWritesSpec.pre enc Tryd.prog Tryd.f3 [] false w args ∧ laidMetH Tryd.prog Rows.frameWritesRow.laid w) ∧ sizedMet enc Tryd.prog Tryd.f3 (OpenSpec.ofChange Rows.frameWritesSpec) false w args)
      (Rows.frameWritesSpec.post enc Tryd.prog Tryd.f3 false true false false) := by
  refine returnsInHanded_of_change_and (C := Tryd.checked) (X := fun w _ => laidMetH Tryd.prog Rows.frameWritesRow.laid w) (fun _ _ _ hh h => h.of_heap hh) own started (by kernel_rfl) Tryd.func3
    (ChangeSpec.witness_shaped (enc := enc) (C := Tryd.checked) (os := os) (X := fun w _ => laidMetH Tryd.prog Rows.frameWritesRow.laid w) false (World.doorLaid Tryd.prog 4000 os) #[.slice none 0 0, .slice none 0 0, .int .i64 0] 8 rfl (World.shaped_of_RefB (by kernel_rfl) (by kernel_rfl)) (by kernel_rfl) (by kernel_rfl) (by kernel_rfl) (door_met os _)) ?_
  intro W base args ds gs before hval0 hW _ _ hL _
  have hval : ∀ (j : Nat) t v, Tryd.f3.params[j]? = some t → args[j]? = some v → Value.okWide Tryd.prog W .any base t v := hval0
  have hW' := hW
  obtain ⟨p, q, hA0, hV, rfl, hfz, hnd⟩ := hW
  have hA : DataW.TrodAll enc Tryd.prog W 0 (fun _ => true) true Tryd.f3.params.toList args.toList ds p := hA0
  rw [Tryd.params3] at hA hval
  obtain ⟨v0, vs0, d0, ds0, p0, q0, hargs, rfl, rfl, h0, r0⟩ := trodAll_cons hA
  obtain ⟨v1, vs1, d1, ds1, p1, q1, rfl, rfl, rfl, h1, r1⟩ := trodAll_cons r0
  obtain ⟨v2, vs2, d2, ds2, p2, q2, rfl, rfl, rfl, h2, r2⟩ := trodAll_cons r1
  obtain ⟨rfl, rfl, rfl⟩ := trodAll_nil r2
  obtain rfl : args = #[v0, v1, v2] := by cases args; simp_all
  obtain ⟨rfl, rfl⟩ := trodVars_none hV
  have lt0 : ∀ x ∈ p0, x.block < W.heap.size := by obtain ⟨m, hm⟩ := h0; exact DataW.trod_lt m _ _ _ hm
  have lt1 : ∀ x ∈ p1, x.block < W.heap.size := by obtain ⟨m, hm⟩ := h1; exact DataW.trod_lt m _ _ _ hm
  have lt2 : ∀ x ∈ p2, x.block < W.heap.size := by obtain ⟨m, hm⟩ := h2; exact DataW.trod_lt m _ _ _ hm
  clear hA0 hval0
  refine (walk enc W (tabs_of hL) base v0 d0 p0 (hval 0 22 v0 rfl rfl) h0 v1 d1 p1 (hval 1 22 v1 rfl rfl) h1 v2 d2 p2 (hval 2 3 v2 rfl rfl) h2).mono fun e W' ⟨he, bel⟩ => ?_
  subst he
  exact ⟨_, rfl, _, _, _, [], _, [], hW', trodAll_mk1 (shut_bool Tryd.underlying4 _), (trodAll_cons_mk (Below.trod laidOut (by kernel_rfl) (of_decide_eq_true (by kernel_rfl)) h0 bel lt0) (trodAll_cons_mk (Below.trod laidOut (by kernel_rfl) (of_decide_eq_true (by kernel_rfl)) h1 bel lt1) (trodAll_cons_mk (Below.trod laidOut (by kernel_rfl) (of_decide_eq_true (by kernel_rfl)) h2 bel lt2) trodAll_mk0))), rfl, bel.frame _, fun h => by cases h⟩

theorem over : Rows.FrameWritesSaid :=
  OpenClaim.holds_of_wide 3 Tryd.f3 rfl rfl rfl rfl rfl rfl rfl ⟨rfl, rfl, rfl, rfl, rfl⟩ rfl rfl rfl rfl rfl (by kernel_rfl) Tryd.func3 (by kernel_rfl)
    (of_decide_eq_true (by kernel_rfl)) (by unfold Func.isWrapper; first | (rw [if_pos (by decide +kernel)]; kernel_rfl) | (rw [if_neg (by decide +kernel)]; exact ⟨rfl, rfl⟩))
    (fun os started H enc _ => lifted os started H enc)

/-- THE TIED CARD. -/
theorem proved : Rows.FrameWritesCardSaid :=
  Claim7.holds_tied_plain_at .later [] [.data, .data] true Rows.frameWritesCard.stood.harness Rows.frameWritesCard.stood.looks
    over (fun _ h => by cases h) (by kernel_rfl) (fun _ h => by cases h) frameWrites_row_tie rfl ⟨rfl, rfl⟩ (by kernel_rfl) rfl
    (fun f fn hf hfn => by
      obtain rfl : f = 3 := Option.some.inj ((show Tryd.prog.funcNamed "tholepin/tholepinlaw08.FrameWrites" = some 3 by kernel_rfl).symm.trans hf) |>.symm
      obtain rfl : fn = Tryd.f3 := (Option.some.inj (Tryd.func3.symm.trans hfn)).symm
      exact ⟨by kernel_rfl, fun j t ht => by
        rw [Tryd.params3] at ht
        have hm : t ∈ [22, 22, 3] := by simpa using Array.mem_of_getElem? ht
        have hall : ([22, 22, 3].all fun u => !Tryd.prog.wantsStandIn u) = true := by kernel_rfl
        exact (show Tryd.prog.wantsStandIn t = false by simpa using List.all_eq_true.1 hall t hm)⟩)
    (by kernel_rfl)
#print axioms proved
end Go.Proofs.YtophdhbemidomaaDoor.frameWrites
