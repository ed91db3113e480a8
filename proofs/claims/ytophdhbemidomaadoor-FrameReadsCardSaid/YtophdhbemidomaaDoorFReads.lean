/- FrameReads: called with any bytes and any int, the law returns true; condition: crc's two tables read as the program's text lays them, to which the card ties them. -/
import Derived.Test.YtophdhbemidomaaDoorRows
import Derived.Test.YtophdhbemidomaaDoorK8
import Derived.Test.YtophdhbemidomaaDoorCrcT
import Derived.Test.YtophdhbemidomaaDoorK1
import Derived.ProofKit
import Derived.OpenShut
import Derived.ShutString
import Derived.ChangeOld
import Derived.Test.YtophdhbemidomaaDoorCards
import Derived.Test.YtophdhbemidomaaDoorTie
import Derived.LaidMore
import Derived.Stop.Joined
import Derived.Deep.Slices
import Derived.SevenTiedAt
namespace Go.Proofs.YtophdhbemidomaaDoor.frameReads
open Go.ChangeShapes Go.WideShapes Go.ChangeAt Go.RowKit
open Go.ChangeMaps (open_string shut_string)
set_option linter.unusedVariables false

theorem own : ownKnob Tryd.prog.godebug = none := by kernel_rfl
theorem laidOut : laidOutB Tryd.prog = true := by kernel_rfl
open Cur Mem CrcM


theorem get_det {n : Nat} {g : Rs (List Int)} {l l3 : List Int} {p c q nn c3 q3 : Int} (h : St [] n g 0 0 0 l p c q) (k : GetSt [] g l3 nn c3 q3) : l3 = l ∧ c3 = c ∧ q3 = q ∧ (c = 0 → nn = p) ∧ (c ≠ 0 → nn = 0) := by
  obtain ⟨_, _, ⟨h0, _⟩ | ⟨_, h1, rfl, rfl, rfl, rfl⟩ | ⟨_, h1, rfl, rfl, rfl⟩⟩ := h
  · exact absurd rfl h0
  · rcases k with ⟨_, rfl, rfl, rfl, rfl⟩ | ⟨k0, _⟩
    · exact ⟨rfl, rfl, rfl, fun _ => rfl, fun h => absurd rfl h⟩
    · exact absurd h1 k0
  · rcases k with ⟨k0, _⟩ | ⟨_, rfl, rfl, rfl, rfl⟩
    · exact absurd k0 h1
    · exact ⟨rfl, rfl, rfl, fun h => absurd h h1, fun _ => rfl⟩
def S2 (cb fb : Nat) (s : Value) (p c q : Int) (w' : World) : Prop := Blk w' cb (cvs s p c q) 44 ∧ Blk w' fb #[.int .i64 c, .int .i64 q] 42
theorem S2.below {cb fb : Nat} {s : Value} {p c q : Int} {w' w'' : World} (h : S2 cb fb s p c q w') (hb : Below w'.heap.size w' w'') : S2 cb fb s p c q w'' := ⟨h.1.below hb, h.2.below hb⟩
theorem whl_ways (g : Rs Int) (h : g.2.2.1 = 0 → 0 ≤ g.1) : ∃ (k : Int) (ok : Bool), whl g = k ∧ decide (g.2.2.1 = 0) = ok ∧ ((0 < k ∧ ok = true) ∨ (k = 0 ∧ ok = false)) := by
  refine ⟨_, _, rfl, rfl, ?_⟩
  by_cases h0 : g.2.2.1 = 0
  · left
    have := h h0
    have hv := vsz_le g.1
    unfold whl
    rw [if_pos h0]
    exact ⟨by omega, by simpa using h0⟩
  · right
    unfold whl
    rw [if_neg h0]
    exact ⟨rfl, by simpa using h0⟩


set_option maxRecDepth 100000 in
set_option maxHeartbeats 8000000 in
theorem walk {H : Type} (enc : TypeId × Value → H) (w : World) (hT : Tbs w) (base : Nat) (v0 : Value) (d0 : DataW H) (p0 : List MemPlace) (g0 : Value.okWide Tryd.prog w .any base 22 v0) (h0 : DataW.Trod enc Tryd.prog w 0 (fun _ => true) true 22 v0 d0 p0) (v1 : Value) (d1 : DataW H) (p1 : List MemPlace) (g1 : Value.okWide Tryd.prog w .any base 3 v1) (h1 : DataW.Trod enc Tryd.prog w 0 (fun _ => true) true 3 v1 d1 p1) :
    Calls Tryd.prog 4 #[v0, v1] w fun e w' => e = .returned (.bool true) ∧ Below w.heap.size w w' := by
  obtain ⟨a, n, m, z, rfl, hnm, hz, hby, hnil⟩ := open_bytes g0 h0
  obtain ⟨mo, rfl, t0, t1⟩ := open_i64 g1 h1
  clear g0 h0 g1 h1 t0 t1
  have HT := Lib.hid hT
  clear hT
  by_cases hn : 500 < (n : Int)
  · go_enter Tryd.func4, Tryd.ntmps4
    go_wp2_with fail
    refine (live8_any _ HT.out).mono ?_
    rintro e w1 ⟨rfl, hb⟩
    go_wp2
    go_ret
    exact ⟨rfl, hb⟩
  have HBY := Lib.hid hby
  obtain ⟨kk, ok, hw1, hw2, hko⟩ := whl_ways (vm z (min mo 2097152) 0) (fun h => (vm_nonneg hby h).1)
  have HW := Lib.hid (And.intro hw1 hw2)
  clear hw1 hw2
  clear hby
  go_enter Tryd.func4, Tryd.ntmps4
  go_wp2_with fail
  refine (new_some _ _ _ _ hnm).mono ?_
  rintro e w1 ⟨rb, rfl, hrb, hb1, hr⟩
  go_wp2_with fail
  refine (fread_any _ _ _ _ _ _ _ _ _ _ hr (hz.below hb1) (by omega) (by omega) (Nat.le_refl _) (by omega) HBY.out (HT.out.below hb1)).mono ?_
  rintro e w2 ⟨v2, l, p1, c1, q1, rfl, ho2, hk2, hr2, hs2⟩
  have hbd := Kp.below hb1 (Nat.le_refl _) hk2 hrb
  have HS2 := Lib.hid hs2
  obtain ⟨A2, cc2, rfl⟩ := ho2.slice
  have hbs2 := ho2.bs.2
  clear hs2 hk2 hr hb1 ho2
  go_wp2_with fail
  refine (rfread_any _ _ _ _ _ _ _ _ _ (hz.below hbd) hnil (by omega) (by omega) hnm (by omega) HBY.out).mono ?_
  rintro e w3 ⟨A3, k3, m3, l3, p3, c3, q3, rfl, hb3, hs3, hbs3, hkm3⟩
  obtain ⟨rfl, rfl, rfl, hp3⟩ := hs3.det HS2.out
  have HP3 := Lib.hid hp3
  have hbA := hb3.alloc hb3.size (.cells (cvs (.slice a n m) p3 c3 q3) 44)
  have hC := Blk.new w3 (cvs (.slice a n m) p3 c3 q3) 44
  replace hbd := hbd.trans (hbA.mono hbd.size)
  replace hr2 := hr2.below hbA
  replace hbs2 := hbs2.below hbA
  replace hbs3 := hbs3.alloc (.cells (cvs (.slice a n m) p3 c3 q3) 44)
  clear hs3 hb3 hp3 hbA
  go_wp2_with fail
  generalize w3.alloc (.cells (cvs (.slice a n m) p3 c3 q3) 44) = w4 at *
  generalize w3.heap.size = cb at *
  refine (fget_any _ _ _ _ _ _ (hz.below hbd) hnm (by omega) HBY.out (HT.out.below hbd)).mono ?_
  rintro e w5 ⟨v5, l5, nn, c5, q5, rfl, ho5, hb5, hst5⟩
  obtain ⟨rfl, rfl, rfl, hn1, hn2⟩ := get_det HS2.out hst5
  have HN1 := Lib.hid hn1
  have HN2 := Lib.hid hn2
  obtain ⟨A5, cc5, rfl⟩ := ho5.slice
  have hbA := hb5.alloc hb5.size (.cells #[.int .i64 c5, .int .i64 q5] 42)
  have hF := Blk.new w5 #[.int .i64 c5, .int .i64 q5] 42
  have hbs5 := ho5.bs.2.alloc (.cells #[.int .i64 c5, .int .i64 q5] 42)
  replace hbd := hbd.trans (hbA.mono hbd.size)
  replace hr2 := hr2.below hbA
  replace hbs2 := hbs2.below hbA
  replace hbs3 := hbs3.below hbA
  replace hC := hC.below hbA
  clear hst5 hb5 hbA hn1 hn2 ho5
  go_wp2_with fail
  generalize w5.alloc (.cells #[.int .i64 c5, .int .i64 q5] 42) = w6 at *
  generalize w5.heap.size = fb at *
  have L1 : ∀ w', S2 cb fb (.slice a n m) p3 c5 q5 w' → w'.cell? ⟨cb, 1, none⟩ = some (.int .i64 p3) ∧ w'.cell? ⟨cb, 2, none⟩ = some (.int .i64 c5) ∧ w'.cell? ⟨cb, 3, none⟩ = some (.int .i64 q5) := fun w' h => h.1.c4.2
  have L2 : ∀ w', S2 cb fb (.slice a n m) p3 c5 q5 w' → w'.cell? ⟨fb, 0, none⟩ = some (.int .i64 c5) ∧ w'.cell? ⟨fb, 1, none⟩ = some (.int .i64 q5) := fun w' h => h.2.c2
  have hS : S2 cb fb (.slice a n m) p3 c5 q5 w6.drew := ⟨hC, hF⟩
  replace hbd := hbd.trans ((below_one' _).mono hbd.size)
  have hdr : ∀ w' : World, Below w'.heap.size w' w'.drew := below_one'
  replace hr2 := hr2.below (hdr _)
  replace hbs2 := hbs2.below (hdr _)
  replace hbs3 := hbs3.below (hdr _)
  replace hbs5 := hbs5.below (hdr _)
  clear hC hF hdr
  refine Seq.wp_region_seq (S2 cb fb (.slice a n m) p3 c5 q5) (by kernel_rfl) (by kernel_rfl) hS ?_
  repeat (first | (refine Seq.Seq.skip (by rfl) ?_; (try simp only [Act.put, List.setIfInBounds_toArray, List.set_cons_zero, List.set_cons_succ])) | (refine Seq.Seq.det ?_ (by rfl) (fun w hS => ?_) ?_; rotate_left; ((try dsimp only at hS); go_simp; (try rw [if_pos (by omega)]); with_reducible rfl); (try simp only [Act.put, List.setIfInBounds_toArray, List.set_cons_zero, List.set_cons_succ])))
  refine Seq.Seq.make (by rfl) (by rfl) (fun K Q' hK => ?_)
  go_simp
  go_at_call 16
  refine (same_any _ _ _ _ _ _ l5 _ hbs2 hbs3).mono ?_
  rintro e w' ⟨rfl, rfl⟩
  refine hK.out _ _ (hS) ?_
  clear hK K
  try simp only [Act.put, List.setIfInBounds_toArray, List.set_cons_zero, List.set_cons_succ]
  repeat (first | (refine Seq.Seq.skip (by rfl) ?_; (try simp only [Act.put, List.setIfInBounds_toArray, List.set_cons_zero, List.set_cons_succ])) | (refine Seq.Seq.det ?_ (by rfl) (fun w hS => ?_) ?_; rotate_left; ((try dsimp only at hS); go_simp; (try rw [if_pos (by omega)]); with_reducible rfl); (try simp only [Act.put, List.setIfInBounds_toArray, List.set_cons_zero, List.set_cons_succ])))
  refine Seq.Seq.make (by rfl) (by rfl) (fun K Q' hK => ?_)
  go_simp
  go_at_call 24
  refine (fault_any _ _ _ _ _ _ hr2).mono ?_
  rintro e w7 ⟨rfl, hb7⟩
  replace hS := hS.below hb7
  replace hbd := hbd.trans (hb7.mono hbd.size)
  replace hr2 := hr2.below hb7
  replace hbs3 := hbs3.below hb7
  replace hbs5 := hbs5.below hb7
  refine hK.out _ _ (hS) ?_
  clear hK K
  try simp only [Act.put, List.setIfInBounds_toArray, List.set_cons_zero, List.set_cons_succ]
  clear hb7 hbs2
  repeat (first | (refine Seq.Seq.skip (by rfl) ?_; (try simp only [Act.put, List.setIfInBounds_toArray, List.set_cons_zero, List.set_cons_succ])) | (refine Seq.Seq.det ?_ (by rfl) (fun w hS => ?_) ?_; rotate_left; ((try dsimp only at hS); go_simp; (try rw [if_pos (by omega)]); with_reducible rfl); (try simp only [Act.put, List.setIfInBounds_toArray, List.set_cons_zero, List.set_cons_succ])))
  refine Seq.Seq.make (by rfl) (by rfl) (fun K Q' hK => ?_)
  go_simp
  go_at_call 16
  refine (same_any _ _ _ _ _ _ l5 _ hbs5 hbs3).mono ?_
  rintro e w' ⟨rfl, rfl⟩
  refine hK.out _ _ (hS) ?_
  clear hK K
  try simp only [Act.put, List.setIfInBounds_toArray, List.set_cons_zero, List.set_cons_succ]
  repeat (first | (refine Seq.Seq.skip (by rfl) ?_; (try simp only [Act.put, List.setIfInBounds_toArray, List.set_cons_zero, List.set_cons_succ])) | (refine Seq.Seq.det ?_ (by rfl) (fun w hS => ?_) ?_; rotate_left; ((try dsimp only at hS); go_simp; (try rw [if_pos (by omega)]); with_reducible rfl); (try simp only [Act.put, List.setIfInBounds_toArray, List.set_cons_zero, List.set_cons_succ])))
  refine Seq.Seq.nil ?_
  clear hbs3 hbs5
  go_wp2
  have hdr : ∀ w' : World, Below w'.heap.size w' w'.drew := below_one'
  replace hS := hS.below (hdr _)
  replace hbd := hbd.trans ((hdr _).mono hbd.size)
  replace hr2 := hr2.below (hdr _)
  clear hdr
  refine Seq.wp_region_seq (S2 cb fb (.slice a n m) p3 c5 q5) (by kernel_rfl) (by kernel_rfl) hS ?_
  by_cases hc : c5 = 0
  · have hb : (c5 != 0) = false := by simpa using hc
    have hb' : (c5 == 0) = true := by simpa using hc
    have HN := Lib.hid (HN1.out hc)
    have HPP := Lib.hid (HP3.out hc)
    clear hc
    rw [HN.out, ← HPP.out]
    repeat (first | (refine Seq.Seq.skip (by rfl) ?_; (try simp only [Act.put, List.setIfInBounds_toArray, List.set_cons_zero, List.set_cons_succ])) | (refine Seq.Seq.det ?_ (by rfl) (fun w hS => ?_) ?_; rotate_left; ((try dsimp only at hS); go_simp; (try rw [if_pos (by omega)]); with_reducible rfl); (try simp only [Act.put, List.setIfInBounds_toArray, List.set_cons_zero, List.set_cons_succ])))
    refine Seq.Seq.make (by rfl) (by rfl) (fun K Q' hK => ?_)
    go_simp
    go_at_call 25
    refine (at_any _ _ _ _ _ _ hr2).mono ?_
    rintro e w' ⟨rfl, rfl⟩
    rw [← HPP.out]
    refine hK.out _ _ (hS) ?_
    clear hK K
    try simp only [Act.put, List.setIfInBounds_toArray, List.set_cons_zero, List.set_cons_succ]
    repeat (first | (refine Seq.Seq.skip (by rfl) ?_; (try simp only [Act.put, List.setIfInBounds_toArray, List.set_cons_zero, List.set_cons_succ])) | (refine Seq.Seq.det ?_ (by rfl) (fun w hS => ?_) ?_; rotate_left; ((try dsimp only at hS); go_simp; (try rw [if_pos (by omega)]); with_reducible rfl); (try simp only [Act.put, List.setIfInBounds_toArray, List.set_cons_zero, List.set_cons_succ])))
    refine Seq.Seq.nil ?_
    clear hS
    go_wp2_with fail
    refine (fwhole_any _ _ _ _ _ _ (hz.below hbd) hnm (by omega) HBY.out).mono ?_
    rw [HW.out.1, HW.out.2]
    rintro e w20 ⟨rfl, hb20⟩
    replace hbd := hbd.trans (hb20.mono hbd.size)
    clear hb20
    go_wp2_with fail
    refine (rwhole_any _ _ _ _ _ _ (hz.below hbd) hnm (by omega) HBY.out).mono ?_
    rw [HW.out.1]
    rintro e w21 ⟨rfl, hb21⟩
    replace hbd := hbd.trans (hb21.mono hbd.size)
    clear hb21
    rcases hko with ⟨hk0, rfl⟩ | ⟨rfl, rfl⟩
    · go_wp2_with fail
      refine (live8_any _ (HT.out.below hbd)).mono ?_
      rintro e w22 ⟨rfl, hb22⟩
      go_wp2
      go_ret
      exact ⟨rfl, hbd.trans (hb22.mono hbd.size)⟩
    · go_wp2_with fail
      refine (live8_any _ (HT.out.below hbd)).mono ?_
      rintro e w22 ⟨rfl, hb22⟩
      go_wp2
      go_ret
      exact ⟨rfl, hbd.trans (hb22.mono hbd.size)⟩
  · have hb : (c5 != 0) = true := by simpa using hc
    have hb' : (c5 == 0) = false := by simpa using hc
    have HN := Lib.hid (HN2.out hc)
    clear hc
    rw [HN.out]
    repeat (first | (refine Seq.Seq.skip (by rfl) ?_; (try simp only [Act.put, List.setIfInBounds_toArray, List.set_cons_zero, List.set_cons_succ])) | (refine Seq.Seq.det ?_ (by rfl) (fun w hS => ?_) ?_; rotate_left; ((try dsimp only at hS); go_simp; (try rw [if_pos (by omega)]); with_reducible rfl); (try simp only [Act.put, List.setIfInBounds_toArray, List.set_cons_zero, List.set_cons_succ])))
    refine Seq.Seq.nil ?_
    clear hS
    go_wp2_with fail
    refine (fwhole_any _ _ _ _ _ _ (hz.below hbd) hnm (by omega) HBY.out).mono ?_
    rw [HW.out.1, HW.out.2]
    rintro e w20 ⟨rfl, hb20⟩
    replace hbd := hbd.trans (hb20.mono hbd.size)
    clear hb20
    go_wp2_with fail
    refine (rwhole_any _ _ _ _ _ _ (hz.below hbd) hnm (by omega) HBY.out).mono ?_
    rw [HW.out.1]
    rintro e w21 ⟨rfl, hb21⟩
    replace hbd := hbd.trans (hb21.mono hbd.size)
    clear hb21
    rcases hko with ⟨hk0, rfl⟩ | ⟨rfl, rfl⟩
    · go_wp2_with fail
      refine (live8_any _ (HT.out.below hbd)).mono ?_
      rintro e w22 ⟨rfl, hb22⟩
      go_wp2
      go_ret
      exact ⟨rfl, hbd.trans (hb22.mono hbd.size)⟩
    · go_wp2_with fail
      refine (live8_any _ (HT.out.below hbd)).mono ?_
      rintro e w22 ⟨rfl, hb22⟩
      go_wp2
      go_ret
      exact ⟨rfl, hbd.trans (hb22.mono hbd.size)⟩

theorem tabs_of {W : World} (h : laidMetH Tryd.prog Rows.frameReadsRow.laid W) : Tbs W := by
  rw [MakeChecks.laidMetH_plain _ _ _ (by kernel_rfl)] at h
  exact tbs_of_laid h
theorem door_met (os : Os) (args : Array Value) : laidMetH Tryd.prog Rows.frameReadsRow.laid ((World.doorLaid Tryd.prog 4000 os).forCall (fun _ _ => 0) ⟨#[], args, []⟩).memory :=
  laidMetH_of_parts3 (fuel := 8) (laidMet_of_run' 8 (by kernel_rfl) (by kernel_rfl)) (by kernel_rfl) (by kernel_rfl)
set_option maxRecDepth 100000 in
theorem lifted (os : Os) (started : os.Started) (H : Type) (enc : TypeId × Value → H) :
    ReturnsInHanded {} Tryd.checked os 4 .any (fun w args => (Rows.frameReadsSpec.pre enc Tryd.prog Tryd.f4 [] false w args ∧ laidMetH Tryd.prog Rows.frameReadsRow.laid w) ∧ sizedMet enc Tryd.prog Tryd.f4 (OpenSpec.ofChange Rows.frameReadsSpec) false w args)
      (Rows.frameReadsSpec.post enc Tryd.prog Tryd.f4 false true false false) := by
  refine returnsInHanded_of_change_and (C := Tryd.checked) (X := fun w _ => laidMetH Tryd.prog Rows.frameReadsRow.laid w) (fun _ _ _ hh h => h.of_heap hh) own started (by kernel_rfl) Tryd.func4
    (ChangeSpec.witness_shaped (enc := enc) (C := Tryd.checked) (os := os) (X := fun w _ => laidMetH Tryd.prog Rows.frameReadsRow.laid w) false (World.doorLaid Tryd.prog 4000 os) #[.slice none 0 0, .int .i64 0] 8 rfl (World.shaped_of_RefB (by kernel_rfl) (by kernel_rfl)) (by kernel_rfl) (by kernel_rfl) (by kernel_rfl) (door_met os _)) ?_
  intro W base args ds gs before hval0 hW _ _ hL _
  have hval : ∀ (j : Nat) t v, Tryd.f4.params[j]? = some t → args[j]? = some v → Value.okWide Tryd.prog W .any base t v := hval0
  have hW' := hW
  obtain ⟨p, q, hA0, hV, rfl, hfz, hnd⟩ := hW
  have hA : DataW.TrodAll enc Tryd.prog W 0 (fun _ => true) true Tryd.f4.params.toList args.toList ds p := hA0
  rw [Tryd.params4] at hA hval
  obtain ⟨v0, vs0, d0, ds0, p0, q0, hargs, rfl, rfl, h0, r0⟩ := trodAll_cons hA
  obtain ⟨v1, vs1, d1, ds1, p1, q1, rfl, rfl, rfl, h1, r1⟩ := trodAll_cons r0
  obtain ⟨rfl, rfl, rfl⟩ := trodAll_nil r1
  obtain rfl : args = #[v0, v1] := by cases args; simp_all
  obtain ⟨rfl, rfl⟩ := trodVars_none hV
  have lt0 : ∀ x ∈ p0, x.block < W.heap.size := by obtain ⟨m, hm⟩ := h0; exact DataW.trod_lt m _ _ _ hm
  have lt1 : ∀ x ∈ p1, x.block < W.heap.size := by obtain ⟨m, hm⟩ := h1; exact DataW.trod_lt m _ _ _ hm
  clear hA0 hval0
  refine (walk enc W (tabs_of hL) base v0 d0 p0 (hval 0 22 v0 rfl rfl) h0 v1 d1 p1 (hval 1 3 v1 rfl rfl) h1).mono fun e W' ⟨he, bel⟩ => ?_
  subst he
  exact ⟨_, rfl, _, _, _, [], _, [], hW', trodAll_mk1 (shut_bool Tryd.underlying4 _), (trodAll_cons_mk (Below.trod laidOut (by kernel_rfl) (of_decide_eq_true (by kernel_rfl)) h0 bel lt0) (trodAll_cons_mk (Below.trod laidOut (by kernel_rfl) (of_decide_eq_true (by kernel_rfl)) h1 bel lt1) trodAll_mk0)), rfl, bel.frame _, fun h => by cases h⟩

theorem over : Rows.FrameReadsSaid :=
  OpenClaim.holds_of_wide 4 Tryd.f4 rfl rfl rfl rfl rfl rfl rfl ⟨rfl, rfl, rfl, rfl, rfl⟩ rfl rfl rfl rfl rfl (by kernel_rfl) Tryd.func4 (by kernel_rfl)
    (of_decide_eq_true (by kernel_rfl)) (by unfold Func.isWrapper; first | (rw [if_pos (by decide +kernel)]; kernel_rfl) | (rw [if_neg (by decide +kernel)]; exact ⟨rfl, rfl⟩))
    (fun os started H enc _ => lifted os started H enc)

/-- THE TIED CARD. -/
theorem proved : Rows.FrameReadsCardSaid :=
  Claim7.holds_tied_plain_at .later [] [.data, .data] true Rows.frameReadsCard.stood.harness Rows.frameReadsCard.stood.looks
    over (fun _ h => by cases h) (by kernel_rfl) (fun _ h => by cases h) frameReads_row_tie rfl ⟨rfl, rfl⟩ (by kernel_rfl) rfl
    (fun f fn hf hfn => by
      obtain rfl : f = 4 := Option.some.inj ((show Tryd.prog.funcNamed "tholepin/tholepinlaw08.FrameReads" = some 4 by kernel_rfl).symm.trans hf) |>.symm
      obtain rfl : fn = Tryd.f4 := (Option.some.inj (Tryd.func4.symm.trans hfn)).symm
      exact ⟨by kernel_rfl, fun j t ht => by
        rw [Tryd.params4] at ht
        have hm : t ∈ [22, 3] := by simpa using Array.mem_of_getElem? ht
        have hall : ([22, 3].all fun u => !Tryd.prog.wantsStandIn u) = true := by kernel_rfl
        exact (show Tryd.prog.wantsStandIn t = false by simpa using List.all_eq_true.1 hall t hm)⟩)
    (by kernel_rfl)
#print axioms proved
end Go.Proofs.YtophdhbemidomaaDoor.frameReads
