/- CrcParts: called with any rows of bytes, the law returns true; condition: crc's two tables read as the program's text lays them, to which the card ties them. -/
import Derived.Test.YtglacblccgainaaDoorRows
import Derived.Test.YtglacblccgainaaDoorCrcP
import Derived.Test.YtglacblccgainaaDoorCrcT
import Derived.Test.YtglacblccgainaaDoorK1
import Derived.Deep.Cut
import Derived.ProofKit
import Derived.OpenShut
import Derived.ShutString
import Derived.ChangeOld
import Derived.Test.YtglacblccgainaaDoorCards
import Derived.Test.YtglacblccgainaaDoorTie
import Derived.LaidMore
import Derived.Stop.Joined
import Derived.Deep.Slices
import Derived.SevenTiedAt
namespace Go.Proofs.YtglacblccgainaaDoor.crcParts
open Go.ChangeShapes Go.WideShapes Go.ChangeAt Go.RowKit
open Go.ChangeMaps (open_string shut_string)
set_option linter.unusedVariables false

theorem own : ownKnob Tryd.prog.godebug = none := by kernel_rfl
theorem laidOut : laidOutB Tryd.prog = true := by kernel_rfl
open Cur Mem CrcM


/-- What lies behind k rounds. -/
def L3 (W wr : World) (R : List (List Int)) (k : Nat) (v : Value) : Prop := Own wr W.heap.size v (flat R k) ∧ Below W.heap.size W wr
theorem sm_fd (z : List Int) : sm z = 4294967295 ^^^ fd 4294967295 z := rfl

set_option maxRecDepth 100000 in
set_option maxHeartbeats 8000000 in
theorem walk {H : Type} (enc : TypeId × Value → H) (w : World) (hT : Tbs w) (base : Nat) (v0 : Value) (d0 : DataW H) (p0 : List MemPlace) (g0 : Value.okWide Tryd.prog w .any base 33 v0) (h0 : DataW.Trod enc Tryd.prog w 0 (fun _ => true) true 33 v0 d0 p0) :
    Calls Tryd.prog 4 #[v0] w fun e w' => e = .returned (.bool true) ∧ Below w.heap.size w w' := by
  obtain ⟨A, n, m, rfl, hnm, hr⟩ := open_rows g0 h0
  clear g0 h0
  obtain ⟨R, hR⟩ := rows_list hr
  have HR := Lib.hid hR
  have HRL := Lib.hid hR.1
  have HT := Lib.hid hT
  clear hT hr hR
  go_enter Tryd.func4, Tryd.ntmps4
  go_wp2
  go_loop [3] (fun i => ∃ k : Nat, k ≤ n ∧ k ≤ 40 ∧ i = .int .i64 k ∧ Hid (∀ j, j < k → (R.getD j []).length ≤ 200)) (fun i => n - (intOf i).toNat)
  case atStart => exact ⟨0, by omega, by omega, rfl, Lib.hid (fun j h => absurd h (by omega))⟩
  case round =>
    obtain ⟨k, hk, hk40, rfl, H2⟩ := hrel
    by_cases hlt : k < n ∧ k < 40
    · obtain ⟨l1, l2⟩ := hlt
      obtain ⟨b, o, Ar, Lr, Cr, rfl, hc, hbs, hby, hnil, hle⟩ := HR.out.2 k l1
      have k1 : (k : Int) < n := by omega
      have k2 : (k : Int) < 40 := by omega
      by_cases hLr : 200 < (Lr : Int)
      · clear hby hnil
        go_wp2_with fail
        refine (live7_any _ HT.out).mono ?_
        rintro e w1 ⟨rfl, hb⟩
        go_wp2
        go_ret
        exact ⟨rfl, hb⟩
      · have H3 : Hid (∀ j, j < k + 1 → (R.getD j []).length ≤ 200) := Lib.hid (fun j hj => by
          by_cases e : j = k
          · subst e; rw [hbs.1]; omega
          · exact H2.out j (by omega))
        clear hby hnil
        go_wp2
        go_round
        case rel => exact ⟨k + 1, by omega, by omega, by go_num, H3⟩
        case measure => simp [intOf]; omega
    · by_cases hn : 40 < n
      · have hn2 : 40 < (n : Int) := by omega
        have hk2 : ¬ (k : Int) < 40 := by omega
        have hk3 : (k : Int) < n := by omega
        clear hlt
        go_wp2_with fail
        refine (live7_any _ HT.out).mono ?_
        rintro e w1 ⟨rfl, hb⟩
        go_wp2
        go_ret
        exact ⟨rfl, hb⟩
      · obtain rfl : k = n := by omega
        have hn2 : ¬ 40 < (k : Int) := by omega
        have hd : decide ((k : Int) < k) = false := by simp
        clear hlt
        have HLEN : Hid (∀ j, j ≤ k → (flat R j).length ≤ 8000) := Lib.hid (fun j hj => by
          have := flat_len (R := R) (fun i hi => H2.out i (by rw [HRL.out] at hi; exact hi)) j (by rw [HRL.out]; exact hj)
          omega)
        go_wp2_with fail
        refine (cbegin_any _).mono ?_
        rintro e w' ⟨rfl, rfl⟩
        go_wp2
        go_loopw [4, 5, 6, 7] (fun va st sv i wr => ∃ j : Nat, j ≤ k ∧ i = .int .i64 j ∧ st = .int .u32 (fd 4294967295 (flat R j) : Nat) ∧ sv = .int .u32 (sm (flat R j) : Nat) ∧ L3 w wr R j va) (fun _ _ _ i _ => k - (intOf i).toNat)
        case atStart => exact ⟨0, by omega, rfl, rfl, by rw [show flat R 0 = [] from rfl, sm_nil]; rfl, Own.nil _ _, Below.refl _ _⟩
        case round =>
          obtain ⟨j, hj, rfl, rfl, rfl, ho, hbd⟩ := hrel
          have hfb := flat_byte HR.out j hj
          have hsl := sm_lt hfb
          have hfl := fd_lt (s := 4294967295) (by decide) hfb
          obtain ⟨A4, c4, rfl⟩ := ho.slice
          by_cases hlt : j < k
          · have HN1 : Hid (flat R (j + 1) = flat R j ++ R.getD j []) := Lib.hid (flat_succ (by rw [HRL.out]; exact hlt))
            have HN2 : Hid (fd 4294967295 (flat R (j + 1)) = fd (fd 4294967295 (flat R j)) (R.getD j [])) := Lib.hid (by rw [HN1.out, fd_append])
            have HN3 : Hid (sm (flat R (j + 1)) = csn (8 * (R.getD j []).length) (sm (flat R j)) ^^^ sm (R.getD j [])) := Lib.hid (by rw [HN1.out, sm_append])
            have HN4 : Hid (sm (flat R (j + 1)) = 4294967295 ^^^ fd 4294967295 (flat R (j + 1))) := Lib.hid rfl
            have hfb1 := flat_byte HR.out (j + 1) hlt
            have HFB1 := Lib.hid hfb1
            have hfl1 := fd_lt (s := 4294967295) (by decide) hfb1
            have HL1 := Lib.hid (HLEN.out (j + 1) hlt)
            have HL0 := Lib.hid (HLEN.out j hj)
            have hlr := H2.out j hlt
            obtain ⟨b, o, Ar, Lr, Cr, rfl, hc, hbs, hby, hnil, hle⟩ := HR.out.2 j hlt
            have C : ∀ w', Below w.heap.size w w' → w'.cell? ⟨b, o + j, none⟩ = some (.slice Ar Lr Cr) := fun w' h => (h.cell (lt_of_cell hc)).trans hc
            have HZ := Lib.hid hbs.1
            generalize R.getD j [] = z at *
            have HB := Lib.hid hby
            have hzl := sm_lt hby
            have hLr : Lr ≤ 200 := by rw [← hbs.1]; exact hlr
            have HN3' : Hid (sm (flat R (j + 1)) = csn (8 * ((Lr : Nat) : Int).toNat) (sm (flat R j)) ^^^ sm z) := Lib.hid (by rw [HN3.out, HZ.out]; rfl)
            have C0 := C wr hbd
            have hbs1 := hbs.below hbd
            have hB := hbd.size
            have j1 : (j : Int) < k := by omega
            have j0 : (0 : Int) ≤ j := by omega
            clear hfb hfb1 hlr hby hc HN3
            go_upto_region 14 with (at_builtin; go_must (refine list_append_gr rfl (.tmp 36) (.tmp 40) rfl w.heap.size _ (flat R j) rfl ho _ _ _ _ rfl hbs1 hnil (by have := HL0.out; omega) hB ?_; intro v1 w1 hown1 hg1 hgr1; have hb1 := Own.belowOf hbd hB ho hg1; rw [← HN1.out] at hown1; clear hg1 hgr1 ho hbd hbs1 hB C0))
            have C1 := C w1 hb1
            have hlt1 := hb1.size
            go_wp2_with fail
            refine (cadd_any _ _ _ _ z _ hfl (hbs.below hb1) (by omega) HB.out (HT.out.below hb1)).mono ?_
            rintro e w2 ⟨rfl, k2, rfl⟩
            rw [← HN2.out]
            have hb2 := below_drewN hb1 k2
            have hown2 : Own (w1.drewN k2) w.heap.size _ _ := hown1
            clear hb1 hown1 C1
            generalize w1.drewN k2 = w2 at *
            generalize fd 4294967295 (flat R j) = t0 at *
            generalize ht1 : fd 4294967295 (flat R (j + 1)) = t1 at *
            have HT1 := Lib.hid ht1
            clear ht1
            generalize sm (flat R j) = s0 at *
            generalize hs1 : sm (flat R (j + 1)) = s1 at *
            have HS1 := Lib.hid hs1
            clear hs1
            obtain ⟨A5, c5, rfl⟩ := hown2.slice
            go_wp2
            have hS : Below w.heap.size w w2.drew := hb2.trans ((below_one' _).mono hb2.size)
            have hown3 : Own w2.drew w.heap.size _ _ := hown2
            clear hb2 hown2
            refine Seq.wp_region_seq (fun w' => Below w.heap.size w w') (by kernel_rfl) (by kernel_rfl) hS ?_
            repeat (first | (refine Seq.Seq.skip (by rfl) ?_; (try simp only [Act.put, List.setIfInBounds_toArray, List.set_cons_zero, List.set_cons_succ])) | (refine Seq.Seq.det ?_ (by rfl) (fun w hS => ?_) ?_; rotate_left; ((try dsimp only at hS); go_simp; (try rw [if_pos (by omega)]); with_reducible rfl); (try simp only [Act.put, List.setIfInBounds_toArray, List.set_cons_zero, List.set_cons_succ])))
            refine Seq.Seq.make (by rfl) (by rfl) (fun K Q' hK => ?_)
            go_simp
            go_at_call 10
            refine (rsum_any _ _ _ z _ (hbs.below hS) (by omega) HB.out).mono ?_
            rintro e w' ⟨rfl, rfl⟩
            refine hK.out _ _ (hS) ?_
            clear hK K
            try simp only [Act.put, List.setIfInBounds_toArray, List.set_cons_zero, List.set_cons_succ]
            repeat (first | (refine Seq.Seq.skip (by rfl) ?_; (try simp only [Act.put, List.setIfInBounds_toArray, List.set_cons_zero, List.set_cons_succ])) | (refine Seq.Seq.det ?_ (by rfl) (fun w hS => ?_) ?_; rotate_left; ((try dsimp only at hS); go_simp; (try rw [if_pos (by omega)]); with_reducible rfl); (try simp only [Act.put, List.setIfInBounds_toArray, List.set_cons_zero, List.set_cons_succ])))
            refine Seq.Seq.make (by rfl) (by rfl) (fun K Q' hK => ?_)
            go_simp
            go_at_call 18
            refine (cjoin_any s0 (sm z) (Lr : Int) _ hsl hzl (by omega)).mono ?_
            rintro e w3 ⟨rfl, hb3⟩
            rw [← HN3'.out]
            have hS3 := hS.trans (hb3.mono hS.size)
            have hown4 := hown3.below hb3
            refine hK.out _ _ (hS3) ?_
            clear hK K
            try simp only [Act.put, List.setIfInBounds_toArray, List.set_cons_zero, List.set_cons_succ]
            clear hS hown3 hb3
            repeat (first | (refine Seq.Seq.skip (by rfl) ?_; (try simp only [Act.put, List.setIfInBounds_toArray, List.set_cons_zero, List.set_cons_succ])) | (refine Seq.Seq.det ?_ (by rfl) (fun w hS => ?_) ?_; rotate_left; ((try dsimp only at hS); go_simp; (try rw [if_pos (by omega)]); with_reducible rfl); (try simp only [Act.put, List.setIfInBounds_toArray, List.set_cons_zero, List.set_cons_succ])))
            refine Seq.Seq.nil ?_
            have hbs5 := hown4.bs.2
            go_wp2_with fail
            refine (rsum_any _ _ _ (flat R (j + 1)) _ hbs5 (by have := HL1.out; omega) HFB1.out).mono ?_
            rintro e w' ⟨rfl, rfl⟩
            rw [HS1.out]
            go_wp2_with fail
            refine (cend_any t1 _ hfl1).mono ?_
            rintro e w' ⟨rfl, rfl⟩
            rw [← HN4.out]
            go_wp2
            go_roundw
            case rel => exact ⟨j + 1, hlt, by go_num, by rw [HT1.out], by rw [HS1.out], hown4, hS3⟩
            case measure => simp [intOf]; omega
          · obtain rfl : j = k := by omega
            have HFB := Lib.hid hfb
            have HL0 := Lib.hid (HLEN.out j hj)
            have hbs5 := ho.bs.2
            have hd2 : ¬ (j : Int) < j := by omega
            clear hfb hlt
            go_wp2_with fail
            refine (parts_any _ _ _ R _ (HR.out.below hbd) (by omega) (fun i hi => H2.out i (by rw [HRL.out] at hi; exact hi)) (HT.out.below hbd)).mono ?_
            rintro e w1 ⟨rfl, k1, rfl⟩
            have hbd1 := below_drewN hbd k1
            go_wp2_with fail
            refine (rsum_any _ _ _ (flat R j) _ (hbs5.drewN k1) (by have := HL0.out; omega) HFB.out).mono ?_
            rintro e w' ⟨rfl, rfl⟩
            go_wp2_with fail
            refine (live7_any _ (HT.out.below hbd1)).mono ?_
            rintro e w4 ⟨rfl, hb4⟩
            go_wp2
            go_ret
            exact ⟨rfl, hbd1.trans (hb4.mono hbd1.size)⟩

theorem tabs_of {W : World} (h : laidMetH Tryd.prog Rows.crcPartsRow.laid W) : Tbs W := by
  rw [MakeChecks.laidMetH_plain _ _ _ (by kernel_rfl)] at h
  exact tbs_of_laid h
theorem door_met (os : Os) (args : Array Value) : laidMetH Tryd.prog Rows.crcPartsRow.laid ((World.doorLaid Tryd.prog 4000 os).forCall (fun _ _ => 0) ⟨#[], args, []⟩).memory :=
  laidMetH_of_parts3 (fuel := 8) (laidMet_of_run' 8 (by kernel_rfl) (by kernel_rfl)) (by kernel_rfl) (by kernel_rfl)
set_option maxRecDepth 100000 in
theorem lifted (os : Os) (started : os.Started) (H : Type) (enc : TypeId × Value → H) :
    ReturnsInHanded {} Tryd.checked os 4 .any (fun w args => (Rows.crcPartsSpec.pre enc Tryd.prog Tryd.f4 [] false w args ∧ laidMetH Tryd.prog Rows.crcPartsRow.laid w) ∧ sizedMet enc Tryd.prog Tryd.f4 (OpenSpec.ofChange Rows.crcPartsSpec) false w args)
      (Rows.crcPartsSpec.post enc Tryd.prog Tryd.f4 false true false false) := by
  refine returnsInHanded_of_change_and (C := Tryd.checked) (X := fun w _ => laidMetH Tryd.prog Rows.crcPartsRow.laid w) (fun _ _ _ hh h => h.of_heap hh) own started (by kernel_rfl) Tryd.func4
    (ChangeSpec.witness_shaped (enc := enc) (C := Tryd.checked) (os := os) (X := fun w _ => laidMetH Tryd.prog Rows.crcPartsRow.laid w) false (World.doorLaid Tryd.prog 4000 os) #[.slice none 0 0] 8 rfl (World.shaped_of_RefB (by kernel_rfl) (by kernel_rfl)) (by kernel_rfl) (by kernel_rfl) (by kernel_rfl) (door_met os _)) ?_
  intro W base args ds gs before hval0 hW _ _ hL _
  have hval : ∀ (j : Nat) t v, Tryd.f4.params[j]? = some t → args[j]? = some v → Value.okWide Tryd.prog W .any base t v := hval0
  have hW' := hW
  obtain ⟨p, q, hA0, hV, rfl, hfz, hnd⟩ := hW
  have hA : DataW.TrodAll enc Tryd.prog W 0 (fun _ => true) true Tryd.f4.params.toList args.toList ds p := hA0
  rw [Tryd.params4] at hA hval
  obtain ⟨v0, vs0, d0, ds0, p0, q0, hargs, rfl, rfl, h0, r0⟩ := trodAll_cons hA
  obtain ⟨rfl, rfl, rfl⟩ := trodAll_nil r0
  obtain rfl : args = #[v0] := by cases args; simp_all
  obtain ⟨rfl, rfl⟩ := trodVars_none hV
  have lt0 : ∀ x ∈ p0, x.block < W.heap.size := by obtain ⟨m, hm⟩ := h0; exact DataW.trod_lt m _ _ _ hm
  clear hA0 hval0
  refine (walk enc W (tabs_of hL) base v0 d0 p0 (hval 0 33 v0 rfl rfl) h0).mono fun e W' ⟨he, bel⟩ => ?_
  subst he
  exact ⟨_, rfl, _, _, _, [], _, [], hW', trodAll_mk1 (shut_bool Tryd.underlying4 _), (trodAll_cons_mk (Below.trod laidOut (by kernel_rfl) (of_decide_eq_true (by kernel_rfl)) h0 bel lt0) trodAll_mk0), rfl, bel.frame _, fun h => by cases h⟩

theorem over : Rows.CrcPartsSaid :=
  OpenClaim.holds_of_wide 4 Tryd.f4 rfl rfl rfl rfl rfl rfl rfl ⟨rfl, rfl, rfl, rfl, rfl⟩ rfl rfl rfl rfl rfl (by kernel_rfl) Tryd.func4 (by kernel_rfl)
    (of_decide_eq_true (by kernel_rfl)) (by unfold Func.isWrapper; first | (rw [if_pos (by decide +kernel)]; kernel_rfl) | (rw [if_neg (by decide +kernel)]; exact ⟨rfl, rfl⟩))
    (fun os started H enc _ => lifted os started H enc)

/-- THE TIED CARD. -/
theorem proved : Rows.CrcPartsCardSaid :=
  Claim7.holds_tied_plain_at .later [] [.data, .data] true Rows.crcPartsCard.stood.harness Rows.crcPartsCard.stood.looks
    over (fun _ h => by cases h) (by kernel_rfl) (fun _ h => by cases h) crcParts_row_tie rfl ⟨rfl, rfl⟩ (by kernel_rfl) rfl
    (fun f fn hf hfn => by
      obtain rfl : f = 4 := Option.some.inj ((show Tryd.prog.funcNamed "tholepin/tholepinlaw07.CrcParts" = some 4 by kernel_rfl).symm.trans hf) |>.symm
      obtain rfl : fn = Tryd.f4 := (Option.some.inj (Tryd.func4.symm.trans hfn)).symm
      exact ⟨by kernel_rfl, fun j t ht => by
        rw [Tryd.params4] at ht
        have hm : t ∈ [33] := by simpa using Array.mem_of_getElem? ht
        have hall : ([33].all fun u => !Tryd.prog.wantsStandIn u) = true := by kernel_rfl
        exact (show Tryd.prog.wantsStandIn t = false by simpa using List.all_eq_true.1 hall t hm)⟩)
    (by kernel_rfl)
#print axioms proved
end Go.Proofs.YtglacblccgainaaDoor.crcParts
