/- CrcTells: called with any bytes, any int and any number, the law returns true; condition: crc's two tables read as the program's text lays them, to which the card ties them. -/
import Derived.Test.YtglacblccgainaaDoorRows
import Derived.Test.YtglacblccgainaaDoorK7
import Derived.Test.YtglacblccgainaaDoorCrcT
import Derived.Test.YtglacblccgainaaDoorK1
import Derived.ProofKit
import Derived.OpenShut
import Derived.ShutString
import Derived.ChangeOld
import Derived.Test.YtglacblccgainaaDoorCards
import Derived.Test.YtglacblccgainaaDoorTie
import Derived.LaidMore
import Derived.Stop.Joined
import Derived.Deep.Slices
import Derived.SevenTiedAt
namespace Go.Proofs.YtglacblccgainaaDoor.crcTells
open Go.ChangeShapes Go.WideShapes Go.ChangeAt Go.RowKit
open Go.ChangeMaps (open_string shut_string)
set_option linter.unusedVariables false

theorem own : ownKnob Tryd.prog.godebug = none := by kernel_rfl
theorem laidOut : laidOutB Tryd.prog = true := by kernel_rfl
open Cur Mem CrcM


set_option maxRecDepth 100000 in
set_option maxHeartbeats 8000000 in
theorem walk {H : Type} (enc : TypeId × Value → H) (w : World) (hT : Tbs w) (base : Nat) (v0 : Value) (d0 : DataW H) (p0 : List MemPlace) (g0 : Value.okWide Tryd.prog w .any base 23 v0) (h0 : DataW.Trod enc Tryd.prog w 0 (fun _ => true) true 23 v0 d0 p0) (v1 : Value) (d1 : DataW H) (p1 : List MemPlace) (g1 : Value.okWide Tryd.prog w .any base 3 v1) (h1 : DataW.Trod enc Tryd.prog w 0 (fun _ => true) true 3 v1 d1 p1) (v2 : Value) (d2 : DataW H) (p2 : List MemPlace) (g2 : Value.okWide Tryd.prog w .any base 22 v2) (h2 : DataW.Trod enc Tryd.prog w 0 (fun _ => true) true 22 v2 d2 p2) :
    Calls Tryd.prog 6 #[v0, v1, v2] w fun e w' => e = .returned (.bool true) ∧ Below w.heap.size w w' := by
  obtain ⟨A, n, m, z, rfl, hnm, hz, hby, hnil⟩ := open_bytes g0 h0
  obtain ⟨at_, rfl, t0, t1⟩ := open_i64 g1 h1
  obtain ⟨d, rfl, d0, d1⟩ := open_u32 g2 h2
  clear g0 h0 g1 h1 g2 h2
  obtain ⟨d, rfl⟩ := Int.eq_ofNat_of_zero_le d0
  have HT := Lib.hid hT
  clear hT
  by_cases hn : 500 < (n : Int)
  · go_enter Tryd.func6, Tryd.ntmps6
    go_wp2_with fail
    refine (live7_any _ HT.out).mono ?_
    rintro e w1 ⟨rfl, hb⟩
    go_wp2
    go_ret
    exact ⟨rfl, hb⟩
  have hd : d < 2 ^ 32 := by omega
  have HB := Lib.hid hby
  have HL := Lib.hid hz.1
  clear hby d0 d1
  have hn8 : 8 * (n : Int) ≤ 4000 := by omega
  have hn80 : 0 ≤ 8 * (n : Int) := by omega
  rcases Int.lt_or_le at_ (-31) with ht | ht
  · clear t0 t1
    have htl := trn_length d (-(-31)) z
    have htb := trn_byte (d := d) (c := -(-31)) HB.out
    have hbst := sm_burst hd (at_ := -31) HB.out (by rw [HL.out]; omega)
    obtain ⟨T, hT⟩ : ∃ T, T = trn d (-(-31)) z := ⟨_, rfl⟩
    rw [← hT] at htl htb hbst
    have HTE := Lib.hid hT
    have HTB := Lib.hid htb
    have HBST := Lib.hid hbst
    rw [HL.out] at htl
    have HTL := Lib.hid htl
    clear hT htb hbst htl
    go_enter Tryd.func6, Tryd.ntmps6
    go_wp2_with fail
    refine (rturn_any _ _ _ _ (-31) _ _ hz (by omega) HB.out hd (by omega) (by omega)).mono ?_
    rw [← HTE.out]
    rintro e w1 ⟨A1, m1, rfl, hb1, hbs1, _, _, _⟩
    rw [HTL.out] at hbs1 ⊢
    go_wp2_with fail
    refine (sum_any _ _ _ T _ hbs1 (by omega) HTB.out (HT.out.below hb1)).mono ?_
    rintro e w2 ⟨rfl, k1, rfl⟩
    have hb2 := below_drewN hb1 k1
    have hbs2 := hbs1.drewN k1
    go_wp2_with fail
    refine (sum_any _ _ _ z _ (hz.below hb2) (by omega) HB.out (HT.out.below hb2)).mono ?_
    rintro e w2 ⟨rfl, k2, rfl⟩
    have hb3 := below_drewN hb1 (k1 + k2)
    have hbs3 := hbs1.drewN (k1 + k2)
    clear hb1 hb2 hbs1 hbs2
    by_cases hEq : T = z
    · subst hEq
      go_wp2_with fail
      refine (same_any _ _ _ _ _ _ T _ hbs3 (hz.below hb3)).mono ?_
      rintro e w3 ⟨rfl, rfl⟩
      go_wp2_with fail
      refine (live7_any _ (HT.out.below hb3)).mono ?_
      rintro e w4 ⟨rfl, hb4⟩
      go_wp2
      go_ret
      exact ⟨rfl, hb3.trans (hb4.mono hb3.size)⟩
    · have hne : (((sm T : Nat) : Int) == ((sm z : Nat) : Int)) = false := by
        rw [beq_eq_false_iff_ne]
        exact fun e => hEq (HBST.out (by omega))
      have HEQ := Lib.hid hEq
      clear hEq
      generalize sm T = c1 at *
      generalize sm z = c2 at *
      go_wp2_with fail
      refine (same_ne _ _ _ _ _ _ T z _ hbs3 (hz.below hb3) HTB.out HB.out HEQ.out).mono ?_
      rintro e w3 ⟨rfl, rfl⟩
      go_wp2_with fail
      refine (live7_any _ (HT.out.below hb3)).mono ?_
      rintro e w4 ⟨rfl, hb4⟩
      go_wp2
      go_ret
      exact ⟨rfl, hb3.trans (hb4.mono hb3.size)⟩
  · rcases Int.lt_or_le (8 * (n : Int)) at_ with ht2 | ht2
    · clear t0 t1
      have htl := trn_length d (-(8 * (n : Int))) z
      have htb := trn_byte (d := d) (c := -(8 * (n : Int))) HB.out
      have hbst := sm_burst hd (at_ := 8 * (n : Int)) HB.out (by rw [HL.out]; omega)
      obtain ⟨T, hT⟩ : ∃ T, T = trn d (-(8 * (n : Int))) z := ⟨_, rfl⟩
      rw [← hT] at htl htb hbst
      have HTE := Lib.hid hT
      have HTB := Lib.hid htb
      have HBST := Lib.hid hbst
      rw [HL.out] at htl
      have HTL := Lib.hid htl
      clear hT htb hbst htl
      go_enter Tryd.func6, Tryd.ntmps6
      go_wp2_with fail
      refine (rturn_any _ _ _ _ (8 * (n : Int)) _ _ hz (by omega) HB.out hd (by omega) (by omega)).mono ?_
      rw [← HTE.out]
      rintro e w1 ⟨A1, m1, rfl, hb1, hbs1, _, _, _⟩
      rw [HTL.out] at hbs1 ⊢
      go_wp2_with fail
      refine (sum_any _ _ _ T _ hbs1 (by omega) HTB.out (HT.out.below hb1)).mono ?_
      rintro e w2 ⟨rfl, k1, rfl⟩
      have hb2 := below_drewN hb1 k1
      have hbs2 := hbs1.drewN k1
      go_wp2_with fail
      refine (sum_any _ _ _ z _ (hz.below hb2) (by omega) HB.out (HT.out.below hb2)).mono ?_
      rintro e w2 ⟨rfl, k2, rfl⟩
      have hb3 := below_drewN hb1 (k1 + k2)
      have hbs3 := hbs1.drewN (k1 + k2)
      clear hb1 hb2 hbs1 hbs2
      by_cases hEq : T = z
      · subst hEq
        go_wp2_with fail
        refine (same_any _ _ _ _ _ _ T _ hbs3 (hz.below hb3)).mono ?_
        rintro e w3 ⟨rfl, rfl⟩
        go_wp2_with fail
        refine (live7_any _ (HT.out.below hb3)).mono ?_
        rintro e w4 ⟨rfl, hb4⟩
        go_wp2
        go_ret
        exact ⟨rfl, hb3.trans (hb4.mono hb3.size)⟩
      · have hne : (((sm T : Nat) : Int) == ((sm z : Nat) : Int)) = false := by
          rw [beq_eq_false_iff_ne]
          exact fun e => hEq (HBST.out (by omega))
        have HEQ := Lib.hid hEq
        clear hEq
        generalize sm T = c1 at *
        generalize sm z = c2 at *
        go_wp2_with fail
        refine (same_ne _ _ _ _ _ _ T z _ hbs3 (hz.below hb3) HTB.out HB.out HEQ.out).mono ?_
        rintro e w3 ⟨rfl, rfl⟩
        go_wp2_with fail
        refine (live7_any _ (HT.out.below hb3)).mono ?_
        rintro e w4 ⟨rfl, hb4⟩
        go_wp2
        go_ret
        exact ⟨rfl, hb3.trans (hb4.mono hb3.size)⟩
    · clear t0 t1
      have htl := trn_length d (-(at_)) z
      have htb := trn_byte (d := d) (c := -(at_)) HB.out
      have hbst := sm_burst hd (at_ := at_) HB.out (by rw [HL.out]; omega)
      obtain ⟨T, hT⟩ : ∃ T, T = trn d (-(at_)) z := ⟨_, rfl⟩
      rw [← hT] at htl htb hbst
      have HTE := Lib.hid hT
      have HTB := Lib.hid htb
      have HBST := Lib.hid hbst
      rw [HL.out] at htl
      have HTL := Lib.hid htl
      clear hT htb hbst htl
      go_enter Tryd.func6, Tryd.ntmps6
      go_wp2_with fail
      refine (rturn_any _ _ _ _ (at_) _ _ hz (by omega) HB.out hd (by omega) (by omega)).mono ?_
      rw [← HTE.out]
      rintro e w1 ⟨A1, m1, rfl, hb1, hbs1, _, _, _⟩
      rw [HTL.out] at hbs1 ⊢
      go_wp2_with fail
      refine (sum_any _ _ _ T _ hbs1 (by omega) HTB.out (HT.out.below hb1)).mono ?_
      rintro e w2 ⟨rfl, k1, rfl⟩
      have hb2 := below_drewN hb1 k1
      have hbs2 := hbs1.drewN k1
      go_wp2_with fail
      refine (sum_any _ _ _ z _ (hz.below hb2) (by omega) HB.out (HT.out.below hb2)).mono ?_
      rintro e w2 ⟨rfl, k2, rfl⟩
      have hb3 := below_drewN hb1 (k1 + k2)
      have hbs3 := hbs1.drewN (k1 + k2)
      clear hb1 hb2 hbs1 hbs2
      by_cases hEq : T = z
      · subst hEq
        go_wp2_with fail
        refine (same_any _ _ _ _ _ _ T _ hbs3 (hz.below hb3)).mono ?_
        rintro e w3 ⟨rfl, rfl⟩
        go_wp2_with fail
        refine (live7_any _ (HT.out.below hb3)).mono ?_
        rintro e w4 ⟨rfl, hb4⟩
        go_wp2
        go_ret
        exact ⟨rfl, hb3.trans (hb4.mono hb3.size)⟩
      · have hne : (((sm T : Nat) : Int) == ((sm z : Nat) : Int)) = false := by
          rw [beq_eq_false_iff_ne]
          exact fun e => hEq (HBST.out (by omega))
        have HEQ := Lib.hid hEq
        clear hEq
        generalize sm T = c1 at *
        generalize sm z = c2 at *
        go_wp2_with fail
        refine (same_ne _ _ _ _ _ _ T z _ hbs3 (hz.below hb3) HTB.out HB.out HEQ.out).mono ?_
        rintro e w3 ⟨rfl, rfl⟩
        go_wp2_with fail
        refine (live7_any _ (HT.out.below hb3)).mono ?_
        rintro e w4 ⟨rfl, hb4⟩
        go_wp2
        go_ret
        exact ⟨rfl, hb3.trans (hb4.mono hb3.size)⟩

theorem tabs_of {W : World} (h : laidMetH Tryd.prog Rows.crcTellsRow.laid W) : Tbs W := by
  rw [MakeChecks.laidMetH_plain _ _ _ (by kernel_rfl)] at h
  exact tbs_of_laid h
theorem door_met (os : Os) (args : Array Value) : laidMetH Tryd.prog Rows.crcTellsRow.laid ((World.doorLaid Tryd.prog 4000 os).forCall (fun _ _ => 0) ⟨#[], args, []⟩).memory :=
  laidMetH_of_parts3 (fuel := 8) (laidMet_of_run' 8 (by kernel_rfl) (by kernel_rfl)) (by kernel_rfl) (by kernel_rfl)
set_option maxRecDepth 100000 in
theorem lifted (os : Os) (started : os.Started) (H : Type) (enc : TypeId × Value → H) :
    ReturnsInHanded {} Tryd.checked os 6 .any (fun w args => (Rows.crcTellsSpec.pre enc Tryd.prog Tryd.f6 [] false w args ∧ laidMetH Tryd.prog Rows.crcTellsRow.laid w) ∧ sizedMet enc Tryd.prog Tryd.f6 (OpenSpec.ofChange Rows.crcTellsSpec) false w args)
      (Rows.crcTellsSpec.post enc Tryd.prog Tryd.f6 false true false false) := by
  refine returnsInHanded_of_change_and (C := Tryd.checked) (X := fun w _ => laidMetH Tryd.prog Rows.crcTellsRow.laid w) (fun _ _ _ hh h => h.of_heap hh) own started (by kernel_rfl) Tryd.func6
    (ChangeSpec.witness_shaped (enc := enc) (C := Tryd.checked) (os := os) (X := fun w _ => laidMetH Tryd.prog Rows.crcTellsRow.laid w) false (World.doorLaid Tryd.prog 4000 os) #[.slice none 0 0, .int .i64 0, .int .u32 0] 8 rfl (World.shaped_of_RefB (by kernel_rfl) (by kernel_rfl)) (by kernel_rfl) (by kernel_rfl) (by kernel_rfl) (door_met os _)) ?_
  intro W base args ds gs before hval0 hW _ _ hL _
  have hval : ∀ (j : Nat) t v, Tryd.f6.params[j]? = some t → args[j]? = some v → Value.okWide Tryd.prog W .any base t v := hval0
  have hW' := hW
  obtain ⟨p, q, hA0, hV, rfl, hfz, hnd⟩ := hW
  have hA : DataW.TrodAll enc Tryd.prog W 0 (fun _ => true) true Tryd.f6.params.toList args.toList ds p := hA0
  rw [Tryd.params6] at hA hval
  obtain ⟨v0, vs0, d0, ds0, p0, q0, hargs, rfl, rfl, h0, r0⟩ := trodAll_cons hA
  obtain ⟨v1, vs1, d1, ds1, p1, q1, rfl, rfl, rfl, h1, r1⟩ := trodAll_cons r0
  obtain ⟨v2, vs2, d2, ds2, p2, q2, rfl, rfl, rfl, h2, r2⟩ := trodAll_cons r1
  obtain ⟨rfl, rfl, rfl⟩ := trodAll_nil r2
  obtain rfl : args = #[v0, v1, v2] := by cases args; simp_all
  obtain ⟨rfl, rfl⟩ := trodVars_none hV
  have lt0 : ∀ x ∈ p0, x.block < W.heap.size := by obtain ⟨m, hm⟩ := h0; exact DataW.trod_lt m _ _ _ hm
  have lt1 : ∀ x ∈ p1, x.block < W.heap.size := by obtain ⟨m, hm⟩ := h1; exact DataW.trod_lt m _ _ _ hm
  have lt2 : ∀ x ∈ p2, x.block < W.heap.size := by obtain ⟨m, hm⟩ := h2; exact DataW.trod_lt m _ _ _ hm
  clear hA0 hval0
  refine (walk enc W (tabs_of hL) base v0 d0 p0 (hval 0 23 v0 rfl rfl) h0 v1 d1 p1 (hval 1 3 v1 rfl rfl) h1 v2 d2 p2 (hval 2 22 v2 rfl rfl) h2).mono fun e W' ⟨he, bel⟩ => ?_
  subst he
  exact ⟨_, rfl, _, _, _, [], _, [], hW', trodAll_mk1 (shut_bool Tryd.underlying4 _), (trodAll_cons_mk (Below.trod laidOut (by kernel_rfl) (of_decide_eq_true (by kernel_rfl)) h0 bel lt0) (trodAll_cons_mk (Below.trod laidOut (by kernel_rfl) (of_decide_eq_true (by kernel_rfl)) h1 bel lt1) (trodAll_cons_mk (Below.trod laidOut (by kernel_rfl) (of_decide_eq_true (by kernel_rfl)) h2 bel lt2) trodAll_mk0))), rfl, bel.frame _, fun h => by cases h⟩

theorem over : Rows.CrcTellsSaid :=
  OpenClaim.holds_of_wide 6 Tryd.f6 rfl rfl rfl rfl rfl rfl rfl ⟨rfl, rfl, rfl, rfl, rfl⟩ rfl rfl rfl rfl rfl (by kernel_rfl) Tryd.func6 (by kernel_rfl)
    (of_decide_eq_true (by kernel_rfl)) (by unfold Func.isWrapper; first | (rw [if_pos (by decide +kernel)]; kernel_rfl) | (rw [if_neg (by decide +kernel)]; exact ⟨rfl, rfl⟩))
    (fun os started H enc _ => lifted os started H enc)

/-- THE TIED CARD. -/
theorem proved : Rows.CrcTellsCardSaid :=
  Claim7.holds_tied_plain_at .later [] [.data, .data] true Rows.crcTellsCard.stood.harness Rows.crcTellsCard.stood.looks
    over (fun _ h => by cases h) (by kernel_rfl) (fun _ h => by cases h) crcTells_row_tie rfl ⟨rfl, rfl⟩ (by kernel_rfl) rfl
    (fun f fn hf hfn => by
      obtain rfl : f = 6 := Option.some.inj ((show Tryd.prog.funcNamed "tholepin/tholepinlaw07.CrcTells" = some 6 by kernel_rfl).symm.trans hf) |>.symm
      obtain rfl : fn = Tryd.f6 := (Option.some.inj (Tryd.func6.symm.trans hfn)).symm
      exact ⟨by kernel_rfl, fun j t ht => by
        rw [Tryd.params6] at ht
        have hm : t ∈ [23, 3, 22] := by simpa using Array.mem_of_getElem? ht
        have hall : ([23, 3, 22].all fun u => !Tryd.prog.wantsStandIn u) = true := by kernel_rfl
        exact (show Tryd.prog.wantsStandIn t = false by simpa using List.all_eq_true.1 hall t hm)⟩)
    (by kernel_rfl)
#print axioms proved
end Go.Proofs.YtglacblccgainaaDoor.crcTells
