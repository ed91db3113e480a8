/- PressTokens: called with any bytes, the law returns true; no condition. -/
import Derived.Test.YtmflnnfgkcmlhaaRows
import Derived.Test.YtmflnnfgkcmlhaaPreQ
import Derived.Test.YtmflnnfgkcmlhaaK12
import Derived.Test.YtmflnnfgkcmlhaaK1
import Derived.ProofKit
import Derived.OpenShut
import Derived.ShutString
import Derived.ChangeOld
namespace Go.Proofs.Ytmflnnfgkcmlhaa.pressTokens
open Go.ChangeShapes Go.WideShapes Go.ChangeAt Go.RowKit
open Go.ChangeMaps (open_string shut_string)
set_option linter.unusedVariables false

theorem own : ownKnob Try.prog.godebug = none := by kernel_rfl
theorem laidOut : laidOutB Try.prog = true := by kernel_rfl
open Cur Mem
attribute [local go_sem] Oper.semAt_some
set_option maxRecDepth 100000


set_option maxHeartbeats 8000000 in
theorem walk {H : Type} (enc : TypeId × Value → H) (w : World) (base : Nat) (v0 : Value) (d0 : DataW H) (p0 : List MemPlace) (g0 : Value.okWide Try.prog w .any base 22 v0) (h0 : DataW.Trod enc Try.prog w 0 (fun _ => true) true 22 v0 d0 p0) :
    Calls Try.prog 3 #[v0] w fun e w' => e = .returned (.bool true) ∧ Below w.heap.size w w' := by
  obtain ⟨A, n, m, z, rfl, hnm, hz, hby, hA⟩ := open_bytes g0 h0
  clear g0 h0
  have hbd := Below.refl w.heap.size w
  by_cases h150 : 150 < n
  · clear hz hby hA
    go_enter Try.func3, Try.ntmps3
    go_wp2_with fail
    refine (live15_any _).mono ?_
    rintro e w15 ⟨rfl, hb15⟩
    replace hbd := hbd.trans (hb15.mono hbd.size)
    have HB := Lib.hid hbd
    clear hbd hb15
    go_wp2
    go_ret
    exact ⟨rfl, HB.out⟩
  · have hn : n ≤ 150 := by omega
    have hzl := hz.1
    have hT0 := ptokens_any (m := m) hz hby hnm (by omega)
    have HBY := Lib.hid hby
    have HZL : Hid (z.length = n) := Lib.hid hzl
    have HCE : Hid (tbs (gtk z) (gtk z).length = cps z) := Lib.hid (tbs_gtk z)
    have HRT := Lib.hid (gtk_right (z := z) (by omega) hby)
    have HCL : Hid ((tbs (gtk z) (gtk z).length).length ≤ 21 * 150) := Lib.hid (by rw [HCE.out]; have := cps_len (z := z) (by omega) hby; omega)
    have HTR := Lib.hid (fun i => (gtk_lit (z := z) (by omega) hby i).2)
    have HOK : Hid (∀ t ∈ gtk z, tkok t) := Lib.hid (fun t ht => (HRT.out.1 t ht).2.1)
    have hkl : (gtk z).length ≤ 150 := by have := HRT.out.2.2; omega
    clear hby h150 hzl
    go_enter Try.func3, Try.ntmps3
    go_wp2_with fail
    with_reducible refine hT0.mono ?_
    rintro e w1 ⟨v, L, p, rfl, hL, hp, hb1⟩
    obtain rfl := gtk_of hp
    obtain ⟨A1, c1, rfl⟩ := hL.slice
    obtain ⟨_, _, _, hT⟩ := hL.tks
    replace hbd := hbd.trans (hb1.mono hbd.size)
    replace hz := hz.below hb1
    clear hT0 hL hp hb1
    have hB := pbytes_any (m := m) hz HBY.out hnm (by omega)
    unfold PBytesPost at hB
    rw [← HCE.out] at hB
    go_wp2_with fail
    with_reducible refine hB.mono ?_
    rintro e w2 ⟨A2, n2, m2, rfl, hb2, ht, hm2, hA2⟩
    replace hbd := hbd.trans (hb2.mono hbd.size)
    replace hz := hz.below hb2
    replace hT := hT.below hb2
    clear hB hb2
    have hR := pruns_any (m := m) hz (by omega)
    go_wp2_with fail
    with_reducible refine hR.mono ?_
    rintro e w3 ⟨v3, rfl, hRT, hb3⟩
    replace hbd := hbd.trans (hb3.mono hbd.size)
    replace hz := hz.below hb3
    replace hT := hT.below hb3
    replace ht := ht.below hb3
    clear hR hb3
    obtain ⟨A3, c3, rfl⟩ := hRT.slice
    obtain ⟨_, _, _, hr⟩ := hRT.tks
    clear hRT
    have hW0 := rtokens15_any (m := m) hz HBY.out hnm (by omega)
    obtain ⟨rl, hrl⟩ : ∃ rl, (rn1 z).length = rl := ⟨_, rfl⟩
    rw [hrl] at hr ⊢
    have HRL := Lib.hid hrl
    clear hrl
    go_wp2_with fail
    with_reducible refine hW0.mono ?_
    rintro e w4 ⟨v4, L, p, rfl, hL, hp, hb4⟩
    obtain rfl := gtk_of hp
    obtain ⟨A4, c4, rfl⟩ := hL.slice
    obtain ⟨_, _, _, hW⟩ := hL.tks
    replace hbd := hbd.trans (hb4.mono hbd.size)
    replace hz := hz.below hb4
    replace hT := hT.below hb4
    replace ht := ht.below hb4
    replace hr := hr.below hb4
    clear hW0 hL hp hb4
    clear HRT
    generalize gtk z = T at hT hW ht HCE HCL HTR HOK hkl ⊢
    generalize T.length = k at hT hW ht HCE HCL HTR hkl ⊢
    by_cases h0 : n = 0
    · have hz0 : z = [] := List.eq_nil_of_length_eq_zero (by rw [HZL.out]; exact h0)
      have : rl = 0 := by rw [← HRL.out, hz0]; rfl
      subst this
      have e0 : ((n : Int) == 0) = true := by rw [h0]; rfl
      clear hr hz0 h0
      go_wp2_with fail
      with_reducible refine (rtsame_any _ _ _ _ _ _ T T _ (by omega) hT hW HOK.out HOK.out).mono ?_
      rintro e w7 ⟨rfl, hb7⟩
      rw [decide_eq_true rfl]
      replace hbd := hbd.trans (hb7.mono hbd.size)
      replace hz := hz.below hb7
      replace hW := hW.below hb7
      replace ht := ht.below hb7
      clear hT hb7
      go_wp2_with fail
      with_reducible refine (rtbytes_any _ _ _ T _ hW HTR.out (by omega) (by have := HCL.out; omega)).mono ?_
      rintro e w8 ⟨A8, m8, rfl, hb8, hbs8, hA8, _⟩
      replace hbd := hbd.trans (hb8.mono hbd.size)
      replace hz := hz.below hb8
      replace hW := hW.below hb8
      replace ht := ht.below hb8
      clear hb8 hA8
      go_wp2_with fail
      with_reducible refine (same_any _ _ _ _ _ _ (tbs T k) _ ht hbs8).mono ?_
      rintro e w9 ⟨rfl, rfl⟩
      clear ht hbs8
      have hS := psaves_any (m := m) hz HBY.out hnm (by omega)
      unfold PSavesPost at hS
      rw [← HCE.out, HZL.out] at hS
      clear hz
      go_wp2_with fail
      with_reducible refine hS.mono ?_
      rintro e w10 ⟨rfl, hb10⟩
      replace hbd := hbd.trans (hb10.mono hbd.size)
      replace hW := hW.below hb10
      clear hb10 hS
      go_wp2_with fail
      with_reducible refine (rtbytes_any _ _ _ T _ hW HTR.out (by omega) (by have := HCL.out; omega)).mono ?_
      rintro e w11 ⟨A11, m11, rfl, hb11, hbs11, hA11, _⟩
      replace hbd := hbd.trans (hb11.mono hbd.size)
      have hlc := HCL.out
      obtain ⟨cl, hcl⟩ : ∃ cl, cl = (tbs T k).length := ⟨_, rfl⟩
      rw [← hcl] at hlc ⊢
      have e1 : IntKind.i64.wrap ((n : Int) - (cl : Int)) = (n : Int) - (cl : Int) := IntWalk.i64_in _ (by omega)
      have e2 : ((n : Int) - (cl : Int) == (n : Int) - (cl : Int)) = true := by simp
      clear hb11 hbs11 hA11 hW hcl
      go_wp2_with fail
      refine (live15_any _).mono ?_
      rintro e w15 ⟨rfl, hb15⟩
      replace hbd := hbd.trans (hb15.mono hbd.size)
      have HB := Lib.hid hbd
      clear hbd hb15
      go_wp2
      go_ret
      exact ⟨rfl, HB.out⟩
    · have hz0 : rn1 z = [(z, 0, 0)] := by
        unfold rn1
        rw [if_neg (by rintro rfl; exact h0 HZL.out.symm)]
      rw [hz0] at hr
      obtain rfl : 1 = rl := by rw [← HRL.out, hz0]; rfl
      obtain ⟨b, o, Ar, Lr, Cr, rfl, ⟨r0, r1, r2, rb⟩, hrn, hrc⟩ := hr.2 0 (by omega)
      have hLr : z.length = Lr := rb.1
      rw [HZL.out] at hLr
      subst hLr
      have hrun : trun n 0 0 = true := by unfold trun; exact decide_eq_true (by omega)
      have rb : Bs w4 Ar n z := rb
      clear hr hz0 h0 hrn hrc
      rw [Nat.zero_mul, Nat.add_zero] at r0 r1 r2
      have r1 : w4.cell? ⟨b, o + 1, none⟩ = some (.int .i64 0) := r1
      have r2 : w4.cell? ⟨b, o + 2, none⟩ = some (.int .i64 0) := r2
      go_wp2_with fail
      with_reducible refine (rrun_any Ar n Cr 0 0 _).mono ?_
      rintro e w5 ⟨rfl, hb5⟩
      rw [hrun]
      replace hbd := hbd.trans (hb5.mono hbd.size)
      replace r0 := (hb5.cell (lt_of_cell r0)).trans r0
      replace hz := hz.below hb5
      replace hT := hT.below hb5
      replace ht := ht.below hb5
      replace hW := hW.below hb5
      replace rb := rb.below hb5
      clear hb5 r1 r2 hrun
      go_wp2_with fail
      with_reducible refine (same_any _ _ _ _ _ _ z _ rb hz).mono ?_
      rintro e w6 ⟨rfl, rfl⟩
      clear rb r0
      go_wp2_with fail
      with_reducible refine (rtsame_any _ _ _ _ _ _ T T _ (by omega) hT hW HOK.out HOK.out).mono ?_
      rintro e w7 ⟨rfl, hb7⟩
      rw [decide_eq_true rfl]
      replace hbd := hbd.trans (hb7.mono hbd.size)
      replace hz := hz.below hb7
      replace hW := hW.below hb7
      replace ht := ht.below hb7
      clear hT hb7
      go_wp2_with fail
      with_reducible refine (rtbytes_any _ _ _ T _ hW HTR.out (by omega) (by have := HCL.out; omega)).mono ?_
      rintro e w8 ⟨A8, m8, rfl, hb8, hbs8, hA8, _⟩
      replace hbd := hbd.trans (hb8.mono hbd.size)
      replace hz := hz.below hb8
      replace hW := hW.below hb8
      replace ht := ht.below hb8
      clear hb8 hA8
      go_wp2_with fail
      with_reducible refine (same_any _ _ _ _ _ _ (tbs T k) _ ht hbs8).mono ?_
      rintro e w9 ⟨rfl, rfl⟩
      clear ht hbs8
      have hS := psaves_any (m := m) hz HBY.out hnm (by omega)
      unfold PSavesPost at hS
      rw [← HCE.out, HZL.out] at hS
      clear hz
      go_wp2_with fail
      with_reducible refine hS.mono ?_
      rintro e w10 ⟨rfl, hb10⟩
      replace hbd := hbd.trans (hb10.mono hbd.size)
      replace hW := hW.below hb10
      clear hb10 hS
      go_wp2_with fail
      with_reducible refine (rtbytes_any _ _ _ T _ hW HTR.out (by omega) (by have := HCL.out; omega)).mono ?_
      rintro e w11 ⟨A11, m11, rfl, hb11, hbs11, hA11, _⟩
      replace hbd := hbd.trans (hb11.mono hbd.size)
      have hlc := HCL.out
      obtain ⟨cl, hcl⟩ : ∃ cl, cl = (tbs T k).length := ⟨_, rfl⟩
      rw [← hcl] at hlc ⊢
      have e1 : IntKind.i64.wrap ((n : Int) - (cl : Int)) = (n : Int) - (cl : Int) := IntWalk.i64_in _ (by omega)
      have e2 : ((n : Int) - (cl : Int) == (n : Int) - (cl : Int)) = true := by simp
      clear hb11 hbs11 hA11 hW hcl
      go_wp2_with fail
      refine (live15_any _).mono ?_
      rintro e w15 ⟨rfl, hb15⟩
      replace hbd := hbd.trans (hb15.mono hbd.size)
      have HB := Lib.hid hbd
      clear hbd hb15
      go_wp2
      go_ret
      exact ⟨rfl, HB.out⟩

set_option maxRecDepth 100000 in
theorem lifted (os : Os) (started : os.Started) (H : Type) (enc : TypeId × Value → H) :
    ReturnsInHanded {} Try.checked os 3 .any (Rows.pressTokensSpec.pre6 enc Try.prog Try.f3 Rows.pressTokensRow.domain false) (Rows.pressTokensSpec.post enc Try.prog Try.f3 false true false false) := by
  refine returnsInHanded_of_change (C := Try.checked) own started (by kernel_rfl) Try.func3
    (ChangeSpec.witness6 (enc := enc) (C := Try.checked) false ⟨#[], #[.slice none 0 0], []⟩ 8 (by kernel_rfl) (by kernel_rfl) (by kernel_rfl) (by kernel_rfl)) ?_
  intro W base args ds gs before hval0 hW hcnd _
  have hval : ∀ (j : Nat) t v, Try.f3.params[j]? = some t → args[j]? = some v → Value.okWide Try.prog W .any base t v := hval0
  have hW' := hW
  obtain ⟨p, q, hA0, hV, rfl, hfz, hnd⟩ := hW
  have hA : DataW.TrodAll enc Try.prog W 0 (fun _ => true) true Try.f3.params.toList args.toList ds p := hA0
  rw [Try.params3] at hA hval
  obtain ⟨v0, vs0, d0, ds0, p0, q0, hargs, rfl, rfl, h0, r0⟩ := trodAll_cons hA
  obtain ⟨rfl, rfl, rfl⟩ := trodAll_nil r0
  obtain rfl : args = #[v0] := by cases args; simp_all
  obtain ⟨rfl, rfl⟩ := trodVars_none hV
  have lt0 : ∀ x ∈ p0, x.block < W.heap.size := by obtain ⟨m, hm⟩ := h0; exact DataW.trod_lt m _ _ _ hm
  clear hA0 hval0
  refine (walk enc W base v0 d0 p0 (hval 0 22 v0 rfl rfl) h0).mono fun e W' ⟨he, bel⟩ => ?_
  subst he
  exact ⟨_, rfl, _, _, _, [], _, [], hW', trodAll_mk1 (shut_bool Try.underlying4 _), (trodAll_cons_mk (Below.trod laidOut (by kernel_rfl) (of_decide_eq_true (by kernel_rfl)) h0 bel lt0) trodAll_mk0), rfl, bel.frame _, fun h => by cases h⟩

theorem over : Rows.pressTokensRow.holds Try.pinned (OpenSpec.ofChange Rows.pressTokensSpec) :=
  OpenClaim.holds_of_wide 3 Try.f3 rfl rfl rfl rfl rfl rfl rfl ⟨rfl, rfl, rfl, rfl, rfl⟩ rfl rfl rfl rfl rfl (by kernel_rfl) Try.func3 (by kernel_rfl)
    (of_decide_eq_true (by kernel_rfl)) (by unfold Func.isWrapper; first | (rw [if_pos (by decide +kernel)]; kernel_rfl) | (rw [if_neg (by decide +kernel)]; exact ⟨rfl, rfl⟩))
    (fun os started H enc _ => lifted os started H enc)

/-- THE STATEMENT. -/
theorem proved : Rows.PressTokensSaid := over
#print axioms proved
end Go.Proofs.Ytmflnnfgkcmlhaa.pressTokens
