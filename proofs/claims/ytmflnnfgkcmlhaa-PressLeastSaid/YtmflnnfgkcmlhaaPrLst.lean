/- PressLeast: called with any bytes, the law returns true; no condition. -/
import Derived.Test.YtmflnnfgkcmlhaaRows
import Derived.Test.YtmflnnfgkcmlhaaLstQ
import Derived.Test.YtmflnnfgkcmlhaaK12
import Derived.Test.YtmflnnfgkcmlhaaK1
import Derived.ProofKit
import Derived.OpenShut
import Derived.ShutString
import Derived.ChangeOld
namespace Go.Proofs.Ytmflnnfgkcmlhaa.pressLeast
open Go.ChangeShapes Go.WideShapes Go.ChangeAt Go.RowKit
open Go.ChangeMaps (open_string shut_string)
set_option linter.unusedVariables false

theorem own : ownKnob Try.prog.godebug = none := by kernel_rfl
theorem laidOut : laidOutB Try.prog = true := by kernel_rfl
open Cur Mem
attribute [local go_sem] Oper.semAt_some
set_option maxRecDepth 100000


set_option maxHeartbeats 8000000 in
theorem walk {H : Type} (enc : TypeId × Value → H) (w : World) (base : Nat) (v0 : Value) (d0 : DataW H) (p0 : List MemPlace) (g0 : Value.okWide Try.prog w .any base 22 v0) (h0 : DataW.Trod enc Try.prog w 0 (fun _ => true) true 22 v0 d0 p0) :
    Calls Try.prog 7 #[v0] w fun e w' => e = .returned (.bool true) ∧ Below w.heap.size w w' := by
  obtain ⟨A, n, m, z, rfl, hnm, hz, hby, hA⟩ := open_bytes g0 h0
  clear g0 h0
  have hbd := Below.refl w.heap.size w
  by_cases h60 : 60 < n
  · clear hz hby hA
    have hn : (60 : Int) < (n : Int) := by omega
    go_enter Try.func7, Try.ntmps7
    go_wp2_with fail
    refine (live15_any _).mono ?_
    rintro e w15 ⟨rfl, hb15⟩
    replace hbd := hbd.trans (hb15.mono hbd.size)
    have HB := Lib.hid hbd
    clear hbd hb15
    go_wp2
    go_ret
    exact ⟨rfl, HB.out⟩
  have hn : ¬ (60 : Int) < (n : Int) := by omega
  have hn2 : n ≤ 60 := by omega
  have hzl := hz.1
  obtain ⟨f1, f2, f3, f4, f5, f6, f7, f8⟩ := ltk_all (z := z) (by omega) hby
  have hgo := step_go (z := z) (by omega)
  have hcl := cps_len (z := z) (by omega) hby
  have hcb := cps_byte (z := z) (by omega) hby
  have hL := rleast_any (w := w) (m := m) hz hA hby hnm hn2
  have hLs := fun W (h : Below w.heap.size w W) => leastsize_any (w := W) (m := m) (hz.below h) hby hnm hn2
  have hGn := fun W (h : Below w.heap.size w W) => gain_any (w := W) (m := m) (hz.below h) hby hnm hn2
  have hRb := fun W (h : Below w.heap.size w W) => r15bytes_any (w := W) (m := m) (hz.below h) hby hnm (by omega)
  rw [hzl] at hgo f4 f5 f7
  rw [f5] at hLs
  have hPl := fun W (h : Below w.heap.size w W) => pleast_any (w := W) (m := m) (hz.below h) hby hnm hn2 hgo
  obtain ⟨T, hT⟩ : ∃ T, T = ltk z := ⟨_, rfl⟩
  rw [← hT] at f1 f2 f3 f4 hPl
  obtain ⟨N, hN⟩ : ∃ N, N = T.length := ⟨_, rfl⟩
  rw [← hN] at f2 f3 f4 hPl
  obtain ⟨tl, htl⟩ : ∃ tl, tl = (tbs T N).length := ⟨_, rfl⟩
  rw [← htl] at f3
  rw [← f3] at hL hLs hGn f6 f7 f8
  obtain ⟨cl, hcl2⟩ : ∃ cl, cl = (cps z).length := ⟨_, rfl⟩
  rw [← hcl2] at hcl hGn f6
  have HF1 := Lib.hid f1
  have HF2 := Lib.hid f2
  have HF4 := Lib.hid f4
  have HTL := Lib.hid htl
  have HN := Lib.hid hN
  have HC := Lib.hid hcl2
  have HPL := Lib.hid hPl
  have HLS := Lib.hid hLs
  have HGN := Lib.hid hGn
  have HRB := Lib.hid hRb
  have HZ := Lib.hid hz
  have HBY := Lib.hid hby
  have hcl3 : cl ≤ 1260 := by omega
  have ew : IntKind.i64.wrap ((cl : Int) - (tl : Int)) = (cl : Int) - (tl : Int) := IntWalk.i64_in _ (by omega)
  have ew2 : IntKind.i64.wrap ((n : Int) + 2) = (n : Int) + 2 := IntWalk.i64_in _ (by omega)
  have F6 := Lib.hid f6
  have F7 : Hid (n = 0 ∨ (tl : Int) ≤ (n : Int) + 2) := Lib.hid (by omega)
  have f7' : n = 0 ∨ (tl : Int) ≤ (n : Int) + 2 := by omega
  clear f7' f6 hzl hz hby hA f1 f2 f3 f4 f5 f7 f8 hgo hT hN htl hcl2 hLs hGn hRb hPl hcl hcb h60
  go_enter Try.func7, Try.ntmps7
  go_wp2_with fail
  with_reducible refine hL.mono ?_
  rintro e w1 ⟨rfl, hb1⟩
  replace hbd := hbd.trans (hb1.mono hbd.size)
  have hPl := HPL.out _ hbd
  clear hL hb1
  go_wp2_with fail
  with_reducible refine hPl.mono ?_
  rintro e w2 ⟨v, rfl, hTo, hNl, hb2⟩
  replace hbd := hbd.trans (hb2.mono hbd.size)
  obtain ⟨Av, cv, rfl⟩ := hTo.slice
  rw [← HN.out] at hTo ⊢
  obtain ⟨hNe, hNc, hnil, hTk⟩ := hTo.tks
  clear hnil hNe
  have hLs := HLS.out _ hbd
  clear hPl hb2 hTo HPL HLS
  go_wp2_with fail
  with_reducible refine hLs.mono ?_
  rintro e w3 ⟨rfl, hb3⟩
  replace hbd := hbd.trans (hb3.mono hbd.size)
  replace hTk := hTk.below hb3
  clear hLs hb3
  have hB := rtbytes_any Av N cv T w3 hTk (fun i hi => (HF1.out _ (by rw [List.getD_eq_getElem?_getD, List.getElem?_eq_getElem (by rw [← HN.out]; exact hi)]; exact List.getElem_mem _)).1) (by omega) (by have h6 := F6.out; rw [← HTL.out]; omega)
  unfold RowPost at hB
  rw [← HTL.out] at hB
  go_wp2_with fail
  with_reducible refine hB.mono ?_
  rintro e w4 ⟨A4, m4, rfl, hb4, _⟩
  replace hbd := hbd.trans (hb4.mono hbd.size)
  replace hTk := hTk.below hb4
  have hGn := HGN.out _ hbd
  clear hB hb4 HGN
  go_wp2_with fail
  with_reducible refine hGn.mono ?_
  rintro e w5 ⟨rfl, hb5⟩
  replace hbd := hbd.trans (hb5.mono hbd.size)
  replace hTk := hTk.below hb5
  have hRb := HRB.out _ hbd
  unfold RB15Post at hRb
  clear hGn hb5
  go_wp2_with fail
  with_reducible refine hRb.mono ?_
  rintro e w6 ⟨A6, n6, m6, rfl, hb6, hbs6, _⟩
  have e6 : n6 = cl := by rw [HC.out]; exact hbs6.1.symm
  subst e6
  replace hbd := hbd.trans (hb6.mono hbd.size)
  replace hTk := hTk.below hb6
  clear hRb hb6 hbs6
  have HBD := Lib.hid hbd
  have HTK := Lib.hid hTk
  clear hbd hTk
  go_wp2
  go_loopw [6] (fun i wr => ∃ k : Nat, k ≤ N ∧ i = .int .i64 (k : Int) ∧ TksL wr Av N T ∧ Below w.heap.size w wr) (fun i _ => N - (intOf i).toNat)
  case atStart => exact ⟨0, by omega, rfl, HTK.out, HBD.out⟩
  case round =>
    clear HTK HBD
    obtain ⟨k, hk, rfl, hTk, hbd⟩ := hrel
    by_cases hlt : k < N
    · have hlt' : (k : Int) < (N : Int) := by omega
      have ek : IntKind.i64.wrap ((k : Int) + 1) = ((k + 1 : Nat) : Int) := (IntWalk.i64_in _ (by omega)).trans (by omega)
      have ek1 : IntKind.i64.wrap ((k : Int) - 1) = (k : Int) - 1 := IntWalk.i64_in _ (by omega)
      obtain ⟨b, o, Ar, Lr, Cr, hAe, hC, _, _⟩ := hTk.2 k hlt
      have hri : tright (T.getD k tk0) = true := (HF1.out _ (by rw [List.getD_eq_getElem?_getD, List.getElem?_eq_getElem (by rw [← HN.out]; exact hlt)]; exact List.getElem_mem _)).1
      have hLr := hC.2.2.2.1
      unfold tright at hri
      rw [hLr] at hri
      have h2 := HF2.out k hlt
      unfold isr at h2
      rw [hLr] at h2
      have hprev : 0 < k → ∃ Ar' Lr' Cr', TkC wr b (o + (k - 1) * 3) Ar' Lr' Cr' (T.getD (k - 1) tk0) := fun h0 => by
        obtain ⟨b', o', Ar', Lr', Cr', hAe', hC', _, _⟩ := hTk.2 (k - 1) (by omega)
        rw [hAe] at hAe'
        injection hAe' with e
        injection e with e1 e2
        subst e1 e2
        exact ⟨Ar', Lr', Cr', hC'⟩
      have HPV := Lib.hid hprev
      have H2 := Lib.hid h2
      have HTK := Lib.hid hTk
      have HBD := Lib.hid hbd
      have HCC := Lib.hid hC
      obtain ⟨t, ht⟩ : ∃ t, t = T.getD k tk0 := ⟨_, rfl⟩
      rw [← ht] at hri H2 HCC
      obtain ⟨y, off, l⟩ := t
      simp only at hri H2 HCC
      obtain ⟨c0, c1, c2, _⟩ := HCC.out
      have hRt := rtright_any Ar Lr Cr off l wr
      unfold BPost at hRt
      rw [hri] at hRt
      clear hri h2 hprev hTk hbd hC ht hLr
      subst hAe
      by_cases hk0 : k = 0
      · subst hk0
        simp only [Nat.zero_mul, Nat.add_zero] at c0 c1 c2
        go_wp2_with fail
        with_reducible refine hRt.mono ?_
        rintro e w7 ⟨rfl, hb7⟩
        have HTK2 := Lib.hid (HTK.out.below hb7)
        have HBD2 := Lib.hid (HBD.out.trans (hb7.mono HBD.out.size))
        clear hRt hb7 c0 c1 c2
        go_wp2
        go_roundw
        case rel => exact ⟨1, by omega, rfl, HTK2.out, HBD2.out⟩
        case measure => simp [intOf]; omega
      · have hk1 : (0 : Int) < (k : Int) := by omega
        obtain ⟨Ap, Lp, Cp, hCp⟩ := HPV.out (by omega)
        go_wp2_with fail
        with_reducible refine hRt.mono ?_
        rintro e w7 ⟨rfl, hb7⟩
        have HTK2 := Lib.hid (HTK.out.below hb7)
        have HBD2 := Lib.hid (HBD.out.trans (hb7.mono HBD.out.size))
        obtain ⟨c0, c1, c2, _⟩ := HCC.out.below hb7 (Nat.le_refl _)
        replace hCp := hCp.below hb7 (Nat.le_refl _)
        have hRn := rrun_any Ar Lr Cr off l w7
        unfold BPost at hRn
        clear hRt hb7
        by_cases hr : trun Lr off l = true
        · have hpv : isr (T.getD (k - 1) tk0) = false := H2.out (by omega) hr
          rw [hr] at hRn
          unfold isr at hpv
          obtain ⟨t, ht⟩ : ∃ t, t = T.getD (k - 1) tk0 := ⟨_, rfl⟩
          rw [← ht] at hpv hCp
          rw [hCp.2.2.2.1] at hpv
          obtain ⟨y2, off2, l2⟩ := t
          simp only at hpv hCp
          obtain ⟨kp, hkp⟩ : ∃ kp, kp = k - 1 := ⟨_, rfl⟩
          rw [← hkp] at hCp
          have ekp : (k : Int) - 1 = (kp : Int) := by omega
          have hkpN : kp < N := by omega
          have HCP := Lib.hid hCp
          rw [ekp] at ek1
          clear hkp ht hr hCp H2 HPV
          go_wp2_with fail
          with_reducible refine hRn.mono ?_
          rintro e w8 ⟨rfl, hb8⟩
          have HTK3 := Lib.hid (HTK2.out.below hb8)
          have HBD3 := Lib.hid (HBD2.out.trans (hb8.mono HBD2.out.size))
          obtain ⟨d0, d1, d2, _⟩ := HCP.out.below hb8 (Nat.le_refl _)
          have hRn := rrun_any Ap Lp Cp off2 l2 w8
          unfold BPost at hRn
          rw [hpv] at hRn
          clear hpv hb8 c0 c1 c2
          go_wp2_with fail
          with_reducible refine hRn.mono ?_
          rintro e w9 ⟨rfl, hb9⟩
          have HTK4 := Lib.hid (HTK3.out.below hb9)
          have HBD4 := Lib.hid (HBD3.out.trans (hb9.mono HBD3.out.size))
          clear hRn hb9 d0 d1 d2
          go_wp2
          go_roundw
          case rel => exact ⟨k + 1, by omega, rfl, HTK4.out, HBD4.out⟩
          case measure => simp [intOf]; omega
        · have hr : trun Lr off l = false := by simpa using hr
          rw [hr] at hRn
          clear hr hCp H2 HPV
          go_wp2_with fail
          with_reducible refine hRn.mono ?_
          rintro e w8 ⟨rfl, hb8⟩
          have HTK3 := Lib.hid (HTK2.out.below hb8)
          have HBD3 := Lib.hid (HBD2.out.trans (hb8.mono HBD2.out.size))
          clear hRn hb8 c0 c1 c2
          go_wp2
          go_roundw
          case rel => exact ⟨k + 1, by omega, rfl, HTK3.out, HBD3.out⟩
          case measure => simp [intOf]; omega
    · obtain rfl : k = N := by omega
      have hX := rtokens_any Av k cv T (n : Int) wr hTk (fun t ht => (HF1.out t ht).2) (by omega) (by omega)
      unfold XpPost at hX
      rw [HF4.out] at hX
      clear hTk
      go_wp2_with fail
      with_reducible refine hX.mono ?_
      rintro e w7 ⟨v7, rfl, ho7, hb7⟩
      replace hbd := hbd.trans (hb7.mono hbd.size)
      obtain ⟨A7, c7, rfl⟩ := ho7.slice
      have hbs7 := ho7.bs.2
      have hX2 := Blk.new w7 #[.int .i64 0, .int .i64 0] 40
      have hbA := below_one w7 (.cells #[.int .i64 0, .int .i64 0] 40)
      replace hbd := hbd.trans (hbA.mono hbd.size)
      replace hbs7 := hbs7.below hbA
      obtain ⟨x0, x1⟩ := hX2.c2
      have hsm := fun W (h : Below w.heap.size w W) (hb : Bs W A7 z.length z) => same_any A7 A z.length n c7 m z W hb (HZ.out.below h)
      clear hX hb7 ho7 hX2 hbA
      go_wp2_with fail
      with_reducible refine (same_any _ _ _ _ _ _ z _ hbs7 (HZ.out.below hbd)).mono ?_
      rintro e w8 ⟨rfl, rfl⟩
      clear hbs7 hsm x0 x1
      have hRb := HRB.out _ hbd
      unfold RB15Post at hRb
      go_wp2_with fail
      with_reducible refine hRb.mono ?_
      rintro e w9 ⟨A9, n9, m9, rfl, hb9, hbs9, _⟩
      have e9 : n9 = n6 := by rw [HC.out]; exact hbs9.1.symm
      subst e9
      replace hbd := hbd.trans (hb9.mono hbd.size)
      clear hRb hb9 hbs9
      have h6 := F6.out
      have h6' : tl ≤ n9 := by omega
      by_cases hn0 : n = 0
      · subst hn0
        go_wp2_with fail
        refine (live15_any _).mono ?_
        rintro e w15 ⟨rfl, hb15⟩
        replace hbd := hbd.trans (hb15.mono hbd.size)
        have HB := Lib.hid hbd
        clear hbd hb15
        go_wp2
        go_ret
        exact ⟨rfl, HB.out⟩
      · have h7 : (tl : Int) ≤ (n : Int) + 2 := by rcases F7.out with h | h <;> omega
        have hn0' : ((n : Int) == 0) = false := by simpa using (show ¬ (n : Int) = 0 by omega)
        go_wp2_with fail
        refine (live15_any _).mono ?_
        rintro e w15 ⟨rfl, hb15⟩
        replace hbd := hbd.trans (hb15.mono hbd.size)
        have HB := Lib.hid hbd
        clear hbd hb15
        go_wp2
        go_ret
        exact ⟨rfl, HB.out⟩

set_option maxRecDepth 100000 in
theorem lifted (os : Os) (started : os.Started) (H : Type) (enc : TypeId × Value → H) :
    ReturnsInHanded {} Try.checked os 7 .any (Rows.pressLeastSpec.pre6 enc Try.prog Try.f7 Rows.pressLeastRow.domain false) (Rows.pressLeastSpec.post enc Try.prog Try.f7 false true false false) := by
  refine returnsInHanded_of_change (C := Try.checked) own started (by kernel_rfl) Try.func7
    (ChangeSpec.witness6 (enc := enc) (C := Try.checked) false ⟨#[], #[.slice none 0 0], []⟩ 8 (by kernel_rfl) (by kernel_rfl) (by kernel_rfl) (by kernel_rfl)) ?_
  intro W base args ds gs before hval0 hW hcnd _
  have hval : ∀ (j : Nat) t v, Try.f7.params[j]? = some t → args[j]? = some v → Value.okWide Try.prog W .any base t v := hval0
  have hW' := hW
  obtain ⟨p, q, hA0, hV, rfl, hfz, hnd⟩ := hW
  have hA : DataW.TrodAll enc Try.prog W 0 (fun _ => true) true Try.f7.params.toList args.toList ds p := hA0
  rw [Try.params7] at hA hval
  obtain ⟨v0, vs0, d0, ds0, p0, q0, hargs, rfl, rfl, h0, r0⟩ := trodAll_cons hA
  obtain ⟨rfl, rfl, rfl⟩ := trodAll_nil r0
  obtain rfl : args = #[v0] := by cases args; simp_all
  obtain ⟨rfl, rfl⟩ := trodVars_none hV
  have lt0 : ∀ x ∈ p0, x.block < W.heap.size := by obtain ⟨m, hm⟩ := h0; exact DataW.trod_lt m _ _ _ hm
  clear hA0 hval0
  refine (walk enc W base v0 d0 p0 (hval 0 22 v0 rfl rfl) h0).mono fun e W' ⟨he, bel⟩ => ?_
  subst he
  exact ⟨_, rfl, _, _, _, [], _, [], hW', trodAll_mk1 (shut_bool Try.underlying4 _), (trodAll_cons_mk (Below.trod laidOut (by kernel_rfl) (of_decide_eq_true (by kernel_rfl)) h0 bel lt0) trodAll_mk0), rfl, bel.frame _, fun h => by cases h⟩

theorem over : Rows.pressLeastRow.holds Try.pinned (OpenSpec.ofChange Rows.pressLeastSpec) :=
  OpenClaim.holds_of_wide 7 Try.f7 rfl rfl rfl rfl rfl rfl rfl ⟨rfl, rfl, rfl, rfl, rfl⟩ rfl rfl rfl rfl rfl (by kernel_rfl) Try.func7 (by kernel_rfl)
    (of_decide_eq_true (by kernel_rfl)) (by unfold Func.isWrapper; first | (rw [if_pos (by decide +kernel)]; kernel_rfl) | (rw [if_neg (by decide +kernel)]; exact ⟨rfl, rfl⟩))
    (fun os started H enc _ => lifted os started H enc)

/-- THE STATEMENT. -/
theorem proved : Rows.PressLeastSaid := over
#print axioms proved
end Go.Proofs.Ytmflnnfgkcmlhaa.pressLeast
