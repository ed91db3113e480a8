/- TokenBack: called with any tokens, the law returns true; no condition. -/
import Derived.Test.YtppccdogfcmfjaaRows
import Derived.Test.YtppccdogfcmfjaaTokL
import Derived.Test.YtppccdogfcmfjaaTokI
import Derived.Test.YtppccdogfcmfjaaTokE
import Derived.Test.YtppccdogfcmfjaaTokC
import Derived.ProofKit
import Derived.OpenShut
import Derived.ShutString
import Derived.ChangeOld
namespace Go.Proofs.Ytppccdogfcmfjaa.tokenBack
open Go.ChangeShapes Go.WideShapes Go.ChangeAt Go.RowKit
open Go.ChangeMaps (open_string shut_string)
set_option linter.unusedVariables false

theorem own : ownKnob Try.prog.godebug = none := by kernel_rfl
theorem laidOut : laidOutB Try.prog = true := by kernel_rfl
open Cur Mem


set_option maxRecDepth 100000 in
set_option maxHeartbeats 4000000 in
theorem walk {H : Type} (enc : TypeId × Value → H) (w : World) (base : Nat) (v0 : Value) (d0 : DataW H) (p0 : List MemPlace) (g0 : Value.okWide Try.prog w .any base 22 v0) (h0 : DataW.Trod enc Try.prog w 0 (fun _ => true) true 22 v0 d0 p0) :
    Calls Try.prog 5 #[v0] w fun e w' => e = .returned (.bool true) ∧ Below w.heap.size w w' := by
  obtain ⟨A, n, m, T, rfl, hnm, hT, hok, hA⟩ := open_tokens g0 h0
  clear g0 h0
  go_enter Try.func5, Try.ntmps5
  go_wp2_with fail
  refine (tlong_any _ _ _ _ _ hT).mono ?_
  rintro e w1 ⟨rfl, rfl⟩
  cases hl : tlong T
  · obtain ⟨hl1, hl2⟩ := tlong_no hl
    have hTl := hT.1
    have hby := tbs_le hl2 n (by omega)
    have HOK := Lib.hid hok
    have HA := Lib.hid hA
    clear hl hok hA
    go_wp2_with fail
    refine (tbytes_any _ _ _ _ _ hT (by omega) (by omega) (fun i => by have := hl2 i; omega)).mono ?_
    rintro e w2 ⟨A2, n2, m2, rfl, hb2, hbs, _, hnm2, _⟩
    cases ha : tall T T.length
    · rw [if_neg (by simp)]
      clear hbs hl2 ha
      go_wp2_with fail
      refine (live11_any _).mono ?_
      rintro e w15 ⟨rfl, hb15⟩
      go_wp2
      go_ret
      exact ⟨rfl, hb2.trans (hb15.mono hb2.size)⟩
    · rw [ha, if_pos rfl, tbs_tcat] at hbs
      rw [if_pos rfl]
      have hall : ∀ t ∈ T, tright t = true := fun t ht => by
        obtain ⟨i, hi, rfl⟩ := List.mem_iff_getElem.1 ht
        have := tall_right ha i hi
        rwa [List.getD_eq_getElem?_getD, List.getElem?_eq_getElem hi] at this
      have hn2 : n2 ≤ 100000 := by rw [← hbs.1, ← tbs_tcat, hTl]; omega
      have hbyt := tcat_byte HOK.out hall
      have HG := Lib.hid (tgv_put hall)
      clear ha hl2 hall
      go_wp2_with fail
      refine (tget_any _ _ _ _ _ hbs hnm2 hn2 hbyt).mono ?_
      rintro e w3 ⟨v, U, c, q, rfl, ho, hb3, hv⟩
      rw [HG.out] at hv
      injection hv with e1 e2
      injection e2 with e2 e3
      subst e1 e2 e3
      obtain ⟨Av, cv, rfl⟩ := ho.slice
      obtain ⟨_, _, _, hU⟩ := ho.tks
      have hX := Blk.new w3 #[.int .i64 0, .int .i64 0] 42
      have hbX := below_one w3 (.cells #[.int .i64 0, .int .i64 0] 42)
      have hbd := hb2.trans (hb3.mono hb2.size)
      have hT3 := (hT.below hbd).below hbX
      have hU3 := hU.below hbX
      replace hbd := hbd.trans (hbX.mono hbd.size)
      obtain ⟨x0, x1⟩ := hX.c2
      clear hbs hb2 hb3 hT hU ho hbX hX hbyt
      go_wp2_with fail
      rw [hTl] at hU3
      with_reducible refine (rtsame_any _ _ _ _ _ _ U U _ (by omega) hU3 hT3 HOK.out HOK.out).mono ?_
      rintro e w5 ⟨rfl, hb5⟩
      rw [decide_eq_true rfl]
      replace hbd := hbd.trans (hb5.mono hbd.size)
      clear hb5 hU3 hT3
      go_wp2_with fail
      refine (live11_any _).mono ?_
      rintro e w15 ⟨rfl, hb15⟩
      go_wp2
      go_ret
      exact ⟨rfl, hbd.trans (hb15.mono hbd.size)⟩
  · clear hl
    go_wp2_with fail
    refine (live11_any _).mono ?_
    rintro e w15 ⟨rfl, hb15⟩
    go_wp2
    go_ret
    exact ⟨rfl, hb15⟩

set_option maxRecDepth 100000 in
theorem lifted (os : Os) (started : os.Started) (H : Type) (enc : TypeId × Value → H) :
    ReturnsInHanded {} Try.checked os 5 .any (Rows.tokenBackSpec.pre6 enc Try.prog Try.f5 Rows.tokenBackRow.domain false) (Rows.tokenBackSpec.post enc Try.prog Try.f5 false true false false) := by
  refine returnsInHanded_of_change (C := Try.checked) own started (by kernel_rfl) Try.func5
    (ChangeSpec.witness6 (enc := enc) (C := Try.checked) false ⟨#[], #[.slice none 0 0], []⟩ 8 (by kernel_rfl) (by kernel_rfl) (by kernel_rfl) (by kernel_rfl)) ?_
  intro W base args ds gs before hval0 hW hcnd _
  have hval : ∀ (j : Nat) t v, Try.f5.params[j]? = some t → args[j]? = some v → Value.okWide Try.prog W .any base t v := hval0
  have hW' := hW
  obtain ⟨p, q, hA0, hV, rfl, hfz, hnd⟩ := hW
  have hA : DataW.TrodAll enc Try.prog W 0 (fun _ => true) true Try.f5.params.toList args.toList ds p := hA0
  rw [Try.params5] at hA hval
  obtain ⟨v0, vs0, d0, ds0, p0, q0, hargs, rfl, rfl, h0, r0⟩ := trodAll_cons hA
  obtain ⟨rfl, rfl, rfl⟩ := trodAll_nil r0
  obtain rfl : args = #[v0] := by cases args; simp_all
  obtain ⟨rfl, rfl⟩ := trodVars_none hV
  have lt0 : ∀ x ∈ p0, x.block < W.heap.size := by obtain ⟨m, hm⟩ := h0; exact DataW.trod_lt m _ _ _ hm
  clear hA0 hval0
  refine (walk enc W base v0 d0 p0 (hval 0 22 v0 rfl rfl) h0).mono fun e W' ⟨he, bel⟩ => ?_
  subst he
  exact ⟨_, rfl, _, _, _, [], _, [], hW', trodAll_mk1 (shut_bool Try.underlying4 _), (trodAll_cons_mk (Below.trod laidOut (by kernel_rfl) (of_decide_eq_true (by kernel_rfl)) h0 bel lt0) trodAll_mk0), rfl, bel.frame _, fun h => by cases h⟩

theorem over : Rows.tokenBackRow.holds Try.pinned (OpenSpec.ofChange Rows.tokenBackSpec) :=
  OpenClaim.holds_of_wide 5 Try.f5 rfl rfl rfl rfl rfl rfl rfl ⟨rfl, rfl, rfl, rfl, rfl⟩ rfl rfl rfl rfl rfl (by kernel_rfl) Try.func5 (by kernel_rfl)
    (of_decide_eq_true (by kernel_rfl)) (by unfold Func.isWrapper; first | (rw [if_pos (by decide +kernel)]; kernel_rfl) | (rw [if_neg (by decide +kernel)]; exact ⟨rfl, rfl⟩))
    (fun os started H enc _ => lifted os started H enc)

/-- THE STATEMENT. -/
theorem proved : Rows.TokenBackSaid := over
#print axioms proved
end Go.Proofs.Ytppccdogfcmfjaa.tokenBack
