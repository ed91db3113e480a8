/- BlobOnce: called with any bytes, the law returns true; no condition. -/
import Derived.Test.YtkedmhopajpkhaaRows
import Derived.Test.YtkedmhopajpkhaaBlobL
import Derived.ProofKit
import Derived.OpenShut
import Derived.ShutString
import Derived.ChangeOld
namespace Go.Proofs.Ytkedmhopajpkhaa.blobOnce
open Go.ChangeShapes Go.WideShapes Go.ChangeAt Go.RowKit
open Go.ChangeMaps (open_string shut_string)
set_option linter.unusedVariables false

theorem own : ownKnob Try.prog.godebug = none := by kernel_rfl
theorem laidOut : laidOutB Try.prog = true := by kernel_rfl
open Cur Mem


set_option maxRecDepth 100000 in
set_option maxHeartbeats 8000000 in
theorem walk {H : Type} (enc : TypeId × Value → H) (w : World) (base : Nat) (v0 : Value) (d0 : DataW H) (p0 : List MemPlace) (g0 : Value.okWide Try.prog w .any base 22 v0) (h0 : DataW.Trod enc Try.prog w 0 (fun _ => true) true 22 v0 d0 p0) :
    Calls Try.prog 6 #[v0] w fun e w' => e = .returned (.bool true) ∧ Below w.heap.size w w' := by
  obtain ⟨a, n, m, z, rfl, hnm, hz, hby, hnil⟩ := open_bytes g0 h0
  clear g0 h0
  by_cases hn : 300 < (n : Int)
  · go_enter Try.func6, Try.ntmps6
    go_wp2_with fail
    refine (live6_any _).mono ?_
    rintro e w1 ⟨rfl, hb⟩
    go_wp2
    go_ret
    exact ⟨rfl, hb⟩
  have HBY := Lib.hid hby
  have HZL := Lib.hid hz.1
  clear hby
  go_enter Try.func6, Try.ntmps6
  go_wp2_with fail
  refine (new_some _ _ _ _ hnm).mono ?_
  rintro e w1 ⟨rb, rfl, hrb, hb1, hr⟩
  go_wp2_with fail
  refine (new_some _ _ _ _ hnm).mono ?_
  rintro e w2 ⟨sb, rfl, hsb, hb2, hs⟩
  have hl1 := hr.lt
  replace hr := hr.below hb2
  have hbd := hb1.trans (hb2.mono hb1.size)
  have hsw : rb < sb := by omega
  clear hb1 hb2 hsb hl1
  go_wp2_with fail
  refine (bread_any _ _ _ _ _ _ _ _ _ _ hr (hz.below hbd) (by omega) (by omega) (by omega) (by omega) HBY.out (by omega)).mono ?_
  rintro e w7 ⟨v7, l7, p7, c7, q7, rfl, ho7, hk7, hr', hs7⟩
  have HS7 := Lib.hid hs7
  replace hs := blk_kp hs hk7 (by omega)
  replace hbd := Kp.below hbd (Nat.le_refl _) hk7 hrb
  replace hr := hr'
  obtain ⟨A7, cc7, rfl⟩ := ho7.slice
  have hbs := ho7.bs.2
  have hcap7 : A7 = none → cc7 = 0 := by
    intro e
    subst e
    rcases ho7.2 with ⟨e, _⟩ | ⟨g, cap, cur, e, _⟩
    · injection e
    · injection e with e; cases e
  have HNA := Lib.hid hcap7
  have HVL7 : Hid ((vz l7.length ++ l7).length = vsz l7.length + l7.length) := Lib.hid (by rw [List.length_append, vz_length])
  clear hr' hk7 hs7 ho7 hcap7
  go_wp2_with fail
  refine (breadlist_any _ _ _ _ _ _ _ _ _ _ hs (hz.below hbd) (by omega) (by omega) (by omega) HBY.out (by omega)).mono ?_
  rintro e w8 ⟨v8, l8, p8, c8, q8, rfl, ho8, hk8, hs', hs8, hl8⟩
  have HS8 := Lib.hid hs8
  have hll := rl_len hs8 hz.1 HBY.out (by omega) (by omega)
  have HL8 : Hid (l8.length ≤ 10000) := Lib.hid (by omega)
  have HB8 := Lib.hid hl8
  replace hr := blk_kp hr hk8 (by omega)
  replace hbs := hbs.kp hs (by simp) hk8
  replace hbd := Kp.below hbd (Nat.le_refl _) hk8 (by omega)
  replace hs := hs'
  obtain ⟨A8, cc8, rfl⟩ := ho8.slice
  obtain ⟨_, _, _, hu⟩ := OwnU.us ho8
  clear hs' hk8 hs8 hl8 ho8 hll
  by_cases hc7 : c7 = 0
  · have hb7 : (c7 == 0) = true := by simpa using hc7
    have hg := HS7.out
    rw [hc7] at hg
    obtain ⟨_, gg, gv, gp, _⟩ := hg.good
    obtain ⟨e1, e2, e3, e4⟩ := bl_once HBY.out (Int.le_refl 0) (by omega) gg
    rw [← gv, ← gp] at e1
    rw [← gv] at e2
    rw [← gp] at e3 e4
    obtain ⟨j7, rfl⟩ := Int.eq_ofNat_of_zero_le e3
    have HE7 : Hid (vz l7.length ++ l7 = z.take j7) := Lib.hid (by rw [e1]; unfold piece; simp)
    have HL7 : Hid (l7.length ≤ 900000) := Lib.hid (by omega)
    have hj7 : j7 ≤ n := by have := HZL.out; omega
    have hj7m : (j7 : Int) ≤ m := by omega
    have hj70 : (0 : Int) ≤ j7 := by omega
    clear hc7 hg gg gv gp e1 e2 e3 e4
    by_cases hc8 : c8 = 0
    · have hb8 : (c8 == 0) = true := by simpa using hc8
      have hg := HS8.out
      rw [hc8] at hg
      obtain ⟨_, gg, gv, gp, _⟩ := hg.good
      obtain ⟨e1, e2, e3, e4⟩ := rl_once HBY.out (Int.le_refl 0) (by omega) gg
      rw [← gv, ← gp] at e1
      rw [← gp] at e3 e4
      obtain ⟨j8, rfl⟩ := Int.eq_ofNat_of_zero_le e3
      have HE8 : Hid (lz l8 = z.take j8) := Lib.hid (by rw [e1]; unfold piece; simp)
      have hj8 : j8 ≤ n := by have := HZL.out; omega
      have hj8m : (j8 : Int) ≤ m := by omega
      have hj80 : (0 : Int) ≤ j8 := by omega
      clear hc8 hg gg gv gp e1 e2 e3 e4
      go_wp2_with fail
      refine (good_any _ _ _ _ _ _ (by exact hr)).mono ?_
      rintro e w11 ⟨rfl, hb11⟩
      rw [hb7]
      replace hr := hr.below hb11
      replace hs := hs.below hb11
      replace hbs := hbs.below hb11
      replace hu := hu.below hb11
      replace hbd := hbd.trans (hb11.mono hbd.size)
      clear hb11
      go_wp2_with fail
      refine (rbbytes_any _ _ _ _ _ hbs HNA.out HL7.out).mono ?_
      rintro e w12 ⟨A12, m12, rfl, hb12, hbs12, _⟩
      rw [HVL7.out] at hbs12 ⊢
      replace hr := hr.below hb12
      replace hs := hs.below hb12
      replace hbs := hbs.below hb12
      replace hu := hu.below hb12
      replace hbd := hbd.trans (hb12.mono hbd.size)
      clear hb12
      go_wp2_with fail
      refine (at_any _ _ _ _ _ _ (by exact hr)).mono ?_
      rintro e w13 ⟨rfl, rfl⟩
      have hzt := (hz.below hbd).take (k := j7) hj7
      rw [← HE7.out] at hzt
      go_wp2_with fail
      with_reducible refine (same_any _ _ _ _ _ _ (vz l7.length ++ l7) _ hbs12 hzt).mono ?_
      rintro e w13 ⟨rfl, rfl⟩
      clear hbs12 hzt
      go_wp2_with fail
      refine (good_any _ _ _ _ _ _ (by exact hs)).mono ?_
      rintro e w11 ⟨rfl, hb11⟩
      rw [hb8]
      replace hr := hr.below hb11
      replace hs := hs.below hb11
      replace hbs := hbs.below hb11
      replace hu := hu.below hb11
      replace hbd := hbd.trans (hb11.mono hbd.size)
      clear hb11
      go_wp2_with fail
      refine (rlist_any _ _ _ _ _ hu HL8.out HB8.out).mono ?_
      rintro e w12 ⟨A12, m12, rfl, hb12, hbs12, _⟩
      replace hr := hr.below hb12
      replace hs := hs.below hb12
      replace hbs := hbs.below hb12
      replace hu := hu.below hb12
      replace hbd := hbd.trans (hb12.mono hbd.size)
      clear hb12
      go_wp2_with fail
      refine (at_any _ _ _ _ _ _ (by exact hs)).mono ?_
      rintro e w13 ⟨rfl, rfl⟩
      have hzt := (hz.below hbd).take (k := j8) hj8
      rw [← HE8.out] at hzt
      go_wp2_with fail
      with_reducible refine (same_any _ _ _ _ _ _ (lz l8) _ hbs12 hzt).mono ?_
      rintro e w13 ⟨rfl, rfl⟩
      clear hbs12 hzt
      go_wp2_with fail
      refine (good_any _ _ _ _ _ _ (by exact hr)).mono ?_
      rintro e w11 ⟨rfl, hb11⟩
      rw [hb7]
      replace hr := hr.below hb11
      replace hs := hs.below hb11
      replace hbs := hbs.below hb11
      replace hu := hu.below hb11
      replace hbd := hbd.trans (hb11.mono hbd.size)
      clear hb11
      go_wp2_with fail
      refine (good_any _ _ _ _ _ _ (by exact hs)).mono ?_
      rintro e w11 ⟨rfl, hb11⟩
      rw [hb8]
      replace hr := hr.below hb11
      replace hs := hs.below hb11
      replace hbs := hbs.below hb11
      replace hu := hu.below hb11
      replace hbd := hbd.trans (hb11.mono hbd.size)
      clear hb11
      go_wp2_with fail
      refine (live6_any _).mono ?_
      rintro e w15 ⟨rfl, hb15⟩
      go_wp2
      go_ret
      exact ⟨rfl, hbd.trans (hb15.mono hbd.size)⟩
    · have hb8 : (c8 == 0) = false := by simpa using hc8
      obtain rfl : l8 = [] := HS8.out.nil hc8
      clear hc8
      go_wp2_with fail
      refine (good_any _ _ _ _ _ _ (by exact hr)).mono ?_
      rintro e w11 ⟨rfl, hb11⟩
      rw [hb7]
      replace hr := hr.below hb11
      replace hs := hs.below hb11
      replace hbs := hbs.below hb11
      replace hu := hu.below hb11
      replace hbd := hbd.trans (hb11.mono hbd.size)
      clear hb11
      go_wp2_with fail
      refine (rbbytes_any _ _ _ _ _ hbs HNA.out HL7.out).mono ?_
      rintro e w12 ⟨A12, m12, rfl, hb12, hbs12, _⟩
      rw [HVL7.out] at hbs12 ⊢
      replace hr := hr.below hb12
      replace hs := hs.below hb12
      replace hbs := hbs.below hb12
      replace hu := hu.below hb12
      replace hbd := hbd.trans (hb12.mono hbd.size)
      clear hb12
      go_wp2_with fail
      refine (at_any _ _ _ _ _ _ (by exact hr)).mono ?_
      rintro e w13 ⟨rfl, rfl⟩
      have hzt := (hz.below hbd).take (k := j7) hj7
      rw [← HE7.out] at hzt
      go_wp2_with fail
      with_reducible refine (same_any _ _ _ _ _ _ (vz l7.length ++ l7) _ hbs12 hzt).mono ?_
      rintro e w13 ⟨rfl, rfl⟩
      clear hbs12 hzt
      go_wp2_with fail
      refine (good_any _ _ _ _ _ _ (by exact hs)).mono ?_
      rintro e w11 ⟨rfl, hb11⟩
      rw [hb8]
      replace hr := hr.below hb11
      replace hs := hs.below hb11
      replace hbs := hbs.below hb11
      replace hu := hu.below hb11
      replace hbd := hbd.trans (hb11.mono hbd.size)
      clear hb11
      go_wp2_with fail
      refine (good_any _ _ _ _ _ _ (by exact hr)).mono ?_
      rintro e w11 ⟨rfl, hb11⟩
      rw [hb7]
      replace hr := hr.below hb11
      replace hs := hs.below hb11
      replace hbs := hbs.below hb11
      replace hu := hu.below hb11
      replace hbd := hbd.trans (hb11.mono hbd.size)
      clear hb11
      go_wp2_with fail
      refine (good_any _ _ _ _ _ _ (by exact hs)).mono ?_
      rintro e w11 ⟨rfl, hb11⟩
      rw [hb8]
      replace hr := hr.below hb11
      replace hs := hs.below hb11
      replace hbs := hbs.below hb11
      replace hu := hu.below hb11
      replace hbd := hbd.trans (hb11.mono hbd.size)
      clear hb11
      go_wp2_with fail
      refine (live6_any _).mono ?_
      rintro e w15 ⟨rfl, hb15⟩
      go_wp2
      go_ret
      exact ⟨rfl, hbd.trans (hb15.mono hbd.size)⟩
  · have hb7 : (c7 == 0) = false := by simpa using hc7
    obtain rfl : l7 = [] := HS7.out.nil hc7
    clear hc7
    by_cases hc8 : c8 = 0
    · have hb8 : (c8 == 0) = true := by simpa using hc8
      have hg := HS8.out
      rw [hc8] at hg
      obtain ⟨_, gg, gv, gp, _⟩ := hg.good
      obtain ⟨e1, e2, e3, e4⟩ := rl_once HBY.out (Int.le_refl 0) (by omega) gg
      rw [← gv, ← gp] at e1
      rw [← gp] at e3 e4
      obtain ⟨j8, rfl⟩ := Int.eq_ofNat_of_zero_le e3
      have HE8 : Hid (lz l8 = z.take j8) := Lib.hid (by rw [e1]; unfold piece; simp)
      have hj8 : j8 ≤ n := by have := HZL.out; omega
      have hj8m : (j8 : Int) ≤ m := by omega
      have hj80 : (0 : Int) ≤ j8 := by omega
      clear hc8 hg gg gv gp e1 e2 e3 e4
      go_wp2_with fail
      refine (good_any _ _ _ _ _ _ (by exact hr)).mono ?_
      rintro e w11 ⟨rfl, hb11⟩
      rw [hb7]
      replace hr := hr.below hb11
      replace hs := hs.below hb11
      replace hbs := hbs.below hb11
      replace hu := hu.below hb11
      replace hbd := hbd.trans (hb11.mono hbd.size)
      clear hb11
      go_wp2_with fail
      refine (good_any _ _ _ _ _ _ (by exact hs)).mono ?_
      rintro e w11 ⟨rfl, hb11⟩
      rw [hb8]
      replace hr := hr.below hb11
      replace hs := hs.below hb11
      replace hbs := hbs.below hb11
      replace hu := hu.below hb11
      replace hbd := hbd.trans (hb11.mono hbd.size)
      clear hb11
      go_wp2_with fail
      refine (rlist_any _ _ _ _ _ hu HL8.out HB8.out).mono ?_
      rintro e w12 ⟨A12, m12, rfl, hb12, hbs12, _⟩
      replace hr := hr.below hb12
      replace hs := hs.below hb12
      replace hbs := hbs.below hb12
      replace hu := hu.below hb12
      replace hbd := hbd.trans (hb12.mono hbd.size)
      clear hb12
      go_wp2_with fail
      refine (at_any _ _ _ _ _ _ (by exact hs)).mono ?_
      rintro e w13 ⟨rfl, rfl⟩
      have hzt := (hz.below hbd).take (k := j8) hj8
      rw [← HE8.out] at hzt
      go_wp2_with fail
      with_reducible refine (same_any _ _ _ _ _ _ (lz l8) _ hbs12 hzt).mono ?_
      rintro e w13 ⟨rfl, rfl⟩
      clear hbs12 hzt
      go_wp2_with fail
      refine (good_any _ _ _ _ _ _ (by exact hr)).mono ?_
      rintro e w11 ⟨rfl, hb11⟩
      rw [hb7]
      replace hr := hr.below hb11
      replace hs := hs.below hb11
      replace hbs := hbs.below hb11
      replace hu := hu.below hb11
      replace hbd := hbd.trans (hb11.mono hbd.size)
      clear hb11
      go_wp2_with fail
      refine (good_any _ _ _ _ _ _ (by exact hs)).mono ?_
      rintro e w11 ⟨rfl, hb11⟩
      rw [hb8]
      replace hr := hr.below hb11
      replace hs := hs.below hb11
      replace hbs := hbs.below hb11
      replace hu := hu.below hb11
      replace hbd := hbd.trans (hb11.mono hbd.size)
      clear hb11
      go_wp2_with fail
      refine (live6_any _).mono ?_
      rintro e w15 ⟨rfl, hb15⟩
      go_wp2
      go_ret
      exact ⟨rfl, hbd.trans (hb15.mono hbd.size)⟩
    · have hb8 : (c8 == 0) = false := by simpa using hc8
      obtain rfl : l8 = [] := HS8.out.nil hc8
      clear hc8
      go_wp2_with fail
      refine (good_any _ _ _ _ _ _ (by exact hr)).mono ?_
      rintro e w11 ⟨rfl, hb11⟩
      rw [hb7]
      replace hr := hr.below hb11
      replace hs := hs.below hb11
      replace hbs := hbs.below hb11
      replace hu := hu.below hb11
      replace hbd := hbd.trans (hb11.mono hbd.size)
      clear hb11
      go_wp2_with fail
      refine (good_any _ _ _ _ _ _ (by exact hs)).mono ?_
      rintro e w11 ⟨rfl, hb11⟩
      rw [hb8]
      replace hr := hr.below hb11
      replace hs := hs.below hb11
      replace hbs := hbs.below hb11
      replace hu := hu.below hb11
      replace hbd := hbd.trans (hb11.mono hbd.size)
      clear hb11
      go_wp2_with fail
      refine (good_any _ _ _ _ _ _ (by exact hr)).mono ?_
      rintro e w11 ⟨rfl, hb11⟩
      rw [hb7]
      replace hr := hr.below hb11
      replace hs := hs.below hb11
      replace hbs := hbs.below hb11
      replace hu := hu.below hb11
      replace hbd := hbd.trans (hb11.mono hbd.size)
      clear hb11
      go_wp2_with fail
      refine (good_any _ _ _ _ _ _ (by exact hs)).mono ?_
      rintro e w11 ⟨rfl, hb11⟩
      rw [hb8]
      replace hr := hr.below hb11
      replace hs := hs.below hb11
      replace hbs := hbs.below hb11
      replace hu := hu.below hb11
      replace hbd := hbd.trans (hb11.mono hbd.size)
      clear hb11
      go_wp2_with fail
      refine (live6_any _).mono ?_
      rintro e w15 ⟨rfl, hb15⟩
      go_wp2
      go_ret
      exact ⟨rfl, hbd.trans (hb15.mono hbd.size)⟩

set_option maxRecDepth 100000 in
theorem lifted (os : Os) (started : os.Started) (H : Type) (enc : TypeId × Value → H) :
    ReturnsInHanded {} Try.checked os 6 .any (Rows.blobOnceSpec.pre6 enc Try.prog Try.f6 Rows.blobOnceRow.domain false) (Rows.blobOnceSpec.post enc Try.prog Try.f6 false true false false) := by
  refine returnsInHanded_of_change (C := Try.checked) own started (by kernel_rfl) Try.func6
    (ChangeSpec.witness6 (enc := enc) (C := Try.checked) false ⟨#[], #[.slice none 0 0], []⟩ 8 (by kernel_rfl) (by kernel_rfl) (by kernel_rfl) (by kernel_rfl)) ?_
  intro W base args ds gs before hval0 hW hcnd _
  have hval : ∀ (j : Nat) t v, Try.f6.params[j]? = some t → args[j]? = some v → Value.okWide Try.prog W .any base t v := hval0
  have hW' := hW
  obtain ⟨p, q, hA0, hV, rfl, hfz, hnd⟩ := hW
  have hA : DataW.TrodAll enc Try.prog W 0 (fun _ => true) true Try.f6.params.toList args.toList ds p := hA0
  rw [Try.params6] at hA hval
  obtain ⟨v0, vs0, d0, ds0, p0, q0, hargs, rfl, rfl, h0, r0⟩ := trodAll_cons hA
  obtain ⟨rfl, rfl, rfl⟩ := trodAll_nil r0
  obtain rfl : args = #[v0] := by cases args; simp_all
  obtain ⟨rfl, rfl⟩ := trodVars_none hV
  have lt0 : ∀ x ∈ p0, x.block < W.heap.size := by obtain ⟨m, hm⟩ := h0; exact DataW.trod_lt m _ _ _ hm
  clear hA0 hval0
  refine (walk enc W base v0 d0 p0 (hval 0 22 v0 rfl rfl) h0).mono fun e W' ⟨he, bel⟩ => ?_
  subst he
  exact ⟨_, rfl, _, _, _, [], _, [], hW', trodAll_mk1 (shut_bool Try.underlying4 _), (trodAll_cons_mk (Below.trod laidOut (by kernel_rfl) (of_decide_eq_true (by kernel_rfl)) h0 bel lt0) trodAll_mk0), rfl, bel.frame _, fun h => by cases h⟩

theorem over : Rows.blobOnceRow.holds Try.pinned (OpenSpec.ofChange Rows.blobOnceSpec) :=
  OpenClaim.holds_of_wide 6 Try.f6 rfl rfl rfl rfl rfl rfl rfl ⟨rfl, rfl, rfl, rfl, rfl⟩ rfl rfl rfl rfl rfl (by kernel_rfl) Try.func6 (by kernel_rfl)
    (of_decide_eq_true (by kernel_rfl)) (by unfold Func.isWrapper; first | (rw [if_pos (by decide +kernel)]; kernel_rfl) | (rw [if_neg (by decide +kernel)]; exact ⟨rfl, rfl⟩))
    (fun os started H enc _ => lifted os started H enc)

/-- THE STATEMENT. -/
theorem proved : Rows.BlobOnceSaid := over
#print axioms proved
end Go.Proofs.Ytkedmhopajpkhaa.blobOnce
