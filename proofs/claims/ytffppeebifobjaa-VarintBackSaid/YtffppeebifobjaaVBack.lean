/- VarintBack: called with any two numbers and any bytes, the law returns true; no condition. -/
import Derived.Test.YtffppeebifobjaaRows
import Derived.Test.YtffppeebifobjaaVarL
import Derived.Test.YtffppeebifobjaaOpenA
import Derived.IntWalk
import Derived.ProofKit
import Derived.OpenShut
import Derived.ShutString
import Derived.ChangeOld
namespace Go.Proofs.Ytffppeebifobjaa.varintBack
open Go.ChangeShapes Go.WideShapes Go.ChangeAt Go.RowKit
open Go.ChangeMaps (open_string shut_string)
set_option linter.unusedVariables false

theorem own : ownKnob Try.prog.godebug = none := by kernel_rfl
theorem laidOut : laidOutB Try.prog = true := by kernel_rfl
open Cur Mem

theorem Own.of_row {w : World} {g B : Nat} {z : List Int} (h : Blk w g (z.map (Value.int .u8)).toArray 5) (hB : B ≤ g) (hm : z.length ≤ 1000000) : Own w B (.slice (some ⟨g, 0, none⟩) z.length z.length) z :=
  ⟨by simp, .inr ⟨g, z.length, _, rfl, hB, h, Nat.le_refl _, by simp only [maxLen]; omega, by simp, by rw [Nat.mul_one]; exact List.take_of_length_le (by simp)⟩⟩

set_option maxRecDepth 100000 in
set_option maxHeartbeats 1000000 in
theorem walk {H : Type} (enc : TypeId × Value → H) (w : World) (base : Nat) (v0 : Value) (d0 : DataW H) (p0 : List MemPlace) (g0 : Value.okWide Try.prog w .any base 22 v0) (h0 : DataW.Trod enc Try.prog w 0 (fun _ => true) true 22 v0 d0 p0) (v1 : Value) (d1 : DataW H) (p1 : List MemPlace) (g1 : Value.okWide Try.prog w .any base 22 v1) (h1 : DataW.Trod enc Try.prog w 0 (fun _ => true) true 22 v1 d1 p1) (v2 : Value) (d2 : DataW H) (p2 : List MemPlace) (g2 : Value.okWide Try.prog w .any base 23 v2) (h2 : DataW.Trod enc Try.prog w 0 (fun _ => true) true 23 v2 d2 p2) :
    Calls Try.prog 5 #[v0, v1, v2] w fun e w' => e = .returned (.bool true) ∧ Below w.heap.size w w' := by
  obtain ⟨x, rfl, x0, x1⟩ := open_u64 g0 h0
  obtain ⟨y, rfl, y0, y1⟩ := open_u64 g1 h1
  obtain ⟨a, n, m, z, rfl, hnm, hz, hby, hnil⟩ := open_bytes g2 h2
  clear g0 h0 g1 h1 g2 h2
  by_cases hn : 300 < (n : Int)
  · go_enter Try.func5, Try.ntmps5
    go_wp2_with fail
    refine (live4_any _).mono ?_
    rintro e w1 ⟨rfl, hb⟩
    go_wp2
    go_ret
    exact ⟨rfl, hb⟩
  · have hmono : ¬ x < y → vsz y ≤ vsz x := fun h => vsz_mono y0 x1 (by omega)
    have hzl := hz.1
    have hx10 := vsz_le x
    have hxp := vsz_pos x
    have hput := vgo_put x z x0 x1
    have hbb : ∀ b ∈ vz x ++ z, 0 ≤ b ∧ b < 256 := fun b hb => by
      rcases List.mem_append.1 hb with h | h
      · exact vz_byte x x0 x1 b h
      · exact hby b h
    have HB := Lib.hid hbb
    have HP := Lib.hid hput
    have HM := Lib.hid hmono
    have HZL := Lib.hid hzl
    have HVL := Lib.hid (vz_length x)
    clear hbb hput hmono hby hzl
    go_enter Try.func5, Try.ntmps5
    go_wp2_with fail
    refine (vbytes_any _ _ x0 x1).mono ?_
    rintro e w1 ⟨g, rfl, hg, hb1, hblk⟩
    have hown := Own.of_row (B := w.heap.size) hblk hg (by rw [HVL.out]; omega)
    rw [HVL.out] at hown
    have hz1 := hz.below hb1
    have hB := hb1.size
    clear hblk hg
    go_wp2_with (at_builtin; go_must (refine list_append_gr rfl (.tmp 16) (.tmp 17) rfl w.heap.size (.slice (some ⟨g, 0, none⟩) (vsz x) (vsz x)) (vz x) rfl hown _ _ _ _ rfl hz1 hnil (by rw [HVL.out]; omega) hB ?_; intro v' w2 ho' hg' hgr; have hb2 := Own.belowOf hb1 hB hown hg'; obtain ⟨A2, cap2, hv⟩ := ho'.slice; rw [List.length_append, HVL.out, HZL.out] at hv; subst hv; have hcap := ho'.cap; clear hg' hgr hz1))
    refine (vget_any _ _ _ (vz x ++ z) _ ho'.bs.2 hcap (by omega) HB.out).mono ?_
    rintro e w3 ⟨rfl, hb3⟩
    rw [HP.out]
    have hb3' := hb2.trans (hb3.mono hb2.size)
    have hb4 := hb3'.trans ((below_one w3 (.cells #[.int .i64 0, .int .i64 0] 37)).mono hb3'.size)
    clear hb3 hb3' hb2 ho' hcap
    go_wp2_with fail
    refine (vsize_any _ _ x0 x1).mono ?_
    rintro e w5 ⟨rfl, rfl⟩
    have s0 : (1 : Int) ≤ vsz x := by omega
    have s1 : (vsz x : Int) ≤ 10 := by omega
    by_cases hxy : x < y
    · go_wp2_with fail
      refine (live4_any _).mono ?_
      rintro e w6 ⟨rfl, hb6⟩
      go_wp2
      go_ret
      exact ⟨rfl, hb4.trans (hb6.mono hb4.size)⟩
    · have hle : (vsz y : Int) ≤ vsz x := by have := HM.out (by omega); omega
      have hxd : decide (x < y) = false := by simpa using hxy
      go_wp2_with fail
      refine (vsize_any _ _ x0 x1).mono ?_
      rintro e w5 ⟨rfl, rfl⟩
      go_wp2_with fail
      refine (vsize_any _ _ y0 y1).mono ?_
      rintro e w5 ⟨rfl, rfl⟩
      go_wp2_with fail
      refine (live4_any _).mono ?_
      rintro e w6 ⟨rfl, hb6⟩
      go_wp2
      go_ret
      exact ⟨rfl, hb4.trans (hb6.mono hb4.size)⟩

set_option maxRecDepth 100000 in
theorem lifted (os : Os) (started : os.Started) (H : Type) (enc : TypeId × Value → H) :
    ReturnsInHanded {} Try.checked os 5 .any (Rows.varintBackSpec.pre6 enc Try.prog Try.f5 Rows.varintBackRow.domain false) (Rows.varintBackSpec.post enc Try.prog Try.f5 false true false false) := by
  refine returnsInHanded_of_change (C := Try.checked) own started (by kernel_rfl) Try.func5
    (ChangeSpec.witness6 (enc := enc) (C := Try.checked) false ⟨#[], #[.int .u64 0, .int .u64 0, .slice none 0 0], []⟩ 8 (by kernel_rfl) (by kernel_rfl) (by kernel_rfl) (by kernel_rfl)) ?_
  intro W base args ds gs before hval0 hW hcnd _
  have hval : ∀ (j : Nat) t v, Try.f5.params[j]? = some t → args[j]? = some v → Value.okWide Try.prog W .any base t v := hval0
  have hW' := hW
  obtain ⟨p, q, hA0, hV, rfl, hfz, hnd⟩ := hW
  have hA : DataW.TrodAll enc Try.prog W 0 (fun _ => true) true Try.f5.params.toList args.toList ds p := hA0
  rw [Try.params5] at hA hval
  obtain ⟨v0, vs0, d0, ds0, p0, q0, hargs, rfl, rfl, h0, r0⟩ := trodAll_cons hA
  obtain ⟨v1, vs1, d1, ds1, p1, q1, rfl, rfl, rfl, h1, r1⟩ := trodAll_cons r0
  obtain ⟨v2, vs2, d2, ds2, p2, q2, rfl, rfl, rfl, h2, r2⟩ := trodAll_cons r1
  obtain ⟨rfl, rfl, rfl⟩ := trodAll_nil r2
  obtain rfl : args = #[v0, v1, v2] := by cases args; simp_all
  obtain ⟨rfl, rfl⟩ := trodVars_none hV
  have lt0 : ∀ x ∈ p0, x.block < W.heap.size := by obtain ⟨m, hm⟩ := h0; exact DataW.trod_lt m _ _ _ hm
  have lt1 : ∀ x ∈ p1, x.block < W.heap.size := by obtain ⟨m, hm⟩ := h1; exact DataW.trod_lt m _ _ _ hm
  have lt2 : ∀ x ∈ p2, x.block < W.heap.size := by obtain ⟨m, hm⟩ := h2; exact DataW.trod_lt m _ _ _ hm
  clear hA0 hval0
  refine (walk enc W base v0 d0 p0 (hval 0 22 v0 rfl rfl) h0 v1 d1 p1 (hval 1 22 v1 rfl rfl) h1 v2 d2 p2 (hval 2 23 v2 rfl rfl) h2).mono fun e W' ⟨he, bel⟩ => ?_
  subst he
  exact ⟨_, rfl, _, _, _, [], _, [], hW', trodAll_mk1 (shut_bool Try.underlying4 _), (trodAll_cons_mk (Below.trod laidOut (by kernel_rfl) (of_decide_eq_true (by kernel_rfl)) h0 bel lt0) (trodAll_cons_mk (Below.trod laidOut (by kernel_rfl) (of_decide_eq_true (by kernel_rfl)) h1 bel lt1) (trodAll_cons_mk (Below.trod laidOut (by kernel_rfl) (of_decide_eq_true (by kernel_rfl)) h2 bel lt2) trodAll_mk0))), rfl, bel.frame _, fun h => by cases h⟩

theorem over : Rows.varintBackRow.holds Try.pinned (OpenSpec.ofChange Rows.varintBackSpec) :=
  OpenClaim.holds_of_wide 5 Try.f5 rfl rfl rfl rfl rfl rfl rfl ⟨rfl, rfl, rfl, rfl, rfl⟩ rfl rfl rfl rfl rfl (by kernel_rfl) Try.func5 (by kernel_rfl)
    (of_decide_eq_true (by kernel_rfl)) (by unfold Func.isWrapper; first | (rw [if_pos (by decide +kernel)]; kernel_rfl) | (rw [if_neg (by decide +kernel)]; exact ⟨rfl, rfl⟩))
    (fun os started H enc _ => lifted os started H enc)

/-- THE STATEMENT. -/
theorem proved : Rows.VarintBackSaid := over
#print axioms proved
end Go.Proofs.Ytffppeebifobjaa.varintBack
