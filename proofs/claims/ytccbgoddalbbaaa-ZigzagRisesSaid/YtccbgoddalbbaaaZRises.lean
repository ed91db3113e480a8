/- ZigzagRises: called with any numbers, the law returns true; no condition. -/
import Derived.Test.YtccbgoddalbbaaaRows
import Derived.Test.YtccbgoddalbbaaaZigL
import Derived.ProofKit
import Derived.OpenShut
import Derived.ShutString
import Derived.ChangeOld
namespace Go.Proofs.Ytccbgoddalbbaaa.zigzagRises
open Go.ChangeShapes Go.WideShapes Go.ChangeAt Go.RowKit
open Go.ChangeMaps (open_string shut_string)
set_option linter.unusedVariables false

theorem own : ownKnob Try.prog.godebug = none := by kernel_rfl
theorem laidOut : laidOutB Try.prog = true := by kernel_rfl
open Cur Mem

set_option maxRecDepth 100000 in
set_option maxHeartbeats 4000000 in
theorem walk {H : Type} (enc : TypeId × Value → H) (w : World) (base : Nat) (v0 : Value) (d0 : DataW H) (p0 : List MemPlace) (g0 : Value.okWide Try.prog w .any base 46 v0) (h0 : DataW.Trod enc Try.prog w 0 (fun _ => true) true 46 v0 d0 p0) :
    Calls Try.prog 4 #[v0] w fun e w' => e = .returned (.bool true) ∧ Below w.heap.size w w' := by
  obtain ⟨a, n, m, z, rfl, hnm, hz, hby, hnil⟩ := open_u64s g0 h0
  clear g0 h0
  by_cases hn : 200 < (n : Int)
  · go_enter Try.func4, Try.ntmps4
    go_wp2_with fail
    refine (live5_any _).mono ?_
    rintro e w1 ⟨rfl, hb⟩
    go_wp2
    go_ret
    exact ⟨rfl, hb⟩
  · have HBY := Lib.hid hby
    clear hby
    have hlen := rzk_len z z.length
    rw [hz.1] at hlen
    have HLEN : Hid ((rz z).length ≤ 2000) := Lib.hid (by unfold rz; rw [hz.1]; omega)
    clear hlen
    go_enter Try.func4, Try.ntmps4
    go_wp2_with fail
    refine (wnew_any 3000 w (by omega)).mono ?_
    rintro e w1 ⟨b, rfl, hbb, hb1, hw1⟩
    rw [if_neg (by omega)] at hw1
    have hz1 := hz.below hb1
    have hoff : 0 < n → ∀ a', a = some a' → ¬ WS b none a'.block := by
      intro h0 a' ha
      have := hz.2.lt (by rw [List.length_map, hz.1]; exact h0) a' ha
      rintro (e | e)
      · omega
      · cases e
    cases hr : risesB z with
    | false =>
      have HR := Lib.hid hr
      clear hr hoff
      go_wp2_with fail
      refine (putrising_no _ n m z hw1 hz1 (by omega) HBY.out HR.out).mono ?_
      rintro e w2 ⟨rfl, hk2, hw2⟩
      rw [if_pos rfl] at hw2
      have hb2 := hw1.belowOf hb1 (Nat.le_refl _) hk2 (Nat.le_refl _)
      clear hk2 hw1 hz1 hb1
      go_wp2_with fail
      refine (wbytes_bad hw2 (by decide)).mono ?_
      rintro e w3 ⟨rfl, rfl⟩
      go_wp2_with fail
      refine (rrises_any _ n m z _ (hz.below hb2) (by omega) HBY.out).mono ?_
      rintro e w3 ⟨rfl, hb3⟩
      rw [HR.out]
      have hb4 := hb2.trans (hb3.mono hb2.size)
      go_wp2_with fail
      refine (rises_any _ n m z _ (hz.below hb4) (by omega) HBY.out).mono ?_
      rintro e w5 ⟨rfl, hb5⟩
      rw [HR.out]
      have hb6 := hb4.trans (hb5.mono hb4.size)
      go_wp2_with fail
      refine (rsize_any _ n m z _ (hz.below hb6) (by omega) HBY.out).mono ?_
      rintro e w7 ⟨rfl, hb7⟩
      rw [if_neg (by rw [HR.out]; simp)]
      have hb8 := hb6.trans (hb7.mono hb6.size)
      go_wp2_with fail
      refine (live5_any _).mono ?_
      rintro e w9 ⟨rfl, hb9⟩
      go_wp2
      go_ret
      exact ⟨rfl, hb8.trans (hb9.mono hb8.size)⟩
    | true =>
      have HR := Lib.hid hr
      clear hr
      have HOFF := Lib.hid hoff
      clear hoff
      go_wp2_with fail
      refine (putrising_yes _ n m z hw1 hz1 HOFF.out (by omega) HBY.out HR.out (by have := HLEN.out; simp; omega) (by simp) hb1.size).mono ?_
      rintro e w2 ⟨r', rfl, hk2, hg2, hw2⟩
      have hb2 := hw1.belowOf hb1 (Nat.le_refl _) hk2 (Nat.le_refl _)
      rw [List.nil_append] at hw2
      clear hk2 hw1 hz1 hb1 hg2
      go_wp2_with fail
      refine (wbytes_good hw2 (by have := HLEN.out; omega)).mono ?_
      rintro e w3 ⟨g, rfl, hg, hb3, hblk⟩
      have hbs3 := Bs.of_block hblk
      have hbd3 := hb2.trans (hb3.mono hb2.size)
      clear hblk hb3 hg hb2 hw2
      go_wp2_with fail
      refine (rrises_any _ n m z _ (hz.below hbd3) (by omega) HBY.out).mono ?_
      rintro e w4 ⟨rfl, hb4⟩
      rw [HR.out]
      have hbd4 := hbd3.trans (hb4.mono hbd3.size)
      have hbs4 := hbs3.below hb4
      clear hb4 hbs3 hbd3
      go_wp2_with fail
      refine (rises_any _ n m z _ (hz.below hbd4) (by omega) HBY.out).mono ?_
      rintro e w5 ⟨rfl, hb5⟩
      rw [HR.out]
      have hbd5 := hbd4.trans (hb5.mono hbd4.size)
      have hbs5 := hbs4.below hb5
      clear hb5 hbs4 hbd4
      go_wp2_with fail
      refine (rrz_any _ n m z _ (hz.below hbd5) (by omega) HBY.out HR.out).mono ?_
      rintro e w6 ⟨A6, m6, rfl, hb6, hbs6, _, _⟩
      have hbd6 := hbd5.trans (hb6.mono hbd5.size)
      have hbs7 := hbs5.below hb6
      go_wp2_with fail
      refine (same_any _ _ _ _ _ _ (rz z) _ hbs7 hbs6).mono ?_
      rintro e w7 ⟨rfl, rfl⟩
      go_wp2_with fail
      refine (rsize_any _ n m z _ (hz.below hbd6) (by omega) HBY.out).mono ?_
      rintro e w8 ⟨rfl, hb8⟩
      rw [if_pos HR.out]
      have hbd8 := hbd6.trans (hb8.mono hbd6.size)
      go_wp2_with fail
      refine (live5_any _).mono ?_
      rintro e w9 ⟨rfl, hb9⟩
      go_wp2
      go_ret
      exact ⟨rfl, hbd8.trans (hb9.mono hbd8.size)⟩

set_option maxRecDepth 100000 in
theorem lifted (os : Os) (started : os.Started) (H : Type) (enc : TypeId × Value → H) :
    ReturnsInHanded {} Try.checked os 4 .any (Rows.zigzagRisesSpec.pre6 enc Try.prog Try.f4 Rows.zigzagRisesRow.domain false) (Rows.zigzagRisesSpec.post enc Try.prog Try.f4 false true false false) := by
  refine returnsInHanded_of_change (C := Try.checked) own started (by kernel_rfl) Try.func4
    (ChangeSpec.witness6 (enc := enc) (C := Try.checked) false ⟨#[], #[.slice none 0 0], []⟩ 8 (by kernel_rfl) (by kernel_rfl) (by kernel_rfl) (by kernel_rfl)) ?_
  intro W base args ds gs before hval0 hW hcnd _
  have hval : ∀ (j : Nat) t v, Try.f4.params[j]? = some t → args[j]? = some v → Value.okWide Try.prog W .any base t v := hval0
  have hW' := hW
  obtain ⟨p, q, hA0, hV, rfl, hfz, hnd⟩ := hW
  have hA : DataW.TrodAll enc Try.prog W 0 (fun _ => true) true Try.f4.params.toList args.toList ds p := hA0
  rw [Try.params4] at hA hval
  obtain ⟨v0, vs0, d0, ds0, p0, q0, hargs, rfl, rfl, h0, r0⟩ := trodAll_cons hA
  obtain ⟨rfl, rfl, rfl⟩ := trodAll_nil r0
  obtain rfl : args = #[v0] := by cases args; simp_all
  obtain ⟨rfl, rfl⟩ := trodVars_none hV
  have lt0 : ∀ x ∈ p0, x.block < W.heap.size := by obtain ⟨m, hm⟩ := h0; exact DataW.trod_lt m _ _ _ hm
  clear hA0 hval0
  refine (walk enc W base v0 d0 p0 (hval 0 46 v0 rfl rfl) h0).mono fun e W' ⟨he, bel⟩ => ?_
  subst he
  exact ⟨_, rfl, _, _, _, [], _, [], hW', trodAll_mk1 (shut_bool Try.underlying4 _), (trodAll_cons_mk (Below.trod laidOut (by kernel_rfl) (of_decide_eq_true (by kernel_rfl)) h0 bel lt0) trodAll_mk0), rfl, bel.frame _, fun h => by cases h⟩

theorem over : Rows.zigzagRisesRow.holds Try.pinned (OpenSpec.ofChange Rows.zigzagRisesSpec) :=
  OpenClaim.holds_of_wide 4 Try.f4 rfl rfl rfl rfl rfl rfl rfl ⟨rfl, rfl, rfl, rfl, rfl⟩ rfl rfl rfl rfl rfl (by kernel_rfl) Try.func4 (by kernel_rfl)
    (of_decide_eq_true (by kernel_rfl)) (by unfold Func.isWrapper; first | (rw [if_pos (by decide +kernel)]; kernel_rfl) | (rw [if_neg (by decide +kernel)]; exact ⟨rfl, rfl⟩))
    (fun os started H enc _ => lifted os started H enc)

/-- THE STATEMENT. -/
theorem proved : Rows.ZigzagRisesSaid := over
#print axioms proved
end Go.Proofs.Ytccbgoddalbbaaa.zigzagRises
