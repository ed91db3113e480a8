/- VarintWrites: called with any number, any bytes and any int, the law returns true; no condition. -/
import Derived.Test.YtffppeebifobjaaRows
import Derived.Test.YtffppeebifobjaaVarL
import Derived.Test.YtffppeebifobjaaOpenA
import Derived.IntWalk
import Derived.ProofKit
import Derived.OpenShut
import Derived.ShutString
import Derived.ChangeOld
namespace Go.Proofs.Ytffppeebifobjaa.varintWrites
open Go.ChangeShapes Go.WideShapes Go.ChangeAt Go.RowKit
open Go.ChangeMaps (open_string shut_string)
set_option linter.unusedVariables false

theorem own : ownKnob Try.prog.godebug = none := by kernel_rfl
theorem laidOut : laidOutB Try.prog = true := by kernel_rfl
open Cur Mem

theorem Own.of_row {w : World} {g B : Nat} {z : List Int} (h : Blk w g (z.map (Value.int .u8)).toArray 5) (hB : B ≤ g) (hm : z.length ≤ 1000000) : Own w B (.slice (some ⟨g, 0, none⟩) z.length z.length) z :=
  ⟨by simp, .inr ⟨g, z.length, _, rfl, hB, h, Nat.le_refl _, by simp only [maxLen]; omega, by simp, by rw [Nat.mul_one]; exact List.take_of_length_le (by simp)⟩⟩

theorem put_two (z y : List Int) (M : Int) (h0 : 0 ≤ M) :
    ((z.length : Int) + y.length ≤ M → putC (putZ [] z M 0) y M (putC [] z M 0) = 0 ∧ putZ (putZ [] z M 0) y M (putC [] z M 0) = z ++ y) ∧
    (¬ (z.length : Int) + y.length ≤ M → putC (putZ [] z M 0) y M (putC [] z M 0) = 2) := by
  constructor
  · intro h
    have e1 : putZ [] z M 0 = z := by unfold putZ; rw [if_pos ⟨rfl, by simp; omega⟩]; rfl
    have e2 : putC [] z M 0 = 0 := by unfold putC fitsC; rw [if_neg (by simp; omega)]
    rw [e1, e2]
    exact ⟨by unfold putC fitsC; rw [if_neg (by omega)], by unfold putZ; rw [if_pos ⟨rfl, by omega⟩]⟩
  · intro h
    by_cases hz : (z.length : Int) ≤ M
    · have e1 : putZ [] z M 0 = z := by unfold putZ; rw [if_pos ⟨rfl, by simp; omega⟩]; rfl
      have e2 : putC [] z M 0 = 0 := by unfold putC fitsC; rw [if_neg (by simp; omega)]
      rw [e1, e2]
      unfold putC fitsC; rw [if_pos ⟨rfl, by omega⟩]
    · have e2 : putC [] z M 0 = 2 := by unfold putC fitsC; rw [if_pos ⟨rfl, by simp; omega⟩]
      rw [e2]
      unfold putC fitsC; rw [if_neg (fun h => by omega)]

theorem putZ_len' (z y : List Int) (M c : Int) : (putZ z y M c).length ≤ z.length + y.length := by
  unfold putZ; split
  · rw [List.length_append]; exact Nat.le_refl _
  · omega


set_option maxRecDepth 100000 in
set_option maxHeartbeats 1000000 in
theorem walk {H : Type} (enc : TypeId × Value → H) (w : World) (base : Nat) (v0 : Value) (d0 : DataW H) (p0 : List MemPlace) (g0 : Value.okWide Try.prog w .any base 22 v0) (h0 : DataW.Trod enc Try.prog w 0 (fun _ => true) true 22 v0 d0 p0) (v1 : Value) (d1 : DataW H) (p1 : List MemPlace) (g1 : Value.okWide Try.prog w .any base 23 v1) (h1 : DataW.Trod enc Try.prog w 0 (fun _ => true) true 23 v1 d1 p1) (v2 : Value) (d2 : DataW H) (p2 : List MemPlace) (g2 : Value.okWide Try.prog w .any base 3 v2) (h2 : DataW.Trod enc Try.prog w 0 (fun _ => true) true 3 v2 d2 p2) :
    Calls Try.prog 3 #[v0, v1, v2] w fun e w' => e = .returned (.bool true) ∧ Below w.heap.size w w' := by
  obtain ⟨x, rfl, x0, x1⟩ := open_u64 g0 h0
  obtain ⟨a, n, m, z, rfl, hnm, hz, hby, hnil⟩ := open_bytes g1 h1
  obtain ⟨most, rfl, m0, m1⟩ := open_i64 g2 h2
  clear g0 h0 g1 h1 g2 h2
  by_cases hn : 300 < (n : Int)
  · go_enter Try.func3, Try.ntmps3
    go_wp2_with fail
    refine (live4_any _).mono ?_
    rintro e w1 ⟨rfl, hb⟩
    go_wp2
    go_ret
    exact ⟨rfl, hb⟩
  · have HVL := Lib.hid (vz_length x)
    have hx10 := vsz_le x
    have hzl := hz.1
    subst hzl
    obtain ⟨t1, t2⟩ := put_two z (vz x) (max most 0) (by omega)
    rw [HVL.out] at t1 t2
    have T1 := Lib.hid t1
    have T2 := Lib.hid t2
    have hM : (if most < 0 then 0 else most) = max most 0 := by split <;> omega
    have HM := Lib.hid hM
    clear t1 t2 hM
    go_enter Try.func3, Try.ntmps3
    go_wp2_with fail
    refine (wnew_any _ _ m1).mono ?_
    rintro e w1 ⟨b, rfl, hb, hb1, hw1⟩
    rw [HM.out] at hw1
    have hz1 := hz.below hb1
    go_wp2_with fail
    refine (wput_any _ _ _ hw1 hz1 hnil (fun hp a ha hs => by have := WS.ge hw1 _ hs; have := hz.lt hp a ha; omega) (by simp; omega) hb1.size).mono ?_
    rintro e w2 ⟨r2, rfl, hk2, hg2, hw2⟩
    have hb2 := hw1.belowOf hb1 (Nat.le_refl _) hk2 (Nat.le_refl _)
    have hl1 := putZ_len' [] z (max most 0) 0
    clear hw1 hk2 hg2 hb1 hz1
    go_wp2_with fail
    refine (vput_any _ hw2 x0 x1 (by simp at hl1; omega) hb2.size).mono ?_
    rintro e w3 ⟨r3, rfl, hk3, hg3, hw3⟩
    have hb3 := hw2.belowOf hb2 (Nat.le_refl _) hk3 (Nat.le_refl _)
    have hl2 := putZ_len' (putZ [] z (max most 0) 0) (vz x) (max most 0) (putC [] z (max most 0) 0)
    clear hw2 hk3 hg3 hb2
    by_cases hroom : (z.length : Int) + vsz x ≤ max most 0
    · obtain ⟨e1, e2⟩ := T1.out hroom
      rw [e1, e2] at hw3
      clear hl1 hl2 e1 e2
      go_wp2_with fail
      refine (wbytes_good hw3 (by rw [List.length_append, HVL.out]; omega)).mono ?_
      rintro e w4 ⟨g4, rfl, hg4, hb4, hblk4⟩
      have hs4 := Bs.of_block hblk4
      rw [List.length_append, HVL.out] at hs4 ⊢
      have hbd4 := hb3.trans (hb4.mono hb3.size)
      clear hw3 hb3 hb4 hblk4
      go_wp2_with fail
      refine (rbytes_any 10 _ _ (vsz_le _) x0 x1).mono ?_
      rintro e w5 ⟨A5, m5, rfl, hb5, _, _, _⟩
      rw [HVL.out]
      have hs5 := hs4.below hb5
      have hbd5 := hbd4.trans (hb5.mono hbd4.size)
      clear hs4 hbd4 hb5
      have hown0 := Own.of_row (B := w5.heap.size) (z := []) (Blk.new w5 #[] 5) (Nat.le_refl _) (by simp)
      have hz5 := hz.below hbd5
      have hzA := hz5.below (below_one w5 (.cells #[] 5))
      go_wp2_with (at_builtin; go_must (refine list_append_gw (by first | rfl | simp [Region.wanted, yielded]) (.tmp 45) (.tmp 46) rfl w5.heap.size (.slice (some ⟨w5.heap.size, 0, none⟩) 0 0) [] rfl hown0 _ _ _ _ rfl hzA hnil (by simp; omega) (by simp) ?_; intro v6 w6 ho6 hg6 hgr6; have hb6 := Own.belowOf (below_one w5 (.cells #[] 5)) (by simp) hown0 hg6; rw [List.nil_append] at ho6; obtain ⟨A6, c6, hv6⟩ := ho6.slice; subst hv6; clear hg6 hgr6 hzA hown0))
      refine (rbytes_any 10 _ _ (vsz_le _) x0 x1).mono ?_
      rintro e w7 ⟨A7, m7, rfl, hb7, hbs7, hnil7, _⟩
      have ho7 := ho6.below hb7
      have hb67 := hb6.trans (hb7.mono hb6.size)
      have hB7 := hb67.size
      clear ho6 hb6 hb7
      go_wp2_with (at_builtin; go_must (refine list_append_gw (by first | rfl | simp [Region.wanted, yielded]) (.tmp 47) (.tmp 49) rfl w5.heap.size (.slice A6 z.length c6) z rfl ho7 _ _ _ _ rfl hbs7 hnil7 (by rw [HVL.out]; omega) hB7 ?_; intro v8 w8 ho8 hg8 hgr8; have hb8 := Own.belowOf hb67 hB7 ho7 hg8; obtain ⟨A8, c8, hv8⟩ := ho8.slice; rw [List.length_append, HVL.out] at hv8; subst hv8; clear hg8 hgr8 hbs7 ho7))
      have hs8 := hs5.below hb8
      have hbd7 := hbd5.trans (hb8.mono hbd5.size)
      clear hs5 hbd5 hz5 hb67
      refine (same_any _ _ _ _ _ _ (z ++ vz x) _ hs8 ho8.bs.2).mono ?_
      rintro e w9 ⟨rfl, rfl⟩
      clear ho8 hs8 hb8
      go_wp2_with fail
      refine (vbytes_any _ _ x0 x1).mono ?_
      rintro e w8 ⟨g8, rfl, hg8, hb8, hblk8⟩
      have hs8 := Bs.of_block hblk8
      rw [HVL.out] at hs8
      have hbd8 := hbd7.trans (hb8.mono hbd7.size)
      go_wp2_with fail
      refine (rbytes_any 10 _ _ (vsz_le _) x0 x1).mono ?_
      rintro e w9 ⟨A9, m9, rfl, hb9, hbs9, _, _⟩
      rw [HVL.out] at hbs9 ⊢
      have hbd9 := hbd8.trans (hb9.mono hbd8.size)
      have hs9 := hs8.below hb9
      go_wp2_with fail
      refine (same_any _ _ _ _ _ _ (vz x) _ hs9 hbs9).mono ?_
      rintro e w10 ⟨rfl, rfl⟩
      go_wp2_with fail
      refine (vsize_any _ _ x0 x1).mono ?_
      rintro e w10 ⟨rfl, rfl⟩
      go_wp2_with fail
      refine (rbytes_any 10 _ _ (vsz_le _) x0 x1).mono ?_
      rintro e w11 ⟨A11, m11, rfl, hb11, _, _, _⟩
      rw [HVL.out]
      have hbd11 := hbd9.trans (hb11.mono hbd9.size)
      go_wp2_with fail
      refine (live4_any _).mono ?_
      rintro e w12 ⟨rfl, hb12⟩
      go_wp2
      go_ret
      exact ⟨rfl, hbd11.trans (hb12.mono hbd11.size)⟩
    · have e1 := T2.out (by omega)
      rw [e1] at hw3
      clear e1
      go_wp2_with fail
      refine (wbytes_bad hw3 rfl).mono ?_
      rintro e w4 ⟨rfl, rfl⟩
      go_wp2_with fail
      refine (rbytes_any 10 _ _ (vsz_le _) x0 x1).mono ?_
      rintro e w5 ⟨A5, m5, rfl, hb5, _, _, _⟩
      rw [HVL.out]
      have hbd7 := hb3.trans (hb5.mono hb3.size)
      clear hl1 hl2
      go_wp2_with fail
      refine (vbytes_any _ _ x0 x1).mono ?_
      rintro e w8 ⟨g8, rfl, hg8, hb8, hblk8⟩
      have hs8 := Bs.of_block hblk8
      rw [HVL.out] at hs8
      have hbd8 := hbd7.trans (hb8.mono hbd7.size)
      go_wp2_with fail
      refine (rbytes_any 10 _ _ (vsz_le _) x0 x1).mono ?_
      rintro e w9 ⟨A9, m9, rfl, hb9, hbs9, _, _⟩
      rw [HVL.out] at hbs9 ⊢
      have hbd9 := hbd8.trans (hb9.mono hbd8.size)
      have hs9 := hs8.below hb9
      go_wp2_with fail
      refine (same_any _ _ _ _ _ _ (vz x) _ hs9 hbs9).mono ?_
      rintro e w10 ⟨rfl, rfl⟩
      go_wp2_with fail
      refine (vsize_any _ _ x0 x1).mono ?_
      rintro e w10 ⟨rfl, rfl⟩
      go_wp2_with fail
      refine (rbytes_any 10 _ _ (vsz_le _) x0 x1).mono ?_
      rintro e w11 ⟨A11, m11, rfl, hb11, _, _, _⟩
      rw [HVL.out]
      have hbd11 := hbd9.trans (hb11.mono hbd9.size)
      go_wp2_with fail
      refine (live4_any _).mono ?_
      rintro e w12 ⟨rfl, hb12⟩
      go_wp2
      go_ret
      exact ⟨rfl, hbd11.trans (hb12.mono hbd11.size)⟩

set_option maxRecDepth 100000 in
theorem lifted (os : Os) (started : os.Started) (H : Type) (enc : TypeId × Value → H) :
    ReturnsInHanded {} Try.checked os 3 .any (Rows.varintWritesSpec.pre6 enc Try.prog Try.f3 Rows.varintWritesRow.domain false) (Rows.varintWritesSpec.post enc Try.prog Try.f3 false true false false) := by
  refine returnsInHanded_of_change (C := Try.checked) own started (by kernel_rfl) Try.func3
    (ChangeSpec.witness6 (enc := enc) (C := Try.checked) false ⟨#[], #[.int .u64 0, .slice none 0 0, .int .i64 0], []⟩ 8 (by kernel_rfl) (by kernel_rfl) (by kernel_rfl) (by kernel_rfl)) ?_
  intro W base args ds gs before hval0 hW hcnd _
  have hval : ∀ (j : Nat) t v, Try.f3.params[j]? = some t → args[j]? = some v → Value.okWide Try.prog W .any base t v := hval0
  have hW' := hW
  obtain ⟨p, q, hA0, hV, rfl, hfz, hnd⟩ := hW
  have hA : DataW.TrodAll enc Try.prog W 0 (fun _ => true) true Try.f3.params.toList args.toList ds p := hA0
  rw [Try.params3] at hA hval
  obtain ⟨v0, vs0, d0, ds0, p0, q0, hargs, rfl, rfl, h0, r0⟩ := trodAll_cons hA
  obtain ⟨v1, vs1, d1, ds1, p1, q1, rfl, rfl, rfl, h1, r1⟩ := trodAll_cons r0
  obtain ⟨v2, vs2, d2, ds2, p2, q2, rfl, rfl, rfl, h2, r2⟩ := trodAll_cons r1
  obtain ⟨rfl, rfl, rfl⟩ := trodAll_nil r2
  obtain rfl : args = #[v0, v1, v2] := by cases args; simp_all
  obtain ⟨rfl, rfl⟩ := trodVars_none hV
  have lt0 : ∀ x ∈ p0, x.block < W.heap.size := by obtain ⟨m, hm⟩ := h0; exact DataW.trod_lt m _ _ _ hm
  have lt1 : ∀ x ∈ p1, x.block < W.heap.size := by obtain ⟨m, hm⟩ := h1; exact DataW.trod_lt m _ _ _ hm
  have lt2 : ∀ x ∈ p2, x.block < W.heap.size := by obtain ⟨m, hm⟩ := h2; exact DataW.trod_lt m _ _ _ hm
  clear hA0 hval0
  refine (walk enc W base v0 d0 p0 (hval 0 22 v0 rfl rfl) h0 v1 d1 p1 (hval 1 23 v1 rfl rfl) h1 v2 d2 p2 (hval 2 3 v2 rfl rfl) h2).mono fun e W' ⟨he, bel⟩ => ?_
  subst he
  exact ⟨_, rfl, _, _, _, [], _, [], hW', trodAll_mk1 (shut_bool Try.underlying4 _), (trodAll_cons_mk (Below.trod laidOut (by kernel_rfl) (of_decide_eq_true (by kernel_rfl)) h0 bel lt0) (trodAll_cons_mk (Below.trod laidOut (by kernel_rfl) (of_decide_eq_true (by kernel_rfl)) h1 bel lt1) (trodAll_cons_mk (Below.trod laidOut (by kernel_rfl) (of_decide_eq_true (by kernel_rfl)) h2 bel lt2) trodAll_mk0))), rfl, bel.frame _, fun h => by cases h⟩

theorem over : Rows.varintWritesRow.holds Try.pinned (OpenSpec.ofChange Rows.varintWritesSpec) :=
  OpenClaim.holds_of_wide 3 Try.f3 rfl rfl rfl rfl rfl rfl rfl ⟨rfl, rfl, rfl, rfl, rfl⟩ rfl rfl rfl rfl rfl (by kernel_rfl) Try.func3 (by kernel_rfl)
    (of_decide_eq_true (by kernel_rfl)) (by unfold Func.isWrapper; first | (rw [if_pos (by decide +kernel)]; kernel_rfl) | (rw [if_neg (by decide +kernel)]; exact ⟨rfl, rfl⟩))
    (fun os started H enc _ => lifted os started H enc)

/-- THE STATEMENT. -/
theorem proved : Rows.VarintWritesSaid := over
#print axioms proved
end Go.Proofs.Ytffppeebifobjaa.varintWrites
