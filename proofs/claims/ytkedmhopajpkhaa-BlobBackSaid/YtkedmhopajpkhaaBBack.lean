/- BlobBack: called with any bytes, any numbers and any number, the law returns true; no condition. -/
import Derived.Test.YtkedmhopajpkhaaRows
import Derived.Test.YtkedmhopajpkhaaBlobL
import Derived.ProofKit
import Derived.OpenShut
import Derived.ShutString
import Derived.ChangeOld
namespace Go.Proofs.Ytkedmhopajpkhaa.blobBack
open Go.ChangeShapes Go.WideShapes Go.ChangeAt Go.RowKit
open Go.ChangeMaps (open_string shut_string)
set_option linter.unusedVariables false

theorem own : ownKnob Try.prog.godebug = none := by kernel_rfl
theorem laidOut : laidOutB Try.prog = true := by kernel_rfl
open Cur Mem

set_option maxRecDepth 100000 in
set_option maxHeartbeats 4000000 in
theorem walk {H : Type} (enc : TypeId × Value → H) (w : World) (base : Nat) (v0 : Value) (d0 : DataW H) (p0 : List MemPlace) (g0 : Value.okWide Try.prog w .any base 22 v0) (h0 : DataW.Trod enc Try.prog w 0 (fun _ => true) true 22 v0 d0 p0) (v1 : Value) (d1 : DataW H) (p1 : List MemPlace) (g1 : Value.okWide Try.prog w .any base 23 v1) (h1 : DataW.Trod enc Try.prog w 0 (fun _ => true) true 23 v1 d1 p1) (v2 : Value) (d2 : DataW H) (p2 : List MemPlace) (g2 : Value.okWide Try.prog w .any base 48 v2) (h2 : DataW.Trod enc Try.prog w 0 (fun _ => true) true 48 v2 d2 p2) :
    Calls Try.prog 5 #[v0, v1, v2] w fun e w' => e = .returned (.bool true) ∧ Below w.heap.size w w' := by
  obtain ⟨a, n, m, z, rfl, hnm, hz, hby, hnil⟩ := open_bytes g0 h0
  obtain ⟨al, nl, ml, l, rfl, hnml, hl, hbl, hnill⟩ := open_u64s g1 h1
  obtain ⟨x, rfl, x0, x1⟩ := open_u64 g2 h2
  clear g0 h0 g1 h1 g2 h2
  by_cases hn : 300 < (n : Int)
  · go_enter Try.func5, Try.ntmps5
    go_wp2_with fail
    refine (live6_any _).mono ?_
    rintro e w1 ⟨rfl, hb⟩
    go_wp2
    go_ret
    exact ⟨rfl, hb⟩
  by_cases hn2 : 200 < (nl : Int)
  · go_enter Try.func5, Try.ntmps5
    go_wp2_with fail
    refine (live6_any _).mono ?_
    rintro e w1 ⟨rfl, hb⟩
    go_wp2
    go_ret
    exact ⟨rfl, hb⟩
  have HBL := Lib.hid hbl
  have HBY := Lib.hid hby
  have hzl := hz.1
  have hvn := vsz_le (n : Int)
  have hll := lz_len hl.1
  have hT : ∃ T, T = vz n ++ z ++ lz l ++ fixZ x 8 ++ z := ⟨_, rfl⟩
  obtain ⟨T, hT⟩ := hT
  have hTl : T.length = vsz n + n + (lz l).length + 8 + n := by rw [hT]; simp only [List.length_append, vz_length, fixZ_length, hzl]
  have HP1 : Hid (puts [vz n, z] [] 6000 0 = (vz n ++ z, 0)) := Lib.hid (by
    have := puts_blob (y := z) (z := []) (n := n) (M := 6000) (by rw [List.length_append, vz_length]; simp; omega)
    simpa using this)
  have HP2 : Hid (puts (litems l) (vz n ++ z) 6000 0 = (vz n ++ z ++ lz l, 0)) := Lib.hid (puts_list (by simp only [List.length_append, vz_length]; push_cast; omega))
  have HP3 := Lib.hid (putZ_fits (z := vz n ++ z ++ lz l) (y := fixZ x (fixN 8)) (M := 6000) (by simp only [List.length_append, vz_length, fixZ_length, fixN_8]; push_cast; omega))
  have HP4 := Lib.hid (putZ_fits (z := vz n ++ z ++ lz l ++ fixZ x 8) (y := z) (M := 6000) (by simp only [List.length_append, vz_length, fixZ_length]; push_cast; omega))
  have HTL : Hid (T.length ≤ 2700) := Lib.hid (by omega)
  have hR1 : bl T 300 0 = (z, (((vz n ++ z).length : Nat) : Int), 0, 0) := by
    have := bl_put (z := T) (pre := []) (y := z) (rest := lz l ++ fixZ x 8 ++ z) (mo := 300) (by rw [hT, hzl]; simp only [List.append_assoc, List.nil_append]) (by omega) (by omega)
    simpa [hzl] using this
  have hR2 : rl T 200 (((vz n ++ z).length : Nat) : Int) = (l, (((vz n ++ z ++ lz l).length : Nat) : Int), 0, 0) := by
    have := rl_put (z := T) (pre := vz n ++ z) (l := l) (rest := fixZ x 8 ++ z) (mo := 200) (by rw [hT]; simp only [List.append_assoc]) (by rw [hl.1]; omega) (by rw [hl.1]; omega) hbl
    have e : (vz n ++ z ++ lz l).length = (vz n ++ z).length + (lz l).length := List.length_append
    rw [e]
    exact this
  have hR3 : fx T (min (max 8 0) 8) (((vz n ++ z ++ lz l).length : Nat) : Int) = (x, (((vz n ++ z ++ lz l).length + 8 : Nat) : Int), 0, 0) :=
    fx_put (z := T) (pre := vz n ++ z ++ lz l) (rest := z) 8 (by rw [hT]) x0 (by rw [pow256_8]; exact x1)
  have HTB : Hid (∀ y ∈ T, 0 ≤ y ∧ y < 256) := Lib.hid (by
    intro y hy
    rw [hT] at hy
    simp only [List.mem_append] at hy
    rcases hy with (((hy | hy) | hy) | hy) | hy
    · exact vz_byte _ (by omega) (by omega) y hy
    · exact hby y hy
    · exact lz_byte (by rw [hl.1]; omega) hbl y hy
    · exact fixZ_byte _ _ y hy
    · exact hby y hy)
  have HL1 : Hid ((vz n ++ z).length ≤ 700000 ∧ (vz n ++ z ++ lz l).length ≤ 700000 ∧ (vz n ++ z ++ lz l ++ fixZ x 8).length + n ≤ 1000000) := Lib.hid (by simp only [List.length_append, vz_length, fixZ_length]; omega)
  have HR := Lib.hid (And.intro hR1 (And.intro hR2 hR3))
  have HT := Lib.hid hT
  have HLF : Hid (((T.length : Int) - ((vz n ++ z ++ lz l).length + 8 : Nat)) = n) := Lib.hid (by rw [hTl]; simp only [List.length_append, vz_length, hzl]; push_cast; omega)
  have HPL : Hid ((vz n ++ z ++ lz l).length + 8 ≤ T.length) := Lib.hid (by rw [hTl]; simp only [List.length_append, vz_length, hzl]; omega)
  clear hbl hby hzl hvn hll hT hTl hR1 hR2 hR3
  go_enter Try.func5, Try.ntmps5
  go_wp2_with fail
  refine (wnew_any 6000 w (by omega)).mono ?_
  rintro e w1 ⟨b, rfl, hbb, hb1, hw1⟩
  rw [if_neg (by omega)] at hw1
  go_wp2_with fail
  refine (bput_any _ n _ hw1 (hz.below hb1) hnil (fun h0 a' ha => hw1.off_lt (hz.lt h0 a' ha)) (by simp; omega) hb1.size).mono ?_
  rintro e w2 ⟨r2, rfl, hk2, hg2, hw2⟩
  have hbd := hw1.belowOf hb1 (Nat.le_refl _) hk2 (Nat.le_refl _)
  rw [HP1.out] at hw2
  clear hw1 hk2 hg2 hb1
  go_wp2_with fail
  refine (bputlist_any _ nl _ l hw2 (hl.below hbd) (fun h0 a' ha => hw2.off_lt (hl.2.lt (by rw [List.length_map, hl.1]; exact h0) a' ha)) (by omega) HBL.out HL1.out.1 hbd.size).mono ?_
  rintro e w3 ⟨r3, rfl, hk3, hg3, hw3⟩
  replace hbd := hw2.belowOf hbd (Nat.le_refl _) hk3 (Nat.le_refl _)
  rw [HP2.out] at hw3
  clear hw2 hk3 hg3
  go_wp2_with fail
  refine (wfixed_any x 8 hw3 x0 x1 (Nat.le_trans HL1.out.2.1 (by omega)) hbd.size).mono ?_
  rintro e w4 ⟨r4, rfl, hk4, hg4, hw4⟩
  replace hbd := hw3.belowOf hbd (Nat.le_refl _) hk4 (Nat.le_refl _)
  rw [HP3.out.1, HP3.out.2, fixN_8] at hw4
  clear hw3 hk4 hg4
  go_wp2_with fail
  refine (wput_any _ n _ hw4 (hz.below hbd) hnil (fun h0 a' ha => hw4.off_lt (hz.lt h0 a' ha)) HL1.out.2.2 hbd.size).mono ?_
  rintro e w5 ⟨r5, rfl, hk5, hg5, hw5⟩
  replace hbd := hw4.belowOf hbd (Nat.le_refl _) hk5 (Nat.le_refl _)
  rw [HP4.out.1, HP4.out.2, ← HT.out] at hw5
  clear hw4 hk5 hg5
  go_wp2_with fail
  refine (wbytes_good hw5 (by have := HTL.out; omega)).mono ?_
  rintro e w6 ⟨g, rfl, hg, hb6, hblk⟩
  have hbs := Bs.of_block hblk
  replace hbd := hbd.trans (hb6.mono hbd.size)
  clear hw5 hb6 hblk
  go_wp2_with fail
  refine (new_some _ _ _ _ (Nat.le_refl _)).mono ?_
  rintro e w7 ⟨rb, rfl, hrb, hb7, hr⟩
  have hrw : w.heap.size ≤ rb := Nat.le_trans hbd.size hrb
  replace hbd := hbd.trans (hb7.mono hbd.size)
  replace hbs := hbs.below hb7
  clear hb7 hrb
  go_wp2_with fail
  refine (bread_any _ _ _ _ _ _ _ _ _ _ hr hbs (by omega) (by omega) (Nat.le_refl _) (by have := HTL.out; omega) HTB.out (by omega)).mono ?_
  rintro e w8 ⟨v8, l8, p8, c8, q8, rfl, ho8, hk8, hr8, hs8⟩
  obtain ⟨rfl, rfl, rfl, rfl⟩ := hs8.of_done HR.out.1
  replace hbd := Kp.below hbd (Nat.le_refl _) hk8 hrw
  replace hbs := hbs.kp hr (by simp) hk8
  obtain ⟨A8, cc8, rfl⟩ := ho8.slice
  have hbs8 := ho8.bs.2
  have hp8 := hs8.place
  clear hr hk8 hs8 ho8
  go_wp2_with fail
  refine (breadlist_any _ _ _ _ _ _ _ _ _ _ hr8 hbs hp8.1 hp8.2 (by have := HTL.out; omega) HTB.out (by omega)).mono ?_
  rintro e w9 ⟨v9, l9, p9, c9, q9, rfl, ho9, hk9, hr9, hs9, hl9⟩
  obtain ⟨rfl, rfl, rfl, rfl⟩ := hs9.of_done HR.out.2.1
  replace hbd := Kp.below hbd (Nat.le_refl _) hk9 hrw
  replace hbs := hbs.kp hr8 (by simp) hk9
  replace hbs8 := hbs8.kp hr8 (by simp) hk9
  obtain ⟨A9, cc9, rfl⟩ := ho9.slice
  obtain ⟨_, _, _, hu9⟩ := OwnU.us ho9
  have hp9 := hs9.place
  clear hr8 hk9 hs9 ho9 hp8
  go_wp2_with fail
  refine (bfixed_any _ _ _ _ _ _ _ _ _ _ hr9 hbs hp9.1 hp9.2 (Nat.le_refl _) (by have := HTL.out; omega) HTB.out).mono ?_
  rintro e w10 ⟨v10, p10, c10, q10, rfl, hk10, hr10, hs10, _, _⟩
  obtain ⟨rfl, rfl, rfl, rfl⟩ := hs10.of_done HR.out.2.2
  replace hbd := Kp.below hbd (Nat.le_refl _) hk10 hrw
  replace hbs8 := hbs8.kp hr9 (by simp) hk10
  replace hu9 := hu9.kp_rd hr9 (by simp) hk10
  clear hr9 hk10 hs10 hp9 hbs
  go_wp2_with fail
  refine (good_any _ _ _ _ _ _ hr10).mono ?_
  rintro e w11 ⟨rfl, hb11⟩
  rw [show ((0 : Int) == 0) = true from rfl]
  replace hr10 := hr10.below hb11
  replace hbs8 := hbs8.below hb11
  replace hu9 := hu9.below hb11
  replace hbd := hbd.trans (hb11.mono hbd.size)
  clear hb11
  go_wp2_with fail
  refine (same_any _ _ _ _ _ _ l8 _ hbs8 (hz.below hbd)).mono ?_
  rintro e w12 ⟨rfl, rfl⟩
  go_wp2_with fail
  refine (same5_any _ _ _ _ _ _ l9 _ hu9 (hl.below hbd) (by rw [hl.1]; omega) HBL.out).mono ?_
  rintro e w13 ⟨rfl, hb13⟩
  replace hr10 := hr10.below hb13
  replace hbd := hbd.trans (hb13.mono hbd.size)
  clear hb13 hbs8 hu9
  go_wp2_with fail
  refine (left_any _ _ _ _ _ _ _ _ hr10 (by omega) (by have := HPL.out; omega) (by have := HTL.out; omega)).mono ?_
  rintro e w14 ⟨rfl, k14, rfl⟩
  rw [HLF.out]
  replace hbd := below_drewN hbd k14
  go_wp2_with fail
  refine (live6_any _).mono ?_
  rintro e w15 ⟨rfl, hb15⟩
  go_wp2
  go_ret
  exact ⟨rfl, hbd.trans (hb15.mono hbd.size)⟩

set_option maxRecDepth 100000 in
theorem lifted (os : Os) (started : os.Started) (H : Type) (enc : TypeId × Value → H) :
    ReturnsInHanded {} Try.checked os 5 .any (Rows.blobBackSpec.pre6 enc Try.prog Try.f5 Rows.blobBackRow.domain false) (Rows.blobBackSpec.post enc Try.prog Try.f5 false true false false) := by
  refine returnsInHanded_of_change (C := Try.checked) own started (by kernel_rfl) Try.func5
    (ChangeSpec.witness6 (enc := enc) (C := Try.checked) false ⟨#[], #[.slice none 0 0, .slice none 0 0, .int .u64 0], []⟩ 8 (by kernel_rfl) (by kernel_rfl) (by kernel_rfl) (by kernel_rfl)) ?_
  intro W base args ds gs before hval0 hW hcnd _
  have hval : ∀ (j : Nat) t v, Try.f5.params[j]? = some t → args[j]? = some v → Value.okWide Try.prog W .any base t v := hval0
  have hW' := hW
  obtain ⟨p, q, hA0, hV, rfl, hfz, hnd⟩ := hW
  have hA : DataW.TrodAll enc Try.prog W 0 (fun _ => true) true Try.f5.params.toList args.toList ds p := hA0
  rw [Try.params5] at hA hval
  obtain ⟨v0, vs0, d0, ds0, p0, q0, hargs, rfl, rfl, h0, r0⟩ := trodAll_cons hA
  obtain ⟨v1, vs1, d1, ds1, p1, q1, rfl, rfl, rfl, h1, r1⟩ := trodAll_cons r0
  obtain ⟨v2, vs2, d2, ds2, p2, q2, rfl, rfl, rfl, h2, r2⟩ := trodAll_cons r1
  obtain ⟨rfl, rfl, rfl⟩ := trodAll_nil r2
  obtain rfl : args = #[v0, v1, v2] := by cases args; simp_all
  obtain ⟨rfl, rfl⟩ := trodVars_none hV
  have lt0 : ∀ x ∈ p0, x.block < W.heap.size := by obtain ⟨m, hm⟩ := h0; exact DataW.trod_lt m _ _ _ hm
  have lt1 : ∀ x ∈ p1, x.block < W.heap.size := by obtain ⟨m, hm⟩ := h1; exact DataW.trod_lt m _ _ _ hm
  have lt2 : ∀ x ∈ p2, x.block < W.heap.size := by obtain ⟨m, hm⟩ := h2; exact DataW.trod_lt m _ _ _ hm
  clear hA0 hval0
  refine (walk enc W base v0 d0 p0 (hval 0 22 v0 rfl rfl) h0 v1 d1 p1 (hval 1 23 v1 rfl rfl) h1 v2 d2 p2 (hval 2 48 v2 rfl rfl) h2).mono fun e W' ⟨he, bel⟩ => ?_
  subst he
  exact ⟨_, rfl, _, _, _, [], _, [], hW', trodAll_mk1 (shut_bool Try.underlying4 _), (trodAll_cons_mk (Below.trod laidOut (by kernel_rfl) (of_decide_eq_true (by kernel_rfl)) h0 bel lt0) (trodAll_cons_mk (Below.trod laidOut (by kernel_rfl) (of_decide_eq_true (by kernel_rfl)) h1 bel lt1) (trodAll_cons_mk (Below.trod laidOut (by kernel_rfl) (of_decide_eq_true (by kernel_rfl)) h2 bel lt2) trodAll_mk0))), rfl, bel.frame _, fun h => by cases h⟩

theorem over : Rows.blobBackRow.holds Try.pinned (OpenSpec.ofChange Rows.blobBackSpec) :=
  OpenClaim.holds_of_wide 5 Try.f5 rfl rfl rfl rfl rfl rfl rfl ⟨rfl, rfl, rfl, rfl, rfl⟩ rfl rfl rfl rfl rfl (by kernel_rfl) Try.func5 (by kernel_rfl)
    (of_decide_eq_true (by kernel_rfl)) (by unfold Func.isWrapper; first | (rw [if_pos (by decide +kernel)]; kernel_rfl) | (rw [if_neg (by decide +kernel)]; exact ⟨rfl, rfl⟩))
    (fun os started H enc _ => lifted os started H enc)

/-- THE STATEMENT. -/
theorem proved : Rows.BlobBackSaid := over
#print axioms proved
end Go.Proofs.Ytkedmhopajpkhaa.blobBack
