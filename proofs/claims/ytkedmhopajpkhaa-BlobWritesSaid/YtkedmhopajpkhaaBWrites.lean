/- BlobWrites: called with any bytes, any numbers and any int, the law returns true; no condition. -/
import Derived.Test.YtkedmhopajpkhaaRows
import Derived.Test.YtkedmhopajpkhaaBlobL
import Derived.ProofKit
import Derived.OpenShut
import Derived.ShutString
import Derived.ChangeOld
namespace Go.Proofs.Ytkedmhopajpkhaa.blobWrites
open Go.ChangeShapes Go.WideShapes Go.ChangeAt Go.RowKit
open Go.ChangeMaps (open_string shut_string)
set_option linter.unusedVariables false

theorem own : ownKnob Try.prog.godebug = none := by kernel_rfl
theorem laidOut : laidOutB Try.prog = true := by kernel_rfl
open Cur Mem

set_option maxRecDepth 100000 in
set_option maxHeartbeats 4000000 in
theorem walk {H : Type} (enc : TypeId × Value → H) (w : World) (base : Nat) (v0 : Value) (d0 : DataW H) (p0 : List MemPlace) (g0 : Value.okWide Try.prog w .any base 22 v0) (h0 : DataW.Trod enc Try.prog w 0 (fun _ => true) true 22 v0 d0 p0) (v1 : Value) (d1 : DataW H) (p1 : List MemPlace) (g1 : Value.okWide Try.prog w .any base 23 v1) (h1 : DataW.Trod enc Try.prog w 0 (fun _ => true) true 23 v1 d1 p1) (v2 : Value) (d2 : DataW H) (p2 : List MemPlace) (g2 : Value.okWide Try.prog w .any base 3 v2) (h2 : DataW.Trod enc Try.prog w 0 (fun _ => true) true 3 v2 d2 p2) :
    Calls Try.prog 3 #[v0, v1, v2] w fun e w' => e = .returned (.bool true) ∧ Below w.heap.size w w' := by
  obtain ⟨a, n, m, z, rfl, hnm, hz, hby, hnil⟩ := open_bytes g0 h0
  obtain ⟨al, nl, ml, l, rfl, hnml, hl, hbl, hnill⟩ := open_u64s g1 h1
  obtain ⟨x, rfl, x0, x1⟩ := open_i64 g2 h2
  clear g0 h0 g1 h1 g2 h2
  by_cases hn : 300 < (n : Int)
  · go_enter Try.func3, Try.ntmps3
    go_wp2_with fail
    refine (live6_any _).mono ?_
    rintro e w1 ⟨rfl, hb⟩
    go_wp2
    go_ret
    exact ⟨rfl, hb⟩
  by_cases hn2 : 200 < (nl : Int)
  · go_enter Try.func3, Try.ntmps3
    go_wp2_with fail
    refine (live6_any _).mono ?_
    rintro e w1 ⟨rfl, hb⟩
    go_wp2
    go_ret
    exact ⟨rfl, hb⟩
  have HBL := Lib.hid hbl
  have HBY := Lib.hid hby
  have hzl := hz.1
  have hvn := vsz_le (n : Int)
  have HP1 : Hid (puts [vz n, z] [] 3000 0 = (vz n ++ z, 0)) := Lib.hid (by
    have := puts_blob (y := z) (z := []) (n := n) (M := 3000) (by rw [List.length_append, vz_length]; simp; omega)
    simpa using this)
  have hll := lz_len hl.1
  have HLL : Hid ((lz l).length ≤ 2010) := Lib.hid (by omega)
  have HP2 : Hid (puts (litems l) [] 3000 0 = (lz l, 0)) := Lib.hid (by
    have := puts_list (l := l) (z := []) (M := 3000) (by simp; omega)
    simpa using this)
  have HZL : Hid ((vz n ++ z).length = vsz n + n) := Lib.hid (by rw [List.length_append, vz_length, hzl])
  have HZN := Lib.hid hzl
  clear hbl hby hll hzl
  have hM : ∃ M, M = min (max x 0) 1099511627776 := ⟨_, rfl⟩
  obtain ⟨M, hM⟩ := hM
  have hM0 : 0 ≤ M := by omega
  have hM1 : M ≤ 1099511627776 := by omega
  have HM := Lib.hid hM
  clear hM
  go_enter Try.func3, Try.ntmps3
  go_wp2_with fail
  refine (wnew_any 3000 w (by omega)).mono ?_
  rintro e w1 ⟨b, rfl, hbb, hb1, hw1⟩
  rw [if_neg (by omega)] at hw1
  go_wp2_with fail
  refine (wnew_any 3000 w1 (by omega)).mono ?_
  rintro e w2 ⟨v, rfl, hvv, hb2, hv2⟩
  rw [if_neg (by omega)] at hv2
  have hbd2 := hb1.trans (hb2.mono hb1.size)
  have hw2 := hw1.below hb2
  have hlt2 : b < w1.heap.size := hw1.lt
  have hB1 := hb1.size
  have hoff : 0 < n → ∀ a', a = some a' → ¬ WS b none a'.block := fun h0 a' ha => by
    have := hz.lt h0 a' ha
    rintro (e | e)
    · omega
    · cases e
  have HOFF := Lib.hid hoff
  clear hb2 hw1 hoff hb1
  go_wp2_with fail
  refine (bput_any _ n _ hw2 (hz.below hbd2) hnil HOFF.out (by simp; omega) hbd2.size).mono ?_
  rintro e w3 ⟨r3, rfl, hk3, hg3, hw3⟩
  have hbd3 := hw2.belowOf hbd2 (Nat.le_refl _) hk3 (Nat.le_refl _)
  rw [HP1.out] at hw3
  have hv3 := hv2.ks hk3 (fun i hi hj => by
    rcases hi with rfl | e
    · rcases hj with e | e
      · omega
      · cases e
    · cases e)
  have hv2lt := hv2.lt
  clear hw2 hk3 hv2 hbd2
  have hoff : 0 < nl → ∀ a', al = some a' → ¬ WS v none a'.block := fun h0 a' ha => by
    have := hl.2.lt (by rw [List.length_map, hl.1]; exact h0) a' ha
    rintro (e | e)
    · omega
    · cases e
  have HOFF2 := Lib.hid hoff
  clear hoff
  have hB3 : w1.heap.size ≤ w3.heap.size := by have := hv3.lt; omega
  go_wp2_with fail
  refine (bputlist_any _ nl _ l hv3 (hl.below hbd3) HOFF2.out (by omega) HBL.out (by simp) hB3).mono ?_
  rintro e w4 ⟨r4, rfl, hk4, hg4, hv4⟩
  have hbd4 := hv3.belowOf hbd3 (Nat.le_refl _) hk4 hB1
  rw [HP2.out] at hv4
  have hw4 := hw3.ks hk4 (fun i hi hj => by
    have hv := hv2lt
    rcases hi with rfl | e
    · rcases hj with e | e
      · omega
      · rcases hg3 with e3 | ⟨g, e3, hg⟩
        · rw [e3] at e; cases e
        · rw [e3] at e; injection e with e; omega
    · cases e)
  clear hw3 hk4 hv3 hbd3 hg4 hg3
  go_wp2_with fail
  refine (wbytes_good hw4 (by rw [HZL.out]; omega)).mono ?_
  rintro e w5 ⟨g5, rfl, hg5, hb5, hblk5⟩
  have hbs5 := Bs.of_block hblk5
  have hv5 := hv4.below hb5
  have hbd5 := hbd4.trans (hb5.mono hbd4.size)
  rw [HZL.out] at hbs5 ⊢
  clear hw4 hv4 hb5 hblk5 hbd4
  go_wp2_with fail
  refine (wbytes_good hv5 (by have := HLL.out; omega)).mono ?_
  rintro e w6 ⟨g6, rfl, hg6, hb6, hblk6⟩
  have hbs6 := Bs.of_block hblk6
  have hbs7 := hbs5.below hb6
  have hbd6 := hbd5.trans (hb6.mono hbd5.size)
  clear hv5 hb6 hblk6 hbd5 hbs5
  go_wp2_with fail
  rw [← HM.out]
  refine (rbbytes_any _ n _ z _ (hz.below hbd6) hnil (by omega)).mono ?_
  rintro e w7 ⟨A7, m7, rfl, hb7, hbs8, _⟩
  have hbs9 := hbs7.below hb7
  have hbs10 := hbs6.below hb7
  have hbd7 := hbd6.trans (hb7.mono hbd6.size)
  rw [HZL.out] at hbs8 ⊢
  clear hb7 hbs7 hbs6 hbd6
  go_wp2_with fail
  refine (same_any _ _ _ _ _ _ (vz n ++ z) _ hbs9 hbs8).mono ?_
  rintro e w8 ⟨rfl, rfl⟩
  clear hbs9 hbs8
  go_wp2_with fail
  refine (rlist_any _ nl _ l _ (hl.below hbd7) (by omega) HBL.out).mono ?_
  rintro e w8 ⟨A8, m8, rfl, hb8, hbs8, _⟩
  have hbs9 := hbs10.below hb8
  have hbd8 := hbd7.trans (hb8.mono hbd7.size)
  clear hb8 hbs10 hbd7
  go_wp2_with fail
  refine (same_any _ _ _ _ _ _ (lz l) _ hbs9 hbs8).mono ?_
  rintro e w9 ⟨rfl, rfl⟩
  clear hbs9 hbs8
  go_wp2_with fail
  refine (bsize_any (n : Int) _ (by omega)).mono ?_
  rintro e w9 ⟨rfl, rfl⟩
  rw [show max (n : Int) 0 = n by omega]
  have hvn0 := vsz_pos (n : Int)
  go_wp2_with fail
  refine (blistsize_any _ nl _ l _ (hl.below hbd8) (by omega) HBL.out).mono ?_
  rintro e w9 ⟨rfl, hb9⟩
  have hbd9 := hbd8.trans (hb9.mono hbd8.size)
  clear hb9 hbd8
  go_wp2_with fail
  refine (bsize_any M _ (by omega)).mono ?_
  rintro e w10 ⟨rfl, rfl⟩
  rw [show max M 0 = M by omega]
  have hvm := vsz_pos M
  have hvm2 := vsz_le M
  have hgt : M < (vsz M : Int) + M := by omega
  have hgd : decide (M < (vsz M : Int) + M) = true := by simpa using hgt
  by_cases hM2 : M = 0
  · have hMb : (M == 0) = true := by simpa using hM2
    clear hM2
    go_wp2_with fail
    refine (live6_any _).mono ?_
    rintro e w11 ⟨rfl, hb11⟩
    go_wp2
    go_ret
    exact ⟨rfl, hbd9.trans (hb11.mono hbd9.size)⟩
  · have hMb : (M == 0) = false := by simpa using hM2
    clear hM2
    go_wp2_with fail
    refine (bsize_any (-M) _ (by omega)).mono ?_
    rintro e w11 ⟨rfl, rfl⟩
    rw [show max (-M) 0 = 0 by omega, show vsz 0 = 1 by decide]
    go_wp2_with fail
    refine (live6_any _).mono ?_
    rintro e w11 ⟨rfl, hb11⟩
    go_wp2
    go_ret
    exact ⟨rfl, hbd9.trans (hb11.mono hbd9.size)⟩

set_option maxRecDepth 100000 in
theorem lifted (os : Os) (started : os.Started) (H : Type) (enc : TypeId × Value → H) :
    ReturnsInHanded {} Try.checked os 3 .any (Rows.blobWritesSpec.pre6 enc Try.prog Try.f3 Rows.blobWritesRow.domain false) (Rows.blobWritesSpec.post enc Try.prog Try.f3 false true false false) := by
  refine returnsInHanded_of_change (C := Try.checked) own started (by kernel_rfl) Try.func3
    (ChangeSpec.witness6 (enc := enc) (C := Try.checked) false ⟨#[], #[.slice none 0 0, .slice none 0 0, .int .i64 0], []⟩ 8 (by kernel_rfl) (by kernel_rfl) (by kernel_rfl) (by kernel_rfl)) ?_
  intro W base args ds gs before hval0 hW hcnd _
  have hval : ∀ (j : Nat) t v, Try.f3.params[j]? = some t → args[j]? = some v → Value.okWide Try.prog W .any base t v := hval0
  have hW' := hW
  obtain ⟨p, q, hA0, hV, rfl, hfz, hnd⟩ := hW
  have hA : DataW.TrodAll enc Try.prog W 0 (fun _ => true) true Try.f3.params.toList args.toList ds p := hA0
  rw [Try.params3] at hA hval
  obtain ⟨v0, vs0, d0, ds0, p0, q0, hargs, rfl, rfl, h0, r0⟩ := trodAll_cons hA
  obtain ⟨v1, vs1, d1, ds1, p1, q1, rfl, rfl, rfl, h1, r1⟩ := trodAll_cons r0
  obtain ⟨v2, vs2, d2, ds2, p2, q2, rfl, rfl, rfl, h2, r2⟩ := trodAll_cons r1
  obtain ⟨rfl, rfl, rfl⟩ := trodAll_nil r2
  obtain rfl : args = #[v0, v1, v2] := by cases args; simp_all
  obtain ⟨rfl, rfl⟩ := trodVars_none hV
  have lt0 : ∀ x ∈ p0, x.block < W.heap.size := by obtain ⟨m, hm⟩ := h0; exact DataW.trod_lt m _ _ _ hm
  have lt1 : ∀ x ∈ p1, x.block < W.heap.size := by obtain ⟨m, hm⟩ := h1; exact DataW.trod_lt m _ _ _ hm
  have lt2 : ∀ x ∈ p2, x.block < W.heap.size := by obtain ⟨m, hm⟩ := h2; exact DataW.trod_lt m _ _ _ hm
  clear hA0 hval0
  refine (walk enc W base v0 d0 p0 (hval 0 22 v0 rfl rfl) h0 v1 d1 p1 (hval 1 23 v1 rfl rfl) h1 v2 d2 p2 (hval 2 3 v2 rfl rfl) h2).mono fun e W' ⟨he, bel⟩ => ?_
  subst he
  exact ⟨_, rfl, _, _, _, [], _, [], hW', trodAll_mk1 (shut_bool Try.underlying4 _), (trodAll_cons_mk (Below.trod laidOut (by kernel_rfl) (of_decide_eq_true (by kernel_rfl)) h0 bel lt0) (trodAll_cons_mk (Below.trod laidOut (by kernel_rfl) (of_decide_eq_true (by kernel_rfl)) h1 bel lt1) (trodAll_cons_mk (Below.trod laidOut (by kernel_rfl) (of_decide_eq_true (by kernel_rfl)) h2 bel lt2) trodAll_mk0))), rfl, bel.frame _, fun h => by cases h⟩

theorem over : Rows.blobWritesRow.holds Try.pinned (OpenSpec.ofChange Rows.blobWritesSpec) :=
  OpenClaim.holds_of_wide 3 Try.f3 rfl rfl rfl rfl rfl rfl rfl ⟨rfl, rfl, rfl, rfl, rfl⟩ rfl rfl rfl rfl rfl (by kernel_rfl) Try.func3 (by kernel_rfl)
    (of_decide_eq_true (by kernel_rfl)) (by unfold Func.isWrapper; first | (rw [if_pos (by decide +kernel)]; kernel_rfl) | (rw [if_neg (by decide +kernel)]; exact ⟨rfl, rfl⟩))
    (fun os started H enc _ => lifted os started H enc)

/-- THE STATEMENT. -/
theorem proved : Rows.BlobWritesSaid := over
#print axioms proved
end Go.Proofs.Ytkedmhopajpkhaa.blobWrites
