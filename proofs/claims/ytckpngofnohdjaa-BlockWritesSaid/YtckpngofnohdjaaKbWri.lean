/- BlockWrites: called with any two rows of bytes, the law returns true; no condition. -/
import Derived.Test.YtckpngofnohdjaaRows
import Derived.Test.YtckpngofnohdjaaBlkB
import Derived.Test.YtckpngofnohdjaaK1
import Derived.ProofKit
import Derived.OpenShut
import Derived.ShutString
import Derived.ChangeOld
namespace Go.Proofs.Ytckpngofnohdjaa.blockWrites
open Go.ChangeShapes Go.WideShapes Go.ChangeAt Go.RowKit
open Go.ChangeMaps (open_string shut_string)
set_option linter.unusedVariables false

theorem own : ownKnob Try.prog.godebug = none := by kernel_rfl
theorem laidOut : laidOutB Try.prog = true := by kernel_rfl
open Cur Mem
attribute [local go_sem] Oper.semAt_some
set_option maxRecDepth 100000


set_option maxHeartbeats 8000000 in
theorem walk {H : Type} (enc : TypeId × Value → H) (w : World) (base : Nat) (v0 : Value) (d0 : DataW H) (p0 : List MemPlace) (g0 : Value.okWide Try.prog w .any base 22 v0) (h0 : DataW.Trod enc Try.prog w 0 (fun _ => true) true 22 v0 d0 p0) (v1 : Value) (d1 : DataW H) (p1 : List MemPlace) (g1 : Value.okWide Try.prog w .any base 22 v1) (h1 : DataW.Trod enc Try.prog w 0 (fun _ => true) true 22 v1 d1 p1) :
    Calls Try.prog 3 #[v0, v1] w fun e w' => e = .returned (.bool true) ∧ Below w.heap.size w w' := by
  obtain ⟨A, n, m, z, rfl, hnm, hz, hby, hA⟩ := open_bytes g0 h0
  obtain ⟨A', n', m', y, rfl, hnm', hy, hby', hA'⟩ := open_bytes g1 h1
  clear g0 h0 g1 h1 hby'
  have hbd := Below.refl w.heap.size w
  by_cases h150 : 150 < n
  · clear hz hby hA hy hA'
    go_enter Try.func3, Try.ntmps3
    go_wp2_with fail
    refine (live16_any _).mono ?_
    rintro e w15 ⟨rfl, hb15⟩
    replace hbd := hbd.trans (hb15.mono hbd.size)
    have HB := Lib.hid hbd
    clear hbd hb15
    go_wp2
    go_ret
    exact ⟨rfl, HB.out⟩
  by_cases h300 : 300 < n'
  · have hn : ¬ (150 : Int) < (n : Int) := by omega
    clear hz hby hA hy hA'
    go_enter Try.func3, Try.ntmps3
    go_wp2_with fail
    refine (live16_any _).mono ?_
    rintro e w15 ⟨rfl, hb15⟩
    replace hbd := hbd.trans (hb15.mono hbd.size)
    have HB := Lib.hid hbd
    clear hbd hb15
    go_wp2
    go_ret
    exact ⟨rfl, HB.out⟩
  have hn : ¬ (150 : Int) < (n : Int) := by omega
  have hn' : ¬ (300 : Int) < (n' : Int) := by omega
  have hn2 : n ≤ 150 := by omega
  have hn2' : n' ≤ 300 := by omega
  have hbl := bkb_len z
  rw [hz.1] at hbl
  have HBL : Hid ((bkb z).length ≤ 200) := Lib.hid (by omega)
  have HYL : Hid (y.length ≤ 300) := Lib.hid (by rw [hy.1]; exact hn2')
  have HZ := Lib.hid hz
  have HBY := Lib.hid hby
  have HNA := Lib.hid hA
  have HY := Lib.hid hy
  have hK := kbytes_any A n m hz hA hby hnm (by omega)
  unfold KBPost at hK
  obtain ⟨bl, hbl2⟩ : ∃ bl, bl = (bkb z).length := ⟨_, rfl⟩
  rw [← hbl2] at hK
  have HBB := Lib.hid hbl2
  clear h150 h300 hz hby hA hy hbl hbl2
  go_enter Try.func3, Try.ntmps3
  go_wp2_with fail
  with_reducible refine hK.mono ?_
  rintro e w1 ⟨g1, rfl, hg1, hb1, hblk1⟩
  have hs1 := Bs.of_block hblk1
  rw [← HBB.out] at hs1
  replace hbd := hbd.trans (hb1.mono hbd.size)
  have hg1' : g1 < w1.heap.size := Blk.lt hblk1
  clear hK hg1 hb1 hblk1
  go_wp2_with fail
  refine (wnew_any _ _ (by omega)).mono ?_
  rintro e w2 ⟨b, rfl, hbb, hb2, hw2⟩
  rw [if_neg (by omega)] at hw2
  replace hs1 := hs1.below hb2
  have hbd2 := hbd.trans (hb2.mono hbd.size)
  have hy2 := HY.out.below hbd2
  have hz2 := HZ.out.below hbd2
  have hs1w := hbd.size
  have hoffy : 0 < n' → ∀ a, A' = some a → ¬ WS b none a.block := fun hp a ha hs => by have := WS.ge hw2 _ hs; have := HY.out.lt hp a ha; omega
  have hoffz : 0 < n → ∀ a, A = some a → ¬ WS b none a.block := fun hp a ha hs => by have := WS.ge hw2 _ hs; have := HZ.out.lt hp a ha; omega
  have HOFFZ := Lib.hid hoffz
  go_wp2_with fail
  with_reducible refine (wput_any A' n' m' hw2 hy2 hA' hoffy (by simp; omega) hb2.size).mono ?_
  rintro e w3 ⟨r3, rfl, hk3, hg3, hw3⟩
  have hpz : putZ [] y 2000 0 = y ∧ putC [] y 2000 0 = 0 := by
    have := HYL.out
    unfold putZ putC fitsC
    rw [if_pos ⟨rfl, by simp; omega⟩, if_neg (by simp; omega)]
    exact ⟨rfl, rfl⟩
  rw [hpz.1, hpz.2] at hw3
  have hz3 := hz2.ks hk3 (fun h0 a ha => HOFFZ.out h0 a ha)
  have hbd3 := Wr.belowOf hb2 (Nat.le_refl _) hw2 hk3 (Nat.le_refl _)
  have hs3 := hs1.ks hk3 (fun _ a ha hs => by
    injection ha with ha
    subst ha
    have := WS.ge hw2 _ hs
    have this : w1.heap.size ≤ g1 := this
    omega)
  have hoff3 : 0 < n → ∀ a, A = some a → ¬ WS b r3 a.block := fun hp a ha hs => by have := WS.ge hw3 _ hs; have := HZ.out.lt hp a ha; omega
  have hB3 : w1.heap.size ≤ w3.heap.size := hbd3.size
  have hsub : True := trivial
  clear hw2 hk3 hg3 hb2 hz2 hy2 hs1 hoffy hoffz hpz hbd2
  go_wp2_with fail
  with_reducible refine (kput_any A n m hw3 hz3 HNA.out hoff3 HBY.out hnm (by omega) (by have := HYL.out; omega) hB3).mono ?_
  rintro e w4 ⟨r4, rfl, hk4, hg4, hw4⟩
  have hpp : puts (bki z) y 2000 0 = (y ++ bkb z, 0) := by
    have := puts_fits (xs := bki z) (z := y) (M := 2000) (by rw [bki_flat]; have := HBL.out; have := HYL.out; omega)
    rw [this, bki_flat]
  rw [hpp] at hw4
  have hs4 := hs3.ks hk4 (fun _ a ha hs => by
    injection ha with ha
    subst ha
    have := WS.ge hw3 _ hs
    have this : w1.heap.size ≤ g1 := this
    omega)
  have hbd4 := Wr.belowOf hbd3 (Nat.le_refl _) hw3 hk4 (Nat.le_refl _)
  clear hw3 hk4 hg4 hz3 hs3 hoff3 hpp hbd3
  go_wp2_with fail
  with_reducible refine (wbytes_good hw4 (by have := HBL.out; have := HYL.out; rw [List.length_append]; omega)).mono ?_
  rintro e w5 ⟨g5, rfl, hg5, hb5, hblk5⟩
  have ht := Bs.of_block hblk5
  replace hs1 := hs4.below hb5
  replace hbd := hbd.trans ((hbd4.trans (hb5.mono hbd4.size)).mono hbd.size)
  clear hw4 hg5 hb5 hblk5 hs4 hbd4
  have hR := r16bytes_any (m := m) (HZ.out.below hbd) HNA.out HBY.out hnm (by omega)
  unfold RowPost at hR
  rw [← HBB.out] at hR
  obtain ⟨tl, htl⟩ : ∃ tl, tl = (y ++ bkb z).length := ⟨_, rfl⟩
  rw [← htl] at ht ⊢
  clear htl
  go_wp2_with fail
  with_reducible refine hR.mono ?_
  rintro e w6 ⟨A6, m6, rfl, hb6, hs6, hA6, _⟩
  replace hbd := hbd.trans (hb6.mono hbd.size)
  replace hs1 := hs1.below hb6
  replace ht := ht.below hb6
  clear hR hb6
  have hP := rpacked_any (m := m) (HZ.out.below hbd) HBY.out hnm (by omega)
  unfold RPkPost at hP
  have hWy := fun W (h : Below w.heap.size w W) => bway_any (m := m) (HZ.out.below h) HBY.out hnm (by omega)
  unfold BWayPost at hWy
  have hSz := fun W (h : Below w.heap.size w W) => ksize_any A n m (HZ.out.below h) HNA.out HBY.out hnm (by omega)
  unfold KSPost at hSz
  rw [← HBB.out] at hSz
  have HSZ := Lib.hid hSz
  cases hpk : pk z
  · rw [hpk] at hP hWy
    rw [if_neg (by decide)] at hWy
    have HWY := Lib.hid hWy
    clear hWy hpk hSz
    go_wp2_with fail
    with_reducible refine hP.mono ?_
    rintro e w7 ⟨rfl, hb7⟩
    replace hbd := hbd.trans (hb7.mono hbd.size)
    replace hs1 := hs1.below hb7
    replace ht := ht.below hb7
    replace hs6 := hs6.below hb7
    clear hP hb7
    go_wp2_with fail
    with_reducible refine (same_any _ _ _ _ _ _ (bkb z) _ hs1 hs6).mono ?_
    rintro e w8 ⟨rfl, rfl⟩
    clear hs1
    have hown0 := own_of_row (B := w7.heap.size) (z := []) (Blk.new w7 #[] 5) (Nat.le_refl _) (by simp)
    have hbE := below_one w7 (.cells #[] 5)
    have hzA := (HY.out.below hbd).below hbE
    have HS6 := Lib.hid hs6
    have HT := Lib.hid ht
    have HBDA := Lib.hid hbd
    have HN6 := Lib.hid hA6
    have HNY : Hid (A' = none → m' = 0) := Lib.hid hA'
    have HYL2 : Hid (y.length = n') := Lib.hid HY.out.1
    clear hs6 ht hA6 hbE hA' hbd
    go_wp2_with (at_builtin; go_must (first | (refine list_append_gw (by first | rfl | simp [Region.wanted, yielded]) (.tmp 55) (.tmp 56) rfl w7.heap.size (.slice (some ⟨w7.heap.size, 0, none⟩) 0 0) [] rfl hown0 _ _ _ y rfl hzA HNY.out (by have := HYL.out; simp; omega) (by simp) ?_; intro v6 w9 ho6 hg6 hgr6; have hb6 := Own.belowOf (below_one w7 (.cells #[] 5)) (by simp) hown0 hg6; rw [List.nil_append] at ho6; obtain ⟨A9, c9, rfl⟩ := ho6.slice; have hs9 := HS6.out.below hb6; have hB6 := hb6.size; clear hg6 hgr6 hzA hown0) | (refine list_append_gw (by first | rfl | simp [Region.wanted, yielded]) (.tmp 57) (.tmp 58) rfl w7.heap.size (.slice A9 y.length c9) y rfl ho6 _ _ _ (bkb z) rfl hs9 HN6.out (by have := HBL.out; have := HYL.out; have := HBB.out; omega) hB6 ?_; intro v8 w10 ho8 hg8 hgr8; have hb8 := Own.belowOf hb6 hB6 ho6 hg8; clear hg8 hgr8 hs9 ho6 hb6; obtain ⟨yz, hyz⟩ : ∃ yz, yz = y ++ bkb z := ⟨_, rfl⟩; rw [← hyz] at ho8; have HYZ := Lib.hid hyz; clear hyz; obtain ⟨A10, c10, rfl⟩ := ho8.slice; have ht10 := HT.out.below hb8; have hbd := HBDA.out.trans (hb8.mono HBDA.out.size); have ho10 := ho8.bs.2; clear ho8 hb8)))
    rw [← HYZ.out] at ht10
    with_reducible refine (same_any _ _ _ _ _ _ yz _ ht10 ho10).mono ?_
    rintro e w11 ⟨rfl, rfl⟩
    clear ht10 ho10
    go_wp2_with fail
    with_reducible refine (HSZ.out _ hbd).mono ?_
    rintro e w12 ⟨rfl, hb12⟩
    replace hbd := hbd.trans (hb12.mono hbd.size)
    clear hb12
    have e1 : ((bl : Int) == (bl : Int)) = true := by simp
    go_wp2_with fail
    with_reducible refine (HWY.out _ hbd).mono ?_
    rintro e w13 ⟨rfl, hb13⟩
    replace hbd := hbd.trans (hb13.mono hbd.size)
    clear hb13
    go_wp2_with fail
    refine (live16_any _).mono ?_
    rintro e w15 ⟨rfl, hb15⟩
    replace hbd := hbd.trans (hb15.mono hbd.size)
    have HB := Lib.hid hbd
    clear hbd hb15
    go_wp2
    go_ret
    exact ⟨rfl, HB.out⟩
  · rw [hpk] at hP hWy
    rw [if_pos rfl] at hWy
    have HWY := Lib.hid hWy
    clear hWy hpk hSz
    go_wp2_with fail
    with_reducible refine hP.mono ?_
    rintro e w7 ⟨rfl, hb7⟩
    replace hbd := hbd.trans (hb7.mono hbd.size)
    replace hs1 := hs1.below hb7
    replace ht := ht.below hb7
    replace hs6 := hs6.below hb7
    clear hP hb7
    go_wp2_with fail
    with_reducible refine (same_any _ _ _ _ _ _ (bkb z) _ hs1 hs6).mono ?_
    rintro e w8 ⟨rfl, rfl⟩
    clear hs1
    have hown0 := own_of_row (B := w7.heap.size) (z := []) (Blk.new w7 #[] 5) (Nat.le_refl _) (by simp)
    have hbE := below_one w7 (.cells #[] 5)
    have hzA := (HY.out.below hbd).below hbE
    have HS6 := Lib.hid hs6
    have HT := Lib.hid ht
    have HBDA := Lib.hid hbd
    have HN6 := Lib.hid hA6
    have HNY : Hid (A' = none → m' = 0) := Lib.hid hA'
    have HYL2 : Hid (y.length = n') := Lib.hid HY.out.1
    clear hs6 ht hA6 hbE hA' hbd
    go_wp2_with (at_builtin; go_must (first | (refine list_append_gw (by first | rfl | simp [Region.wanted, yielded]) (.tmp 55) (.tmp 56) rfl w7.heap.size (.slice (some ⟨w7.heap.size, 0, none⟩) 0 0) [] rfl hown0 _ _ _ y rfl hzA HNY.out (by have := HYL.out; simp; omega) (by simp) ?_; intro v6 w9 ho6 hg6 hgr6; have hb6 := Own.belowOf (below_one w7 (.cells #[] 5)) (by simp) hown0 hg6; rw [List.nil_append] at ho6; obtain ⟨A9, c9, rfl⟩ := ho6.slice; have hs9 := HS6.out.below hb6; have hB6 := hb6.size; clear hg6 hgr6 hzA hown0) | (refine list_append_gw (by first | rfl | simp [Region.wanted, yielded]) (.tmp 57) (.tmp 58) rfl w7.heap.size (.slice A9 y.length c9) y rfl ho6 _ _ _ (bkb z) rfl hs9 HN6.out (by have := HBL.out; have := HYL.out; have := HBB.out; omega) hB6 ?_; intro v8 w10 ho8 hg8 hgr8; have hb8 := Own.belowOf hb6 hB6 ho6 hg8; clear hg8 hgr8 hs9 ho6 hb6; obtain ⟨yz, hyz⟩ : ∃ yz, yz = y ++ bkb z := ⟨_, rfl⟩; rw [← hyz] at ho8; have HYZ := Lib.hid hyz; clear hyz; obtain ⟨A10, c10, rfl⟩ := ho8.slice; have ht10 := HT.out.below hb8; have hbd := HBDA.out.trans (hb8.mono HBDA.out.size); have ho10 := ho8.bs.2; clear ho8 hb8)))
    rw [← HYZ.out] at ht10
    with_reducible refine (same_any _ _ _ _ _ _ yz _ ht10 ho10).mono ?_
    rintro e w11 ⟨rfl, rfl⟩
    clear ht10 ho10
    go_wp2_with fail
    with_reducible refine (HSZ.out _ hbd).mono ?_
    rintro e w12 ⟨rfl, hb12⟩
    replace hbd := hbd.trans (hb12.mono hbd.size)
    clear hb12
    have e1 : ((bl : Int) == (bl : Int)) = true := by simp
    go_wp2_with fail
    with_reducible refine (HWY.out _ hbd).mono ?_
    rintro e w13 ⟨rfl, hb13⟩
    replace hbd := hbd.trans (hb13.mono hbd.size)
    clear hb13
    go_wp2_with fail
    refine (live16_any _).mono ?_
    rintro e w15 ⟨rfl, hb15⟩
    replace hbd := hbd.trans (hb15.mono hbd.size)
    have HB := Lib.hid hbd
    clear hbd hb15
    go_wp2
    go_ret
    exact ⟨rfl, HB.out⟩

set_option maxRecDepth 100000 in
theorem lifted (os : Os) (started : os.Started) (H : Type) (enc : TypeId × Value → H) :
    ReturnsInHanded {} Try.checked os 3 .any (Rows.blockWritesSpec.pre6 enc Try.prog Try.f3 Rows.blockWritesRow.domain false) (Rows.blockWritesSpec.post enc Try.prog Try.f3 false true false false) := by
  refine returnsInHanded_of_change (C := Try.checked) own started (by kernel_rfl) Try.func3
    (ChangeSpec.witness6 (enc := enc) (C := Try.checked) false ⟨#[], #[.slice none 0 0, .slice none 0 0], []⟩ 8 (by kernel_rfl) (by kernel_rfl) (by kernel_rfl) (by kernel_rfl)) ?_
  intro W base args ds gs before hval0 hW hcnd _
  have hval : ∀ (j : Nat) t v, Try.f3.params[j]? = some t → args[j]? = some v → Value.okWide Try.prog W .any base t v := hval0
  have hW' := hW
  obtain ⟨p, q, hA0, hV, rfl, hfz, hnd⟩ := hW
  have hA : DataW.TrodAll enc Try.prog W 0 (fun _ => true) true Try.f3.params.toList args.toList ds p := hA0
  rw [Try.params3] at hA hval
  obtain ⟨v0, vs0, d0, ds0, p0, q0, hargs, rfl, rfl, h0, r0⟩ := trodAll_cons hA
  obtain ⟨v1, vs1, d1, ds1, p1, q1, rfl, rfl, rfl, h1, r1⟩ := trodAll_cons r0
  obtain ⟨rfl, rfl, rfl⟩ := trodAll_nil r1
  obtain rfl : args = #[v0, v1] := by cases args; simp_all
  obtain ⟨rfl, rfl⟩ := trodVars_none hV
  have lt0 : ∀ x ∈ p0, x.block < W.heap.size := by obtain ⟨m, hm⟩ := h0; exact DataW.trod_lt m _ _ _ hm
  have lt1 : ∀ x ∈ p1, x.block < W.heap.size := by obtain ⟨m, hm⟩ := h1; exact DataW.trod_lt m _ _ _ hm
  clear hA0 hval0
  refine (walk enc W base v0 d0 p0 (hval 0 22 v0 rfl rfl) h0 v1 d1 p1 (hval 1 22 v1 rfl rfl) h1).mono fun e W' ⟨he, bel⟩ => ?_
  subst he
  exact ⟨_, rfl, _, _, _, [], _, [], hW', trodAll_mk1 (shut_bool Try.underlying4 _), (trodAll_cons_mk (Below.trod laidOut (by kernel_rfl) (of_decide_eq_true (by kernel_rfl)) h0 bel lt0) (trodAll_cons_mk (Below.trod laidOut (by kernel_rfl) (of_decide_eq_true (by kernel_rfl)) h1 bel lt1) trodAll_mk0)), rfl, bel.frame _, fun h => by cases h⟩

theorem over : Rows.blockWritesRow.holds Try.pinned (OpenSpec.ofChange Rows.blockWritesSpec) :=
  OpenClaim.holds_of_wide 3 Try.f3 rfl rfl rfl rfl rfl rfl rfl ⟨rfl, rfl, rfl, rfl, rfl⟩ rfl rfl rfl rfl rfl (by kernel_rfl) Try.func3 (by kernel_rfl)
    (of_decide_eq_true (by kernel_rfl)) (by unfold Func.isWrapper; first | (rw [if_pos (by decide +kernel)]; kernel_rfl) | (rw [if_neg (by decide +kernel)]; exact ⟨rfl, rfl⟩))
    (fun os started H enc _ => lifted os started H enc)

/-- THE STATEMENT. -/
theorem proved : Rows.BlockWritesSaid := over
#print axioms proved
end Go.Proofs.Ytckpngofnohdjaa.blockWrites
