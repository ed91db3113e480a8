/- BlockBack: called with any two rows of bytes, the law returns true; no condition. -/
import Derived.Test.YtckpngofnohdjaaRows
import Derived.Test.YtckpngofnohdjaaBlkF
import Derived.Test.YtckpngofnohdjaaBlkB
import Derived.Test.YtckpngofnohdjaaK1
import Derived.ProofKit
import Derived.OpenShut
import Derived.ShutString
import Derived.ChangeOld
namespace Go.Proofs.Ytckpngofnohdjaa.blockBack
open Go.ChangeShapes Go.WideShapes Go.ChangeAt Go.RowKit
open Go.ChangeMaps (open_string shut_string)
set_option linter.unusedVariables false

theorem own : ownKnob Try.prog.godebug = none := by kernel_rfl
theorem laidOut : laidOutB Try.prog = true := by kernel_rfl
open Cur Mem
attribute [local go_sem] Oper.semAt_some
set_option maxRecDepth 100000


set_option maxHeartbeats 8000000 in
theorem walk {H : Type} (enc : TypeId × Value → H) (w : World) (base : Nat) (v0 : Value) (d0 : DataW H) (p0 : List MemPlace) (g0 : Value.okWide Try.prog w .any base 22 v0) (h0 : DataW.Trod enc Try.prog w 0 (fun _ => true) true 22 v0 d0 p0) (v1 : Value) (d1 : DataW H) (p1 : List MemPlace) (g1 : Value.okWide Try.prog w .any base 22 v1) (h1 : DataW.Trod enc Try.prog w 0 (fun _ => true) true 22 v1 d1 p1) :
    Calls Try.prog 4 #[v0, v1] w fun e w' => e = .returned (.bool true) ∧ Below w.heap.size w w' := by
  obtain ⟨A, n, m, z, rfl, hnm, hz, hby, hA⟩ := open_bytes g0 h0
  obtain ⟨A', n', m', y, rfl, hnm', hy, hby', hA'⟩ := open_bytes g1 h1
  clear g0 h0 g1 h1
  have hbd := Below.refl w.heap.size w
  by_cases h150 : 300 < n
  · clear hz hby hA hy hA' hby'
    go_enter Try.func4, Try.ntmps4
    go_wp2_with fail
    refine (live16_any _).mono ?_
    rintro e w15 ⟨rfl, hb15⟩
    replace hbd := hbd.trans (hb15.mono hbd.size)
    have HB := Lib.hid hbd
    clear hbd hb15
    go_wp2
    go_ret
    exact ⟨rfl, HB.out⟩
  by_cases h300 : 300 < n'
  · have hn : ¬ (300 : Int) < (n : Int) := by omega
    clear hz hby hA hy hA' hby'
    go_enter Try.func4, Try.ntmps4
    go_wp2_with fail
    refine (live16_any _).mono ?_
    rintro e w15 ⟨rfl, hb15⟩
    replace hbd := hbd.trans (hb15.mono hbd.size)
    have HB := Lib.hid hbd
    clear hbd hb15
    go_wp2
    go_ret
    exact ⟨rfl, HB.out⟩
  have hn : ¬ (300 : Int) < (n : Int) := by omega
  have hn' : ¬ (300 : Int) < (n' : Int) := by omega
  have hn2 : n ≤ 300 := by omega
  have hn2' : n' ≤ 300 := by omega
  have hbl := bkb_len z
  have hzl := hz.1
  rw [hzl] at hbl
  have hbb := bkb_byte (z := z) (by omega) hby
  obtain ⟨hp1, hp2, hp3⟩ := both_put (z := z) (rest := y) (most := 300) (by omega) hby (by rw [hzl]; omega)
  obtain ⟨yz, hyz⟩ : ∃ yz, yz = bkb z ++ y := ⟨_, rfl⟩
  rw [← hyz] at hp1 hp2 hp3
  have HYB : Hid (∀ x ∈ yz, 0 ≤ x ∧ x < 256) := Lib.hid (fun x hx => by
    rw [hyz] at hx
    rcases List.mem_append.1 hx with hx | hx
    · exact hbb x hx
    · exact hby' x hx)
  have HYZ := Lib.hid hyz
  have hyl : yz.length = (bkb z).length + n' := by rw [hyz, List.length_append, hy.1]
  have HP1 := Lib.hid hp1
  have HP2 := Lib.hid hp2
  have HP3 := Lib.hid hp3
  have HZ := Lib.hid hz
  have HY := Lib.hid hy
  have HNY : Hid (A' = none → m' = 0) := Lib.hid hA'
  have hK := kbytes_any A n m hz hA hby hnm (by omega)
  unfold KBPost at hK
  obtain ⟨bl, hbl2⟩ : ∃ bl, bl = (bkb z).length := ⟨_, rfl⟩
  rw [← hbl2] at hK hyl hbl
  have HBB := Lib.hid hbl2
  have HYL := Lib.hid hyl
  clear h150 h300 hz hby hA hy hbl2 hby' hbb hyz hp1 hp2 hp3 hyl hA' hzl
  go_enter Try.func4, Try.ntmps4
  go_wp2_with fail
  with_reducible refine hK.mono ?_
  rintro e w1 ⟨g1, rfl, hg1, hb1, hblk1⟩
  have hs1 := Bs.of_block hblk1
  rw [← HBB.out] at hs1
  replace hbd := hbd.trans (hb1.mono hbd.size)
  clear hK hg1 hb1 hblk1
  have hown0 := own_of_row (B := w1.heap.size) (z := []) (Blk.new w1 #[] 5) (Nat.le_refl _) (by simp)
  have hbE := below_one w1 (.cells #[] 5)
  have hsA := hs1.below hbE
  have HBD := Lib.hid hbd
  have hyA := Lib.hid (HY.out.below hbd)
  clear hs1 hbE hbd
  go_wp2_with (at_builtin; go_must (first | (refine list_append_gr rfl (.tmp 29) (.tmp 30) rfl w1.heap.size (.slice (some ⟨w1.heap.size, 0, none⟩) 0 0) [] rfl hown0 _ bl bl (bkb z) rfl hsA (by simp) (by simp; omega) (by simp) ?_; intro v6 w9 ho6 hg6 hgr6; have hb6 := Own.belowOf (below_one w1 (.cells #[] 5)) (by simp) hown0 hg6; rw [List.nil_append] at ho6; obtain ⟨A9, c9, hv⟩ := ho6.slice; rw [← HBB.out] at hv; subst hv; have hy9 := hyA.out.below hb6; have hB6 := hb6.size; clear hg6 hgr6 hsA hown0) | (refine list_append_gr rfl (.tmp 31) (.tmp 32) rfl w1.heap.size _ (bkb z) rfl ho6 _ n' m' y rfl hy9 HNY.out (by rw [← HBB.out]; omega) hB6 ?_; intro v8 w10 ho8 hg8 hgr8; have hb8 := Own.belowOf hb6 hB6 ho6 hg8; clear hg8 hgr8 hy9 ho6 hb6; rw [← HYZ.out] at ho8; obtain ⟨A10, c10, hv⟩ := ho8.slice; rw [HYL.out] at hv; subst hv; have hbd := HBD.out.trans (hb8.mono HBD.out.size); have hcap := ho8.cap; have ho10 := ho8.bs.2; clear ho8 hb8)))
  have hG := kget_any A10 (bl + n') c10 300 ho10 hcap (by omega) HYB.out (by omega)
  unfold KGetPost at hG
  rw [HP2.out] at hG
  simp only [gvl, gpl, gq, if_pos] at hG
  have hGl := fun W (h : Below w10.heap.size w10 W) => kgetloose_any A10 (bl + n') c10 300 (ho10.below h) hcap (by omega) HYB.out (by omega)
  unfold KGlPost at hGl
  rw [HP3.out, HP1.out] at hGl
  simp only [gvl, gpl, gq, if_pos] at hGl
  rw [← HBB.out] at hG hGl
  have HGL := Lib.hid hGl
  clear ho10 hGl
  go_wp2_with fail
  refine hG.mono ?_
  rintro e w11 ⟨v11, rfl, ho11, hb11, _⟩
  obtain ⟨A11, c11, rfl⟩ := ho11.slice
  have hs11 := ho11.bs.2
  have hX := Blk.new w11 #[.int .i64 0, .int .i64 0] 37
  have hbX := below_one w11 (.cells #[.int .i64 0, .int .i64 0] 37)
  have hbd11 := hb11.trans (hbX.mono hb11.size)
  replace hbd := hbd.trans (hbd11.mono hbd.size)
  replace hs11 := hs11.below hbX
  obtain ⟨zl, hzl⟩ : ∃ zl, z.length = zl := ⟨_, rfl⟩
  rw [hzl] at hs11 ⊢
  have HZL := Lib.hid hzl
  have hGl := HGL.out _ hbd11
  clear hG hb11 hbX ho11 hbd11 HGL hzl
  go_wp2_with fail
  refine hGl.mono ?_
  rintro e w12 ⟨v12, rfl, ho12, hb12, _⟩
  obtain ⟨A12, c12, rfl⟩ := ho12.slice
  have hs12 := ho12.bs.2
  have hX2 := Blk.new w12 #[.int .i64 0, .int .i64 0] 37
  have hbX := below_one w12 (.cells #[.int .i64 0, .int .i64 0] 37)
  replace hbd := (hbd.trans (hb12.mono hbd.size)).trans (hbX.mono (hbd.trans (hb12.mono hbd.size)).size)
  replace hs12 := hs12.below hbX
  replace hs11 := (hs11.below hb12).below hbX
  replace hX := (hX.below hb12).below hbX
  obtain ⟨x0, x1⟩ := hX.c2
  obtain ⟨y0, y1⟩ := hX2.c2
  rw [HZL.out] at hs12 ⊢
  have e0 : ((bl : Int) == (bl : Int)) = true := by simp
  clear hGl hb12 hbX ho12 x1 y1 hX hX2
  go_wp2_with fail
  with_reducible refine (same_any _ _ _ _ _ _ z _ hs11 (HZ.out.below hbd)).mono ?_
  rintro e w13 ⟨rfl, rfl⟩
  go_wp2_with fail
  with_reducible refine (same_any _ _ _ _ _ _ z _ hs12 (HZ.out.below hbd)).mono ?_
  rintro e w14 ⟨rfl, rfl⟩
  clear hs11 hs12 x0 y0 e0
  go_wp2_with fail
  refine (live16_any _).mono ?_
  rintro e w15 ⟨rfl, hb15⟩
  replace hbd := hbd.trans (hb15.mono hbd.size)
  have HB := Lib.hid hbd
  clear hbd hb15
  go_wp2
  go_ret
  exact ⟨rfl, HB.out⟩

set_option maxRecDepth 100000 in
theorem lifted (os : Os) (started : os.Started) (H : Type) (enc : TypeId × Value → H) :
    ReturnsInHanded {} Try.checked os 4 .any (Rows.blockBackSpec.pre6 enc Try.prog Try.f4 Rows.blockBackRow.domain false) (Rows.blockBackSpec.post enc Try.prog Try.f4 false true false false) := by
  refine returnsInHanded_of_change (C := Try.checked) own started (by kernel_rfl) Try.func4
    (ChangeSpec.witness6 (enc := enc) (C := Try.checked) false ⟨#[], #[.slice none 0 0, .slice none 0 0], []⟩ 8 (by kernel_rfl) (by kernel_rfl) (by kernel_rfl) (by kernel_rfl)) ?_
  intro W base args ds gs before hval0 hW hcnd _
  have hval : ∀ (j : Nat) t v, Try.f4.params[j]? = some t → args[j]? = some v → Value.okWide Try.prog W .any base t v := hval0
  have hW' := hW
  obtain ⟨p, q, hA0, hV, rfl, hfz, hnd⟩ := hW
  have hA : DataW.TrodAll enc Try.prog W 0 (fun _ => true) true Try.f4.params.toList args.toList ds p := hA0
  rw [Try.params4] at hA hval
  obtain ⟨v0, vs0, d0, ds0, p0, q0, hargs, rfl, rfl, h0, r0⟩ := trodAll_cons hA
  obtain ⟨v1, vs1, d1, ds1, p1, q1, rfl, rfl, rfl, h1, r1⟩ := trodAll_cons r0
  obtain ⟨rfl, rfl, rfl⟩ := trodAll_nil r1
  obtain rfl : args = #[v0, v1] := by cases args; simp_all
  obtain ⟨rfl, rfl⟩ := trodVars_none hV
  have lt0 : ∀ x ∈ p0, x.block < W.heap.size := by obtain ⟨m, hm⟩ := h0; exact DataW.trod_lt m _ _ _ hm
  have lt1 : ∀ x ∈ p1, x.block < W.heap.size := by obtain ⟨m, hm⟩ := h1; exact DataW.trod_lt m _ _ _ hm
  clear hA0 hval0
  refine (walk enc W base v0 d0 p0 (hval 0 22 v0 rfl rfl) h0 v1 d1 p1 (hval 1 22 v1 rfl rfl) h1).mono fun e W' ⟨he, bel⟩ => ?_
  subst he
  exact ⟨_, rfl, _, _, _, [], _, [], hW', trodAll_mk1 (shut_bool Try.underlying4 _), (trodAll_cons_mk (Below.trod laidOut (by kernel_rfl) (of_decide_eq_true (by kernel_rfl)) h0 bel lt0) (trodAll_cons_mk (Below.trod laidOut (by kernel_rfl) (of_decide_eq_true (by kernel_rfl)) h1 bel lt1) trodAll_mk0)), rfl, bel.frame _, fun h => by cases h⟩

theorem over : Rows.blockBackRow.holds Try.pinned (OpenSpec.ofChange Rows.blockBackSpec) :=
  OpenClaim.holds_of_wide 4 Try.f4 rfl rfl rfl rfl rfl rfl rfl ⟨rfl, rfl, rfl, rfl, rfl⟩ rfl rfl rfl rfl rfl (by kernel_rfl) Try.func4 (by kernel_rfl)
    (of_decide_eq_true (by kernel_rfl)) (by unfold Func.isWrapper; first | (rw [if_pos (by decide +kernel)]; kernel_rfl) | (rw [if_neg (by decide +kernel)]; exact ⟨rfl, rfl⟩))
    (fun os started H enc _ => lifted os started H enc)

/-- THE STATEMENT. -/
theorem proved : Rows.BlockBackSaid := over
#print axioms proved
end Go.Proofs.Ytckpngofnohdjaa.blockBack
