/- PressBack: called with any bytes, the law returns true; no condition. -/
import Derived.Test.YtmflnnfgkcmlhaaRows
import Derived.Test.YtmflnnfgkcmlhaaPreR
import Derived.Test.YtmflnnfgkcmlhaaExpX
import Derived.Test.YtmflnnfgkcmlhaaK16
import Derived.Test.YtmflnnfgkcmlhaaK1
import Derived.ProofKit
import Derived.OpenShut
import Derived.ShutString
import Derived.ChangeOld
namespace Go.Proofs.Ytmflnnfgkcmlhaa.pressBack
open Go.ChangeShapes Go.WideShapes Go.ChangeAt Go.RowKit
open Go.ChangeMaps (open_string shut_string)
set_option linter.unusedVariables false

theorem own : ownKnob Try.prog.godebug = none := by kernel_rfl
theorem laidOut : laidOutB Try.prog = true := by kernel_rfl
open Cur Mem
attribute [local go_sem] Oper.semAt_some
set_option maxRecDepth 100000


set_option maxHeartbeats 8000000 in
theorem walk {H : Type} (enc : TypeId × Value → H) (w : World) (base : Nat) (v0 : Value) (d0 : DataW H) (p0 : List MemPlace) (g0 : Value.okWide Try.prog w .any base 22 v0) (h0 : DataW.Trod enc Try.prog w 0 (fun _ => true) true 22 v0 d0 p0) :
    Calls Try.prog 4 #[v0] w fun e w' => e = .returned (.bool true) ∧ Below w.heap.size w w' := by
  obtain ⟨A, n, m, z, rfl, hnm, hz, hby, hA⟩ := open_bytes g0 h0
  clear g0 h0
  have hbd := Below.refl w.heap.size w
  by_cases h400 : 400 < n
  · clear hz hby hA
    go_enter Try.func4, Try.ntmps4
    go_wp2_with fail
    refine (live15_any _).mono ?_
    rintro e w15 ⟨rfl, hb15⟩
    replace hbd := hbd.trans (hb15.mono hbd.size)
    have HB := Lib.hid hbd
    clear hbd hb15
    go_wp2
    go_ret
    exact ⟨rfl, HB.out⟩
  · have hn : n ≤ 400 := by omega
    have hzl := hz.1
    have hB0 := pbytes_any (m := m) hz hby hnm (by omega)
    have hcl := cps_len (z := z) (by omega) hby
    have hcb := cps_byte (z := z) (by omega) hby
    have hex := exv_cps (z := z) (b := (n : Int)) (by omega) hby (by omega)
    have hwr := wrt_gtk (z := z) (b := (n : Int)) (by omega) (by omega)
    have HBY := Lib.hid hby
    have HZL : Hid (z.length = n) := Lib.hid hzl
    have HRT := Lib.hid (gtk_right (z := z) (by omega) hby)
    have HCB := Lib.hid hcb
    have HEX := Lib.hid hex
    have HWR := Lib.hid hwr
    have hcn : (cps z).length ≤ 8400 := by omega
    have hck : chkb (cps z) n = true := by unfold chkb; rw [hex]; simp
    have HCK := Lib.hid hck
    clear hby h400 hzl hcl hcb hex hwr hck
    go_enter Try.func4, Try.ntmps4
    go_wp2_with fail
    with_reducible refine hB0.mono ?_
    rintro e w1 ⟨A1, n1, m1, rfl, hb1, ht, hm1, hA1⟩
    have hn1 : n1 ≤ 8400 := by rw [← ht.1]; exact hcn
    replace hbd := hbd.trans (hb1.mono hbd.size)
    replace hz := hz.below hb1
    clear hB0 hb1 hcn
    have hE := reb_le (m := m1) (bound := (n : Int)) ht hA1 hm1 (by omega) HCB.out (by omega)
    rw [HEX.out] at hE
    go_wp2_with fail
    with_reducible refine hE.mono ?_
    rintro e w2 ⟨v2, rfl, ho2, hb2⟩
    have hx : Cur.Own w2 w1.heap.size v2 z := ho2
    obtain ⟨A2, c2, rfl⟩ := hx.slice
    have hx := hx.bs.2
    replace hbd := hbd.trans (hb2.mono hbd.size)
    replace hz := hz.below hb2
    replace ht := ht.below hb2
    clear hE ho2 hb2
    have hX := Blk.new w2 #[.int .i64 0, .int .i64 0] 40
    have hbX := below_one w2 (.cells #[.int .i64 0, .int .i64 0] 40)
    replace hbd := hbd.trans (hbX.mono hbd.size)
    replace hz := hz.below hbX
    replace ht := ht.below hbX
    replace hx := hx.below hbX
    clear hbX
    have hC := pcheck_any (m := m1) (n : Int) ht hm1 (by omega) HCB.out (by omega)
    unfold ChkPost at hC
    rw [HEX.out, HCK.out] at hC
    obtain ⟨zl, hzl⟩ : ∃ zl, z.length = zl := ⟨_, rfl⟩
    rw [hzl] at hx ⊢
    have HZ2 := Lib.hid hzl
    clear ht hzl
    go_wp2_with fail
    with_reducible refine hC.mono ?_
    rintro e w3 ⟨v3, rfl, ho3, hb3⟩
    have hy : Cur.Own w3 _ v3 z := ho3
    obtain ⟨A3, c3, rfl⟩ := hy.slice
    have hy := hy.bs.2
    replace hbd := hbd.trans (hb3.mono hbd.size)
    replace hz := hz.below hb3
    replace hx := hx.below hb3
    replace hX := hX.below hb3
    clear hC ho3 hb3
    have hX2 := Blk.new w3 #[.int .i64 0, .int .i64 0] 40
    have hbX := below_one w3 (.cells #[.int .i64 0, .int .i64 0] 40)
    replace hbd := hbd.trans (hbX.mono hbd.size)
    replace hz := hz.below hbX
    replace hx := hx.below hbX
    replace hX := hX.below hbX
    replace hy := hy.below hbX
    clear hbX
    rw [HZ2.out] at hy ⊢
    have hT := ptokens_any (m := m) hz HBY.out hnm (by omega)
    go_wp2_with fail
    with_reducible refine hT.mono ?_
    rintro e w4 ⟨v4, L, p, rfl, hL, hp, hb4⟩
    obtain rfl := gtk_of hp
    obtain ⟨A4, c4, rfl⟩ := hL.slice
    obtain ⟨_, _, _, hl⟩ := hL.tks
    replace hbd := hbd.trans (hb4.mono hbd.size)
    replace hz := hz.below hb4
    replace hx := hx.below hb4
    replace hX := hX.below hb4
    replace hy := hy.below hb4
    replace hX2 := hX2.below hb4
    obtain ⟨x0, x1⟩ := hX.c2
    obtain ⟨y0, y1⟩ := hX2.c2
    clear hT hL hp hb4 x1 y1
    have hwr := HWR.out
    have hkl : (gtk z).length ≤ 400 := by have := HRT.out.2.2; have := HZL.out; omega
    have HOK : Hid (∀ t ∈ gtk z, tkok t) := Lib.hid (fun t ht => (HRT.out.1 t ht).2.1)
    have hW := fun W (h : Below w4.heap.size w4 W) => pwritten_any (m := c4) (b := (n : Int)) (hl.below h) HOK.out (by omega) (by omega) (by omega) (by rw [hwr.1]; exact (by decide : (0 : Int) ≠ 11))
    unfold BPost at hW
    rw [hwr.2] at hW
    have HW := Lib.hid hW
    generalize (gtk z).length = gl at *
    clear hW hwr hl
    go_wp2_with fail
    with_reducible refine (same_any _ _ _ _ _ _ z _ hx hz).mono ?_
    rintro e w5 ⟨rfl, rfl⟩
    go_wp2_with fail
    with_reducible refine (same_any _ _ _ _ _ _ z _ hy hz).mono ?_
    rintro e w5 ⟨rfl, rfl⟩
    clear hx hy hz
    go_wp2_with fail
    with_reducible refine (HW.out _ (Below.refl _ _)).mono ?_
    rintro e w6 ⟨rfl, hb6⟩
    replace hbd := hbd.trans (hb6.mono hbd.size)
    clear HW hb6 x0 y0 hX hX2
    go_wp2_with fail
    refine (live15_any _).mono ?_
    rintro e w15 ⟨rfl, hb15⟩
    replace hbd := hbd.trans (hb15.mono hbd.size)
    have HB := Lib.hid hbd
    clear hbd hb15
    go_wp2
    go_ret
    exact ⟨rfl, HB.out⟩

set_option maxRecDepth 100000 in
theorem lifted (os : Os) (started : os.Started) (H : Type) (enc : TypeId × Value → H) :
    ReturnsInHanded {} Try.checked os 4 .any (Rows.pressBackSpec.pre6 enc Try.prog Try.f4 Rows.pressBackRow.domain false) (Rows.pressBackSpec.post enc Try.prog Try.f4 false true false false) := by
  refine returnsInHanded_of_change (C := Try.checked) own started (by kernel_rfl) Try.func4
    (ChangeSpec.witness6 (enc := enc) (C := Try.checked) false ⟨#[], #[.slice none 0 0], []⟩ 8 (by kernel_rfl) (by kernel_rfl) (by kernel_rfl) (by kernel_rfl)) ?_
  intro W base args ds gs before hval0 hW hcnd _
  have hval : ∀ (j : Nat) t v, Try.f4.params[j]? = some t → args[j]? = some v → Value.okWide Try.prog W .any base t v := hval0
  have hW' := hW
  obtain ⟨p, q, hA0, hV, rfl, hfz, hnd⟩ := hW
  have hA : DataW.TrodAll enc Try.prog W 0 (fun _ => true) true Try.f4.params.toList args.toList ds p := hA0
  rw [Try.params4] at hA hval
  obtain ⟨v0, vs0, d0, ds0, p0, q0, hargs, rfl, rfl, h0, r0⟩ := trodAll_cons hA
  obtain ⟨rfl, rfl, rfl⟩ := trodAll_nil r0
  obtain rfl : args = #[v0] := by cases args; simp_all
  obtain ⟨rfl, rfl⟩ := trodVars_none hV
  have lt0 : ∀ x ∈ p0, x.block < W.heap.size := by obtain ⟨m, hm⟩ := h0; exact DataW.trod_lt m _ _ _ hm
  clear hA0 hval0
  refine (walk enc W base v0 d0 p0 (hval 0 22 v0 rfl rfl) h0).mono fun e W' ⟨he, bel⟩ => ?_
  subst he
  exact ⟨_, rfl, _, _, _, [], _, [], hW', trodAll_mk1 (shut_bool Try.underlying4 _), (trodAll_cons_mk (Below.trod laidOut (by kernel_rfl) (of_decide_eq_true (by kernel_rfl)) h0 bel lt0) trodAll_mk0), rfl, bel.frame _, fun h => by cases h⟩

theorem over : Rows.pressBackRow.holds Try.pinned (OpenSpec.ofChange Rows.pressBackSpec) :=
  OpenClaim.holds_of_wide 4 Try.f4 rfl rfl rfl rfl rfl rfl rfl ⟨rfl, rfl, rfl, rfl, rfl⟩ rfl rfl rfl rfl rfl (by kernel_rfl) Try.func4 (by kernel_rfl)
    (of_decide_eq_true (by kernel_rfl)) (by unfold Func.isWrapper; first | (rw [if_pos (by decide +kernel)]; kernel_rfl) | (rw [if_neg (by decide +kernel)]; exact ⟨rfl, rfl⟩))
    (fun os started H enc _ => lifted os started H enc)

/-- THE STATEMENT. -/
theorem proved : Rows.PressBackSaid := over
#print axioms proved
end Go.Proofs.Ytmflnnfgkcmlhaa.pressBack
