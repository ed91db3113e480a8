/- PressChecks: called with any bytes, any int and any tokens, the law returns true; no condition. -/
import Derived.Test.YtmflnnfgkcmlhaaRows
import Derived.Test.YtmflnnfgkcmlhaaPreR
import Derived.Test.YtmflnnfgkcmlhaaExpX
import Derived.Test.YtmflnnfgkcmlhaaK16
import Derived.Test.YtmflnnfgkcmlhaaK1
import Derived.ProofKit
import Derived.OpenShut
import Derived.ShutString
import Derived.ChangeOld
namespace Go.Proofs.Ytmflnnfgkcmlhaa.pressChecks
open Go.ChangeShapes Go.WideShapes Go.ChangeAt Go.RowKit
open Go.ChangeMaps (open_string shut_string)
set_option linter.unusedVariables false

theorem own : ownKnob Try.prog.godebug = none := by kernel_rfl
theorem laidOut : laidOutB Try.prog = true := by kernel_rfl
open Cur Mem
attribute [local go_sem] Oper.semAt_some
set_option maxRecDepth 100000


set_option maxHeartbeats 8000000 in
theorem walk {H : Type} (enc : TypeId × Value → H) (w : World) (base : Nat) (v0 : Value) (d0 : DataW H) (p0 : List MemPlace) (g0 : Value.okWide Try.prog w .any base 22 v0) (h0 : DataW.Trod enc Try.prog w 0 (fun _ => true) true 22 v0 d0 p0) (v1 : Value) (d1 : DataW H) (p1 : List MemPlace) (g1 : Value.okWide Try.prog w .any base 3 v1) (h1 : DataW.Trod enc Try.prog w 0 (fun _ => true) true 3 v1 d1 p1) (v2 : Value) (d2 : DataW H) (p2 : List MemPlace) (g2 : Value.okWide Try.prog w .any base 24 v2) (h2 : DataW.Trod enc Try.prog w 0 (fun _ => true) true 24 v2 d2 p2) :
    Calls Try.prog 5 #[v0, v1, v2] w fun e w' => e = .returned (.bool true) ∧ Below w.heap.size w w' := by
  obtain ⟨A, n, m, z, rfl, hnm, hz, hby, hA⟩ := open_bytes g0 h0
  obtain ⟨bo, rfl, bo0, bo1⟩ := open_i64 g1 h1
  obtain ⟨A', k, m', T, rfl, hkm, hT, hok, hA'⟩ := open_tokens g2 h2
  clear g0 h0 g1 h1 g2 h2
  have hbd := Below.refl w.heap.size w
  by_cases h200 : 200 < n
  · clear hz hby hA hT hok hA'
    go_enter Try.func5, Try.ntmps5
    go_wp2_with fail
    refine (live15_any _).mono ?_
    rintro e w15 ⟨rfl, hb15⟩
    replace hbd := hbd.trans (hb15.mono hbd.size)
    have HB := Lib.hid hbd
    clear hbd hb15
    go_wp2
    go_ret
    exact ⟨rfl, HB.out⟩
  have hn : ¬ (200 : Int) < (n : Int) := by omega
  have hn2 : n ≤ 200 := by omega
  have HZ := Lib.hid hz
  have HBY := Lib.hid hby
  have HA := Lib.hid hA
  have HT := Lib.hid hT
  have HOK := Lib.hid hok
  clear h200 hz hby hA hok hA'
  go_enter Try.func5, Try.ntmps5
  go_wp2_with fail
  refine (tlong_any _ _ _ _ _ hT).mono ?_
  rintro e w1 ⟨rfl, rfl⟩
  cases hl : tlong T
  rotate_left
  · clear hl hT
    go_wp2_with fail
    refine (live15_any _).mono ?_
    rintro e w15 ⟨rfl, hb15⟩
    replace hbd := hbd.trans (hb15.mono hbd.size)
    have HB := Lib.hid hbd
    clear hbd hb15
    go_wp2
    go_ret
    exact ⟨rfl, HB.out⟩
  have hk : k ≤ 100 := by rw [← hT.1]; exact (tlong_no hl).1
  clear hl hT
  obtain ⟨B, hB⟩ : ∃ B, B = min bo 300 := ⟨_, rfl⟩
  have hB2 : B ≤ 300 := by omega
  have hB3 : min bo 300 = B := hB.symm
  clear hB
  have hC := pcheck_any (w := w) (m := m) B HZ.out hnm (by omega) HBY.out (by omega)
  have hE := fun W (h : Below w.heap.size w W) => reb_le (m := m) (bound := B) (HZ.out.below h) HA.out hnm (by omega) HBY.out (by omega)
  obtain ⟨g1, g2, g3, g4⟩ := exv_fine (z := z) (bound := B) HBY.out
  unfold ChkPost at hC
  have HCK : Hid (chkb z B = decide ((exv z B).2.1 = 0 ∧ z = cps (exv z B).1)) := Lib.hid rfl
  obtain ⟨ck, hck⟩ : ∃ ck, chkb z B = ck := ⟨_, rfl⟩
  rw [hck] at hC HCK
  generalize exv z B = G at *
  obtain ⟨y, c, q⟩ := G
  have HE := Lib.hid hE
  have HG2 : Hid (∀ x ∈ y, 0 ≤ x ∧ x < 256) := Lib.hid g2
  have hyl : y.length ≤ 300 := by have : ((y.length : Nat) : Int) ≤ max B 0 := g1; omega
  have HCK : Hid (ck = decide (c = 0 ∧ z = cps y)) := HCK
  clear hE g1 g2 g3 g4 hck
  go_wp2_with fail
  with_reducible refine hC.mono ?_
  rintro e w2 ⟨v2, rfl, ho2, hb2⟩
  have hy : Cur.Own w2 _ v2 y := ho2
  obtain ⟨A2, c2, rfl⟩ := hy.slice
  have hy := hy.bs.2
  replace hbd := hbd.trans (hb2.mono hbd.size)
  clear hC ho2 hb2
  have hX := Blk.new w2 #[.int .i64 c, .int .i64 q] 40
  have hbX := below_one w2 (.cells #[.int .i64 c, .int .i64 q] 40)
  replace hbd := hbd.trans (hbX.mono hbd.size)
  replace hy := hy.below hbX
  clear hbX
  go_wp2_with fail
  with_reducible refine (HE.out _ hbd).mono ?_
  rintro e w3 ⟨v3, rfl, ho3, hb3⟩
  have hx : Cur.Own w3 _ v3 y := ho3
  obtain ⟨A3, c3, rfl⟩ := hx.slice
  have hxc := hx.cap
  have hx := hx.bs.2
  replace hbd := hbd.trans (hb3.mono hbd.size)
  replace hy := hy.below hb3
  replace hX := hX.below hb3
  clear ho3 hb3 HE
  have hX2 := Blk.new w3 #[.int .i64 c, .int .i64 q] 40
  have hbX := below_one w3 (.cells #[.int .i64 c, .int .i64 q] 40)
  replace hbd := hbd.trans (hbX.mono hbd.size)
  replace hy := hy.below hbX
  replace hX := hX.below hbX
  replace hx := hx.below hbX
  clear hbX
  obtain ⟨x0, x1⟩ := hX.c2
  obtain ⟨y0, y1⟩ := hX2.c2
  obtain ⟨yl, hyl2⟩ : ∃ yl, y.length = yl := ⟨_, rfl⟩
  rw [hyl2] at hx hy hyl hxc ⊢
  have HYL := Lib.hid hyl2
  clear hyl2
  go_wp2_with fail
  with_reducible refine (same_any _ _ _ _ _ _ y _ hy hx).mono ?_
  rintro e w4 ⟨rfl, rfl⟩
  have HX2 := Lib.hid hX2
  have n1 : (c != c) = false := by simp
  have n2 : (q != q) = false := by simp
  clear hy hX hX2
  by_cases hc : c = 0
  · subst hc
    have hR := r15bytes_any (m := c3) hx HG2.out hxc (by omega)
    have hcb := cps_byte (z := y) (by have := HYL.out; omega) HG2.out
    have HCB := Lib.hid hcb
    have HCC : Hid (decide (cps y = z) = ck) := Lib.hid (by rw [HCK.out]; simp only [true_and]; exact decide_eq_decide.2 eq_comm)
    have hkk : (ck != ck) = false := by cases ck <;> rfl
    clear hx hcb
    go_wp2_with fail
    with_reducible refine hR.mono ?_
    rintro e w5 ⟨A5, n5, m5, rfl, hb5, hbs5, _⟩
    replace hbd := hbd.trans (hb5.mono hbd.size)
    have hB := bsame_any A5 A n5 n m5 m (cps y) z w5 hbs5 (HZ.out.below hbd) HCB.out HBY.out
    rw [HCC.out] at hB
    clear hR hb5 hbs5 x0 x1 y0 y1
    go_wp2_with fail
    with_reducible refine hB.mono ?_
    rintro e w6 ⟨rfl, rfl⟩
    clear hB
    go_wp2_with fail
    with_reducible refine (rtokens_any _ _ _ T 300 _ (HT.out.below hbd) HOK.out (by omega) (by omega)).mono ?_
    rintro e w7 ⟨v7, rfl, ho7, hb7⟩
    replace hbd := hbd.trans (hb7.mono hbd.size)
    obtain ⟨A7, c7, rfl⟩ := ho7.slice
    have hX7 := Blk.new w7 #[.int .i64 (xpb T 300 k).2.1, .int .i64 (xpb T 300 k).2.2] 40
    have hbX := below_one w7 (.cells #[.int .i64 (xpb T 300 k).2.1, .int .i64 (xpb T 300 k).2.2] 40)
    replace hbd := hbd.trans (hbX.mono hbd.size)
    obtain ⟨x0, x1⟩ := hX7.c2
    have hW := fun W (h : Below w.heap.size w W) (h11 : (xpb T 300 k).2.1 ≠ 11) => pwritten_any (m := m') (b := 300) (HT.out.below h) HOK.out (by omega) (by omega) (by omega) h11
    have hR := fun W (h : Below w.heap.size w W) => r15written_any (m := m') (b := 300) (HT.out.below h) HOK.out (by omega) (by omega)
    unfold BPost at hW hR
    have HW := Lib.hid hW
    have HR := Lib.hid hR
    clear hW hR hb7 hbX ho7 hX7 x1
    generalize (xpb T 300 k).1 = y7 at *
    generalize (xpb T 300 k).2.1 = c11 at *
    generalize (xpb T 300 k).2.2 = q7 at *
    by_cases h11 : c11 = 11
    · subst h11
      clear HW HR
      go_wp2_with fail
      refine (live15_any _).mono ?_
      rintro e w15 ⟨rfl, hb15⟩
      replace hbd := hbd.trans (hb15.mono hbd.size)
      have HB := Lib.hid hbd
      clear hbd hb15
      go_wp2
      go_ret
      exact ⟨rfl, HB.out⟩
    · have hb11 : (c11 == 11) = false := by simpa using h11
      have HW1 := Lib.hid (HW.out _ hbd h11)
      clear HW h11
      generalize wrt T 300 k = wr at *
      go_wp2_with fail
      with_reducible refine HW1.out.mono ?_
      rintro e w8 ⟨rfl, hb8⟩
      replace hbd := hbd.trans (hb8.mono hbd.size)
      clear HW1 hb8 x0
      go_wp2_with fail
      with_reducible refine (HR.out _ hbd).mono ?_
      rintro e w9 ⟨rfl, hb9⟩
      replace hbd := hbd.trans (hb9.mono hbd.size)
      have hww : (wr == wr) = true := by simp
      clear HR hb9
      go_wp2_with fail
      refine (live15_any _).mono ?_
      rintro e w15 ⟨rfl, hb15⟩
      replace hbd := hbd.trans (hb15.mono hbd.size)
      have HB := Lib.hid hbd
      clear hbd hb15
      go_wp2
      go_ret
      exact ⟨rfl, HB.out⟩
  · have hcb : (c == 0) = false := by simpa using hc
    have hckf : ck = false := by rw [HCK.out]; exact decide_eq_false (fun h => hc h.1)
    subst hckf
    clear hc hx
    go_wp2_with fail
    clear x0 x1 y0 y1
    with_reducible refine (rtokens_any _ _ _ T 300 _ (HT.out.below hbd) HOK.out (by omega) (by omega)).mono ?_
    rintro e w7 ⟨v7, rfl, ho7, hb7⟩
    replace hbd := hbd.trans (hb7.mono hbd.size)
    obtain ⟨A7, c7, rfl⟩ := ho7.slice
    have hX7 := Blk.new w7 #[.int .i64 (xpb T 300 k).2.1, .int .i64 (xpb T 300 k).2.2] 40
    have hbX := below_one w7 (.cells #[.int .i64 (xpb T 300 k).2.1, .int .i64 (xpb T 300 k).2.2] 40)
    replace hbd := hbd.trans (hbX.mono hbd.size)
    obtain ⟨x0, x1⟩ := hX7.c2
    have hW := fun W (h : Below w.heap.size w W) (h11 : (xpb T 300 k).2.1 ≠ 11) => pwritten_any (m := m') (b := 300) (HT.out.below h) HOK.out (by omega) (by omega) (by omega) h11
    have hR := fun W (h : Below w.heap.size w W) => r15written_any (m := m') (b := 300) (HT.out.below h) HOK.out (by omega) (by omega)
    unfold BPost at hW hR
    have HW := Lib.hid hW
    have HR := Lib.hid hR
    clear hW hR hb7 hbX ho7 hX7 x1
    generalize (xpb T 300 k).1 = y7 at *
    generalize (xpb T 300 k).2.1 = c11 at *
    generalize (xpb T 300 k).2.2 = q7 at *
    by_cases h11 : c11 = 11
    · subst h11
      clear HW HR
      go_wp2_with fail
      refine (live15_any _).mono ?_
      rintro e w15 ⟨rfl, hb15⟩
      replace hbd := hbd.trans (hb15.mono hbd.size)
      have HB := Lib.hid hbd
      clear hbd hb15
      go_wp2
      go_ret
      exact ⟨rfl, HB.out⟩
    · have hb11 : (c11 == 11) = false := by simpa using h11
      have HW1 := Lib.hid (HW.out _ hbd h11)
      clear HW h11
      generalize wrt T 300 k = wr at *
      go_wp2_with fail
      with_reducible refine HW1.out.mono ?_
      rintro e w8 ⟨rfl, hb8⟩
      replace hbd := hbd.trans (hb8.mono hbd.size)
      clear HW1 hb8 x0
      go_wp2_with fail
      with_reducible refine (HR.out _ hbd).mono ?_
      rintro e w9 ⟨rfl, hb9⟩
      replace hbd := hbd.trans (hb9.mono hbd.size)
      have hww : (wr == wr) = true := by simp
      clear HR hb9
      go_wp2_with fail
      refine (live15_any _).mono ?_
      rintro e w15 ⟨rfl, hb15⟩
      replace hbd := hbd.trans (hb15.mono hbd.size)
      have HB := Lib.hid hbd
      clear hbd hb15
      go_wp2
      go_ret
      exact ⟨rfl, HB.out⟩

set_option maxRecDepth 100000 in
theorem lifted (os : Os) (started : os.Started) (H : Type) (enc : TypeId × Value → H) :
    ReturnsInHanded {} Try.checked os 5 .any (Rows.pressChecksSpec.pre6 enc Try.prog Try.f5 Rows.pressChecksRow.domain false) (Rows.pressChecksSpec.post enc Try.prog Try.f5 false true false false) := by
  refine returnsInHanded_of_change (C := Try.checked) own started (by kernel_rfl) Try.func5
    (ChangeSpec.witness6 (enc := enc) (C := Try.checked) false ⟨#[], #[.slice none 0 0, .int .i64 0, .slice none 0 0], []⟩ 8 (by kernel_rfl) (by kernel_rfl) (by kernel_rfl) (by kernel_rfl)) ?_
  intro W base args ds gs before hval0 hW hcnd _
  have hval : ∀ (j : Nat) t v, Try.f5.params[j]? = some t → args[j]? = some v → Value.okWide Try.prog W .any base t v := hval0
  have hW' := hW
  obtain ⟨p, q, hA0, hV, rfl, hfz, hnd⟩ := hW
  have hA : DataW.TrodAll enc Try.prog W 0 (fun _ => true) true Try.f5.params.toList args.toList ds p := hA0
  rw [Try.params5] at hA hval
  obtain ⟨v0, vs0, d0, ds0, p0, q0, hargs, rfl, rfl, h0, r0⟩ := trodAll_cons hA
  obtain ⟨v1, vs1, d1, ds1, p1, q1, rfl, rfl, rfl, h1, r1⟩ := trodAll_cons r0
  obtain ⟨v2, vs2, d2, ds2, p2, q2, rfl, rfl, rfl, h2, r2⟩ := trodAll_cons r1
  obtain ⟨rfl, rfl, rfl⟩ := trodAll_nil r2
  obtain rfl : args = #[v0, v1, v2] := by cases args; simp_all
  obtain ⟨rfl, rfl⟩ := trodVars_none hV
  have lt0 : ∀ x ∈ p0, x.block < W.heap.size := by obtain ⟨m, hm⟩ := h0; exact DataW.trod_lt m _ _ _ hm
  have lt1 : ∀ x ∈ p1, x.block < W.heap.size := by obtain ⟨m, hm⟩ := h1; exact DataW.trod_lt m _ _ _ hm
  have lt2 : ∀ x ∈ p2, x.block < W.heap.size := by obtain ⟨m, hm⟩ := h2; exact DataW.trod_lt m _ _ _ hm
  clear hA0 hval0
  refine (walk enc W base v0 d0 p0 (hval 0 22 v0 rfl rfl) h0 v1 d1 p1 (hval 1 3 v1 rfl rfl) h1 v2 d2 p2 (hval 2 24 v2 rfl rfl) h2).mono fun e W' ⟨he, bel⟩ => ?_
  subst he
  exact ⟨_, rfl, _, _, _, [], _, [], hW', trodAll_mk1 (shut_bool Try.underlying4 _), (trodAll_cons_mk (Below.trod laidOut (by kernel_rfl) (of_decide_eq_true (by kernel_rfl)) h0 bel lt0) (trodAll_cons_mk (Below.trod laidOut (by kernel_rfl) (of_decide_eq_true (by kernel_rfl)) h1 bel lt1) (trodAll_cons_mk (Below.trod laidOut (by kernel_rfl) (of_decide_eq_true (by kernel_rfl)) h2 bel lt2) trodAll_mk0))), rfl, bel.frame _, fun h => by cases h⟩

theorem over : Rows.pressChecksRow.holds Try.pinned (OpenSpec.ofChange Rows.pressChecksSpec) :=
  OpenClaim.holds_of_wide 5 Try.f5 rfl rfl rfl rfl rfl rfl rfl ⟨rfl, rfl, rfl, rfl, rfl⟩ rfl rfl rfl rfl rfl (by kernel_rfl) Try.func5 (by kernel_rfl)
    (of_decide_eq_true (by kernel_rfl)) (by unfold Func.isWrapper; first | (rw [if_pos (by decide +kernel)]; kernel_rfl) | (rw [if_neg (by decide +kernel)]; exact ⟨rfl, rfl⟩))
    (fun os started H enc _ => lifted os started H enc)

/-- THE STATEMENT. -/
theorem proved : Rows.PressChecksSaid := over
#print axioms proved
end Go.Proofs.Ytmflnnfgkcmlhaa.pressChecks
