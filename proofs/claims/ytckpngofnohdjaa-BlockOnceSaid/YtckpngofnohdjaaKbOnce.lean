/- BlockOnce: called with any bytes, the law returns true; no condition. -/
import Derived.Test.YtckpngofnohdjaaRows
import Derived.Test.YtckpngofnohdjaaBlkF
import Derived.Test.YtckpngofnohdjaaBlkB
import Derived.Test.YtckpngofnohdjaaK1
import Derived.ProofKit
import Derived.OpenShut
import Derived.ShutString
import Derived.ChangeOld
namespace Go.Proofs.Ytckpngofnohdjaa.blockOnce
open Go.ChangeShapes Go.WideShapes Go.ChangeAt Go.RowKit
open Go.ChangeMaps (open_string shut_string)
set_option linter.unusedVariables false

theorem own : ownKnob Try.prog.godebug = none := by kernel_rfl
theorem laidOut : laidOutB Try.prog = true := by kernel_rfl
open Cur Mem
attribute [local go_sem] Oper.semAt_some
set_option maxRecDepth 100000


set_option maxHeartbeats 8000000 in
theorem walk {H : Type} (enc : TypeId × Value → H) (w : World) (base : Nat) (v0 : Value) (d0 : DataW H) (p0 : List MemPlace) (g0 : Value.okWide Try.prog w .any base 22 v0) (h0 : DataW.Trod enc Try.prog w 0 (fun _ => true) true 22 v0 d0 p0) :
    Calls Try.prog 5 #[v0] w fun e w' => e = .returned (.bool true) ∧ Below w.heap.size w w' := by
  obtain ⟨A, n, m, z, rfl, hnm, hz, hby, hA⟩ := open_bytes g0 h0
  clear g0 h0
  have hbd := Below.refl w.heap.size w
  by_cases h300 : 300 < n
  · clear hz hby hA
    go_enter Try.func5, Try.ntmps5
    go_wp2_with fail
    refine (live16_any _).mono ?_
    rintro e w15 ⟨rfl, hb15⟩
    replace hbd := hbd.trans (hb15.mono hbd.size)
    have HB := Lib.hid hbd
    clear hbd hb15
    go_wp2
    go_ret
    exact ⟨rfl, HB.out⟩
  have hn : ¬ (300 : Int) < (n : Int) := by omega
  have hn2 : n ≤ 300 := by omega
  have hG := kget_any A n m 300 hz hnm (by omega) hby (by omega)
  have hGl := fun W (h : Below w.heap.size w W) => kgetloose_any A n m 300 (hz.below h) hnm (by omega) hby (by omega)
  unfold KGetPost at hG
  unfold KGlPost at hGl
  have hzl := hz.1
  have HZ := Lib.hid hz
  have HBY := Lib.hid hby
  rcases bks_cases z 300 with ⟨c1, c2, c3, c4⟩ | ⟨c1, c2, c3⟩ | ⟨c1, c2, c3⟩
  · have hpl := bk_place hby c2
    rw [c1] at hGl
    rw [c3] at hG
    simp only [gvl, gpl, gq, c2, if_pos] at hG hGl
    generalize bk z 300 0 = G at *
    obtain ⟨y, P, cc, qq⟩ := G
    simp only at hG hGl c2 c4 hpl
    obtain ⟨p, rfl⟩ : ∃ p : Nat, P = p := ⟨P.toNat, by omega⟩
    rw [Int.toNat_natCast] at c4
    have hpn : p ≤ n := by omega
    have HC4 := Lib.hid c4
    have HGL := Lib.hid hGl
    clear c1 c2 c3 c4 hpl h300 hz hby hA hzl hGl
    go_enter Try.func5, Try.ntmps5
    go_wp2_with fail
    refine hG.mono ?_
    rintro e w1 ⟨v1, rfl, ho1, hb1, hll, hlb⟩
    obtain ⟨A1, c1, rfl, hs1, hn1, hc1⟩ := ho1.parts
    have hX := Blk.new w1 #[.int .i64 0, .int .i64 0] 37
    have hbX := below_one w1 (.cells #[.int .i64 0, .int .i64 0] 37)
    have hbd1 := hb1.trans (hbX.mono hb1.size)
    replace hs1 := hs1.below hbX
    obtain ⟨yl, hyl⟩ : ∃ yl, y.length = yl := ⟨_, rfl⟩
    rw [hyl] at hs1 hll hc1 ⊢
    have HYL := Lib.hid hyl
    have HLB := Lib.hid hlb
    have HN1 := Lib.hid hn1
    have hGl := HGL.out _ hbd1
    clear hG hb1 hbX ho1 hyl hlb hn1 HGL
    go_wp2_with fail
    refine hGl.mono ?_
    rintro e w2 ⟨v2, rfl, ho2, hb2, _⟩
    obtain ⟨A2, c2, rfl⟩ := ho2.slice
    have hs2 := ho2.bs.2
    have hX2 := Blk.new w2 #[.int .i64 0, .int .i64 0] 37
    have hbX := below_one w2 (.cells #[.int .i64 0, .int .i64 0] 37)
    have hbd2 := (hbd1.trans (hb2.mono hbd1.size)).trans (hbX.mono (hbd1.trans (hb2.mono hbd1.size)).size)
    replace hs2 := hs2.below hbX
    replace hs1 := (hs1.below hb2).below hbX
    replace hX := (hX.below hb2).below hbX
    obtain ⟨x0, x1⟩ := hX.c2
    rw [HYL.out] at hs2 ⊢
    have hK := kbytes_any A1 yl c1 hs1 HN1.out HLB.out hc1 (by omega)
    unfold KBPost at hK
    obtain ⟨bl, hbl⟩ : ∃ bl, bl = (bkb y).length := ⟨_, rfl⟩
    rw [← hbl] at hK
    have HBL := Lib.hid hbl
    clear hGl hb2 hbX ho2 x1 hbd1 hbl
    go_wp2_with fail
    with_reducible refine hK.mono ?_
    rintro e w3 ⟨g3, rfl, _, hb3, hblk3⟩
    have hs3 := Bs.of_block hblk3
    rw [← HBL.out] at hs3
    have hbd3 := hbd2.trans (hb3.mono hbd2.size)
    replace hs1 := hs1.below hb3
    replace hs2 := hs2.below hb3
    replace hX := hX.below hb3
    replace hX2 := hX2.below hb3
    obtain ⟨x0, x1⟩ := hX.c2
    obtain ⟨y0, y1⟩ := hX2.c2
    obtain ⟨A5, M5, hsl, hs5⟩ := slice_hi (HZ.out.below hbd3) m p hpn hnm
    rw [HC4.out] at hs5
    have e0 : ((p : Int) == (p : Int)) = true := by simp
    have hbd := hbd3
    clear hK hblk3 hb3 hbd2 hbd3 x1 y1 hX hX2
    go_wp2_with fail
    with_reducible refine (same_any _ _ _ _ _ _ y _ hs2 hs1).mono ?_
    rintro e w4 ⟨rfl, rfl⟩
    go_wp2_with fail
    with_reducible refine (same_any _ _ _ _ _ _ (bkb y) _ hs3 hs5).mono ?_
    rintro e w5 ⟨rfl, rfl⟩
    clear hs1 hs2 hs3 hs5 e0 hsl x0 y0
    go_wp2_with fail
    refine (live16_any _).mono ?_
    rintro e w15 ⟨rfl, hb15⟩
    replace hbd := hbd.trans (hb15.mono hbd.size)
    have HB := Lib.hid hbd
    clear hbd hb15
    go_wp2
    go_ret
    exact ⟨rfl, HB.out⟩
  · rw [c1] at hGl
    rw [c3] at hG
    simp only [gvl, gpl, gq, c2, if_pos] at hG hGl
    rw [if_neg (by decide), if_neg (by decide), if_neg (by decide)] at hG
    generalize bk z 300 0 = G at *
    obtain ⟨y, P, cc, qq⟩ := G
    simp only at hG hGl c2
    have HGL := Lib.hid hGl
    clear c1 c2 c3 h300 hz hby hA hzl hGl
    go_enter Try.func5, Try.ntmps5
    go_wp2_with fail
    refine hG.mono ?_
    rintro e w1 ⟨v1, rfl, ho1, hb1, hll, hlb⟩
    obtain ⟨A1, c1, rfl⟩ := ho1.slice
    have hX := Blk.new w1 #[.int .i64 12, .int .i64 P] 37
    have hbX := below_one w1 (.cells #[.int .i64 12, .int .i64 P] 37)
    have hbd1 := hb1.trans (hbX.mono hb1.size)
    have hGl := HGL.out _ hbd1
    clear hG hb1 hbX ho1 hlb hll HGL
    go_wp2_with fail
    refine hGl.mono ?_
    rintro e w2 ⟨v2, rfl, ho2, hb2, _⟩
    obtain ⟨A2, c2, rfl⟩ := ho2.slice
    have hX2 := Blk.new w2 #[.int .i64 0, .int .i64 0] 37
    have hbX := below_one w2 (.cells #[.int .i64 0, .int .i64 0] 37)
    have hbd := (hbd1.trans (hb2.mono hbd1.size)).trans (hbX.mono (hbd1.trans (hb2.mono hbd1.size)).size)
    replace hX := (hX.below hb2).below hbX
    obtain ⟨x0, x1⟩ := hX.c2
    obtain ⟨y0, y1⟩ := hX2.c2
    have e0 : (P == P) = true := by simp
    generalize y.length = yl at *
    clear hGl hb2 hbX ho2 y1 hX hX2 hbd1
    go_wp2_with fail
    refine (live16_any _).mono ?_
    rintro e w15 ⟨rfl, hb15⟩
    replace hbd := hbd.trans (hb15.mono hbd.size)
    have HB := Lib.hid hbd
    clear hbd hb15
    go_wp2
    go_ret
    exact ⟨rfl, HB.out⟩
  · rw [c1] at hGl
    rw [c3] at hG
    simp only [gvl, gpl, gq, if_neg c2] at hG hGl
    generalize bk z 300 0 = G at *
    obtain ⟨y, P, cc, qq⟩ := G
    simp only at hG hGl c2
    have hcb : (cc == 0) = false := by simpa using c2
    have HGL := Lib.hid hGl
    clear c1 c2 c3 h300 hz hby hA hzl hGl
    go_enter Try.func5, Try.ntmps5
    go_wp2_with fail
    refine hG.mono ?_
    rintro e w1 ⟨v1, rfl, ho1, hb1, hll, hlb⟩
    obtain ⟨A1, c1, rfl⟩ := ho1.slice
    have hX := Blk.new w1 #[.int .i64 cc, .int .i64 qq] 37
    have hbX := below_one w1 (.cells #[.int .i64 cc, .int .i64 qq] 37)
    have hbd1 := hb1.trans (hbX.mono hb1.size)
    have hGl := HGL.out _ hbd1
    clear hG hb1 hbX ho1 hlb hll HGL
    go_wp2_with fail
    refine hGl.mono ?_
    rintro e w2 ⟨v2, rfl, ho2, hb2, _⟩
    obtain ⟨A2, c2, rfl⟩ := ho2.slice
    have hX2 := Blk.new w2 #[.int .i64 cc, .int .i64 qq] 37
    have hbX := below_one w2 (.cells #[.int .i64 cc, .int .i64 qq] 37)
    have hbd := (hbd1.trans (hb2.mono hbd1.size)).trans (hbX.mono (hbd1.trans (hb2.mono hbd1.size)).size)
    replace hX := (hX.below hb2).below hbX
    obtain ⟨x0, x1⟩ := hX.c2
    obtain ⟨y0, y1⟩ := hX2.c2
    have e0 : (cc == cc) = true := by simp
    have e1 : (qq == qq) = true := by simp
    clear hGl hb2 hbX ho2 hX hX2 hbd1
    go_wp2_with fail
    refine (live16_any _).mono ?_
    rintro e w15 ⟨rfl, hb15⟩
    replace hbd := hbd.trans (hb15.mono hbd.size)
    have HB := Lib.hid hbd
    clear hbd hb15
    go_wp2
    go_ret
    exact ⟨rfl, HB.out⟩

set_option maxRecDepth 100000 in
theorem lifted (os : Os) (started : os.Started) (H : Type) (enc : TypeId × Value → H) :
    ReturnsInHanded {} Try.checked os 5 .any (Rows.blockOnceSpec.pre6 enc Try.prog Try.f5 Rows.blockOnceRow.domain false) (Rows.blockOnceSpec.post enc Try.prog Try.f5 false true false false) := by
  refine returnsInHanded_of_change (C := Try.checked) own started (by kernel_rfl) Try.func5
    (ChangeSpec.witness6 (enc := enc) (C := Try.checked) false ⟨#[], #[.slice none 0 0], []⟩ 8 (by kernel_rfl) (by kernel_rfl) (by kernel_rfl) (by kernel_rfl)) ?_
  intro W base args ds gs before hval0 hW hcnd _
  have hval : ∀ (j : Nat) t v, Try.f5.params[j]? = some t → args[j]? = some v → Value.okWide Try.prog W .any base t v := hval0
  have hW' := hW
  obtain ⟨p, q, hA0, hV, rfl, hfz, hnd⟩ := hW
  have hA : DataW.TrodAll enc Try.prog W 0 (fun _ => true) true Try.f5.params.toList args.toList ds p := hA0
  rw [Try.params5] at hA hval
  obtain ⟨v0, vs0, d0, ds0, p0, q0, hargs, rfl, rfl, h0, r0⟩ := trodAll_cons hA
  obtain ⟨rfl, rfl, rfl⟩ := trodAll_nil r0
  obtain rfl : args = #[v0] := by cases args; simp_all
  obtain ⟨rfl, rfl⟩ := trodVars_none hV
  have lt0 : ∀ x ∈ p0, x.block < W.heap.size := by obtain ⟨m, hm⟩ := h0; exact DataW.trod_lt m _ _ _ hm
  clear hA0 hval0
  refine (walk enc W base v0 d0 p0 (hval 0 22 v0 rfl rfl) h0).mono fun e W' ⟨he, bel⟩ => ?_
  subst he
  exact ⟨_, rfl, _, _, _, [], _, [], hW', trodAll_mk1 (shut_bool Try.underlying4 _), (trodAll_cons_mk (Below.trod laidOut (by kernel_rfl) (of_decide_eq_true (by kernel_rfl)) h0 bel lt0) trodAll_mk0), rfl, bel.frame _, fun h => by cases h⟩

theorem over : Rows.blockOnceRow.holds Try.pinned (OpenSpec.ofChange Rows.blockOnceSpec) :=
  OpenClaim.holds_of_wide 5 Try.f5 rfl rfl rfl rfl rfl rfl rfl ⟨rfl, rfl, rfl, rfl, rfl⟩ rfl rfl rfl rfl rfl (by kernel_rfl) Try.func5 (by kernel_rfl)
    (of_decide_eq_true (by kernel_rfl)) (by unfold Func.isWrapper; first | (rw [if_pos (by decide +kernel)]; kernel_rfl) | (rw [if_neg (by decide +kernel)]; exact ⟨rfl, rfl⟩))
    (fun os started H enc _ => lifted os started H enc)

/-- THE STATEMENT. -/
theorem proved : Rows.BlockOnceSaid := over
#print axioms proved
end Go.Proofs.Ytckpngofnohdjaa.blockOnce
