/- ZigzagBack: called with any numbers, any bytes and any byte, the law returns true; no condition. -/
import Derived.Test.YtccbgoddalbbaaaRows
import Derived.Test.YtccbgoddalbbaaaZigL
import Derived.ProofKit
import Derived.OpenShut
import Derived.ShutString
import Derived.ChangeOld
namespace Go.Proofs.Ytccbgoddalbbaaa.zigzagBack
open Go.ChangeShapes Go.WideShapes Go.ChangeAt Go.RowKit
open Go.ChangeMaps (open_string shut_string)
set_option linter.unusedVariables false

theorem own : ownKnob Try.prog.godebug = none := by kernel_rfl
theorem laidOut : laidOutB Try.prog = true := by kernel_rfl
open Cur Mem


set_option maxRecDepth 100000 in
set_option maxHeartbeats 4000000 in
theorem walk {H : Type} (enc : TypeId × Value → H) (w : World) (base : Nat) (v0 : Value) (d0 : DataW H) (p0 : List MemPlace) (g0 : Value.okWide Try.prog w .any base 46 v0) (h0 : DataW.Trod enc Try.prog w 0 (fun _ => true) true 46 v0 d0 p0) (v1 : Value) (d1 : DataW H) (p1 : List MemPlace) (g1 : Value.okWide Try.prog w .any base 23 v1) (h1 : DataW.Trod enc Try.prog w 0 (fun _ => true) true 23 v1 d1 p1) (v2 : Value) (d2 : DataW H) (p2 : List MemPlace) (g2 : Value.okWide Try.prog w .any base 5 v2) (h2 : DataW.Trod enc Try.prog w 0 (fun _ => true) true 5 v2 d2 p2) :
    Calls Try.prog 6 #[v0, v1, v2] w fun e w' => e = .returned (.bool true) ∧ Below w.heap.size w w' := by
  obtain ⟨al, n, ml, zl, rfl, hnml, hzl, hbl, hnil⟩ := open_u64s g0 h0
  obtain ⟨a, nb, m, zb, rfl, hnm, hz, hby, hnilb⟩ := open_bytes g1 h1
  obtain ⟨x, rfl, x0, x1⟩ := open_byte g2 h2
  clear g0 h0 g1 h1 g2 h2
  by_cases hn : 200 < (n : Int)
  · go_enter Try.func6, Try.ntmps6
    go_wp2_with fail
    refine (live5_any _).mono ?_
    rintro e w1 ⟨rfl, hb⟩
    go_wp2
    go_ret
    exact ⟨rfl, hb⟩
  by_cases hn2 : 300 < (nb : Int)
  · go_enter Try.func6, Try.ntmps6
    go_wp2_with fail
    refine (live5_any _).mono ?_
    rintro e w1 ⟨rfl, hb⟩
    go_wp2
    go_ret
    exact ⟨rfl, hb⟩
  have HBY := Lib.hid hby
  have HBL := Lib.hid hbl
  clear hby hbl
  cases hr : risesB zl with
  | false =>
    have HR := Lib.hid hr
    clear hr
    go_enter Try.func6, Try.ntmps6
    go_wp2_with fail
    refine (rrises_any _ n ml zl _ hzl (by omega) HBL.out).mono ?_
    rintro e w1 ⟨rfl, hbP⟩
    rw [HR.out]
    go_wp2_with fail
    refine (new_some _ _ _ _ hnm).mono ?_
    rintro e u1 ⟨rc, rfl, hrc, hv1, hs1⟩
    have hw1 := hbP.trans (hv1.mono hbP.size)
    have hrc' : w.heap.size ≤ rc := Nat.le_trans hbP.size hrc
    go_wp2_with fail
    refine (rrising_any _ _ _ _ zb 0 0 0 x _ hs1 (hz.below hw1) (by omega) (by omega) (by omega) HBY.out).mono ?_
    rintro e u2 ⟨v, l, p', c', q', rfl, ho2, hk2, hr2, hs2, hl2⟩
    have hw2 := Kp.below hw1 (Nat.le_refl _) hk2 hrc'
    have HS2 := Lib.hid hs2
    have HL2 := Lib.hid hl2
    clear hs2 hk2 hs1 hv1 hw1 hl2
    go_wp2_with fail
    refine (good_any _ _ _ _ _ _ hr2).mono ?_
    rintro e u3 ⟨rfl, hv3⟩
    have hw3 := hw2.trans (hv3.mono hw2.size)
    have hr3 := hr2.below hv3
    have ho3 : OwnU u3 u1.heap.size _ l := own_below ho2 hv3
    clear hw2 hr2 ho2 hv3
    obtain ⟨A1, cc1, rfl⟩ := ho3.slice
    obtain ⟨_, _, _, hu3⟩ := OwnU.us ho3
    clear ho3
    by_cases hc : c' = 0
    · have hon := HS2.out
      rw [hc] at hon
      obtain ⟨e1, e2, e3, e4, e5, e6⟩ := RgSt.once hon hz.1 HBY.out (by omega) (by omega)
      have hcb : (c' == 0) = true := by rw [hc]; rfl
      obtain ⟨jj, rfl⟩ := Int.eq_ofNat_of_zero_le e3
      have e7 : piece zb 0 jj = zb.take jj := by unfold piece; simp
      have HE := Lib.hid (show l.length = x.toNat ∧ risesB l = true ∧ rz l = zb.take jj from ⟨e1, e2, by rw [← e7]; exact e5⟩)
      have hlen : (l.length : Int) ≤ 300 := by omega
      have hlx : (l.length : Int) = x := by omega
      clear hon hc e1 e2 e3 e5 e6 e7
      have hjn : jj ≤ nb := by omega
      have hjm : (jj : Int) ≤ m := by omega
      have hj0 : (0 : Int) ≤ jj := by omega
      have hrl : Hid ((rz l).length = jj) := Lib.hid (by rw [HE.out.2.2, List.length_take, hz.1]; omega)
      rw [hcb]
      go_wp2_with fail
      refine (wnew_any 300 _ (by omega)).mono ?_
      rintro e u4 ⟨pb, rfl, hpb, hv4, hp4⟩
      rw [if_neg (by omega)] at hp4
      have hw4 := hw3.trans (hv4.mono hw3.size)
      have hr4 := hr3.below hv4
      have hu4 := hu3.below hv4
      have hpw : w.heap.size ≤ u3.heap.size := hw3.size
      have hoff : 0 < l.length → ∀ a', A1 = some a' → ¬ WS pb none a'.block := by
        intro h0 a' ha
        have := hu3.2.lt (by rw [List.length_map]; exact h0) a' ha
        rintro (e | e)
        · omega
        · cases e
      have hrp : rc ≠ pb := by have := hr3.lt; omega
      clear hw3 hr3 hu3 hv4
      have HOFF := Lib.hid hoff
      clear hoff
      go_wp2_with fail
      refine (putrising_yes _ _ _ l hp4 hu4 HOFF.out (by omega) HL2.out HE.out.2.1 (by rw [hrl.out]; simp; omega) (by simp) (by have := hp4.lt; omega)).mono ?_
      rintro e u5 ⟨r', rfl, hk5, hg5, hp5⟩
      rw [List.nil_append] at hp5
      have hw5 := hp4.belowOf hw4 (Nat.le_refl _) hk5 hpw
      have hr5 : IsRd u5 rc (.slice a nb nb) (jj : Int) c' q' := Blk.ks hr4 hk5 (by rintro (e | e) <;> first | exact hrp e | cases e)
      clear hk5 hg5 hp4 hw4 hr4 hu4
      go_wp2_with fail
      refine (wbytes_good hp5 (by rw [hrl.out]; omega)).mono ?_
      rintro e u6 ⟨g6, rfl, hg6, hv6, hblk⟩
      have hbs6 := Bs.of_block hblk
      have hw6 := hw5.trans (hv6.mono hw5.size)
      have hr6 := hr5.below hv6
      rw [hrl.out] at hbs6 ⊢
      have hzt := (hz.below hw6).take (k := jj) hjn
      rw [← HE.out.2.2] at hzt
      clear hw5 hr5 hv6 hblk hp5
      go_wp2_with fail
      refine (at_any _ _ _ _ _ _ hr6).mono ?_
      rintro e u7 ⟨rfl, rfl⟩
      go_wp2_with fail
      refine (same_any _ _ _ _ _ _ (rz l) _ hbs6 hzt).mono ?_
      rintro e u8 ⟨rfl, rfl⟩
      go_wp2_with fail
      refine (live5_any _).mono ?_
      rintro e u9 ⟨rfl, hv9⟩
      go_wp2
      go_ret
      exact ⟨rfl, hw6.trans (hv9.mono hw6.size)⟩
    · have hcb : (c' == 0) = false := by simpa using hc
      obtain rfl : l = [] := RgSt.nil HS2.out hc
      rw [hcb]
      clear hc
      go_wp2_with fail
      refine (live5_any _).mono ?_
      rintro e u9 ⟨rfl, hv9⟩
      go_wp2
      go_ret
      exact ⟨rfl, hw3.trans (hv9.mono hw3.size)⟩
  | true =>
    have HR := Lib.hid hr
    clear hr
    have hlen := rzk_len zl zl.length
    rw [hzl.1] at hlen
    have HLEN : Hid ((rz zl).length ≤ 2000) := Lib.hid (by unfold rz; rw [hzl.1]; omega)
    have HBB : Hid (∀ b ∈ rz zl ++ zb, 0 ≤ b ∧ b < 256) := Lib.hid fun b hb => by
      rcases List.mem_append.1 hb with h | h
      · exact rz_byte HR.out HBL.out b h
      · exact HBY.out b h
    have hback := rgo_back zb HR.out HBL.out zl.length 0 (by omega)
    rw [show ((rzk zl 0).length : Int) = 0 from rfl, List.take_zero] at hback
    have HBK := Lib.hid hback
    clear hlen hback
    go_enter Try.func6, Try.ntmps6
    go_wp2_with fail
    refine (rrises_any _ n ml zl _ hzl (by omega) HBL.out).mono ?_
    rintro e w1 ⟨rfl, hb1⟩
    rw [HR.out]
    go_wp2_with fail
    refine (rrz_any _ n ml zl _ (hzl.below hb1) (by omega) HBL.out HR.out).mono ?_
    rintro e w2 ⟨A2, m2, rfl, hb2, _, _, _, ho2⟩
    have hbd2 := hb1.trans (hb2.mono hb1.size)
    have ho2' : Own w2 w.heap.size _ (rz zl) := Own.base ho2 (fun g hg => Nat.le_trans hb1.size (ho2.ge g hg))
    have hz2 := hz.below hbd2
    have hB2 := hbd2.size
    have HZL := Lib.hid hz.1
    clear hb1 hb2 ho2
    go_wp2_with (at_builtin; go_must (refine list_append_gr rfl (.tmp 25) (.tmp 26) rfl w.heap.size _ (rz zl) rfl ho2' _ _ _ _ rfl hz2 hnilb (by have := HLEN.out; omega) hB2 ?_; intro v' w3 ho' hg' hgr; have hb3 := Own.belowOf hbd2 hB2 ho2' hg'; obtain ⟨A3, cap3, hv⟩ := ho'.slice; rw [List.length_append] at hv; subst hv; have hcap := ho'.cap; clear hg' hgr hz2 ho2' hbd2))
    with_reducible refine (new_some _ _ _ _ hcap).mono ?_
    rintro e w4 ⟨rb, rfl, hrb, hb4, hr4⟩
    have hbd4 := hb3.trans (hb4.mono hb3.size)
    have hrb' : w.heap.size ≤ rb := Nat.le_trans hb3.size hrb
    have hbs4 := (ho'.bs.2).below hb4
    have HAL : Hid ((rz zl).length + zb.length ≤ 2300) := Lib.hid (by have := HLEN.out; rw [HZL.out]; omega)
    clear hb3 hb4 ho' hcap
    go_wp2_with fail
    with_reducible refine (rrising_any _ _ _ _ (rz zl ++ zb) 0 0 0 n _ hr4 hbs4 (by omega) (by omega) (by have := HAL.out; omega) HBB.out).mono ?_
    rintro e w5 ⟨v, l5, p5, c5, q5, rfl, ho5, hk5, hr5, hs5, hl5⟩
    have hbd5 := Kp.below hbd4 (Nat.le_refl _) hk5 hrb'
    have hd := hs5.det (l2 := zl) (p2 := ((rz zl).length : Int)) (c2 := 0) (q2 := 0) ⟨by omega, by omega, .inr (.inl ⟨rfl, by rw [Int.toNat_natCast, ← hzl.1, HBK.out], by rw [Int.toNat_natCast, ← hzl.1, HBK.out], by rw [Int.toNat_natCast, ← hzl.1, HBK.out], rfl, rfl⟩)⟩
    obtain ⟨rfl, rfl, rfl, hp⟩ := hd
    have hp := hp rfl
    subst hp
    obtain ⟨A5, cc5, rfl⟩ := ho5.slice
    obtain ⟨_, _, _, hu5⟩ := OwnU.us ho5
    clear hk5 hs5 hbd4 hbs4 hr4 ho5
    go_wp2_with fail
    refine (same5_any _ _ _ _ _ _ l5 _ hu5 (hzl.below hbd5) (by rw [hzl.1]; omega) HBL.out).mono ?_
    rintro e w6 ⟨rfl, hb6⟩
    have hbd6 := hbd5.trans (hb6.mono hbd5.size)
    have hr6 := hr5.below hb6
    clear hbd5 hr5 hb6 hu5
    go_wp2_with fail
    refine (good_any _ _ _ _ _ _ hr6).mono ?_
    rintro e w7 ⟨rfl, hb7⟩
    rw [show ((0 : Int) == 0) = true from rfl]
    have hbd7 := hbd6.trans (hb7.mono hbd6.size)
    have hr7 := hr6.below hb7
    clear hbd6 hr6 hb7
    go_wp2_with fail
    refine (at_any _ _ _ _ _ _ hr7).mono ?_
    rintro e w8 ⟨rfl, rfl⟩
    go_wp2_with fail
    refine (rsize_any _ n ml l5 _ (hzl.below hbd7) (by omega) HBL.out).mono ?_
    rintro e w8 ⟨rfl, hb8⟩
    rw [if_pos HR.out]
    have hbP := hbd7.trans (hb8.mono hbd7.size)
    clear hbd7 hr7 hb8
    go_wp2_with fail
    refine (new_some _ _ _ _ hnm).mono ?_
    rintro e u1 ⟨rc, rfl, hrc, hv1, hs1⟩
    have hw1 := hbP.trans (hv1.mono hbP.size)
    have hrc' : w.heap.size ≤ rc := Nat.le_trans hbP.size hrc
    go_wp2_with fail
    refine (rrising_any _ _ _ _ zb 0 0 0 x _ hs1 (hz.below hw1) (by omega) (by omega) (by omega) HBY.out).mono ?_
    rintro e u2 ⟨v, l, p', c', q', rfl, ho2, hk2, hr2, hs2, hl2⟩
    have hw2 := Kp.below hw1 (Nat.le_refl _) hk2 hrc'
    have HS2 := Lib.hid hs2
    have HL2 := Lib.hid hl2
    clear hs2 hk2 hs1 hv1 hw1 hl2
    go_wp2_with fail
    refine (good_any _ _ _ _ _ _ hr2).mono ?_
    rintro e u3 ⟨rfl, hv3⟩
    have hw3 := hw2.trans (hv3.mono hw2.size)
    have hr3 := hr2.below hv3
    have ho3 : OwnU u3 u1.heap.size _ l := own_below ho2 hv3
    clear hw2 hr2 ho2 hv3
    obtain ⟨A1, cc1, rfl⟩ := ho3.slice
    obtain ⟨_, _, _, hu3⟩ := OwnU.us ho3
    clear ho3
    by_cases hc : c' = 0
    · have hon := HS2.out
      rw [hc] at hon
      obtain ⟨e1, e2, e3, e4, e5, e6⟩ := RgSt.once hon hz.1 HBY.out (by omega) (by omega)
      have hcb : (c' == 0) = true := by rw [hc]; rfl
      obtain ⟨jj, rfl⟩ := Int.eq_ofNat_of_zero_le e3
      have e7 : piece zb 0 jj = zb.take jj := by unfold piece; simp
      have HE := Lib.hid (show l.length = x.toNat ∧ risesB l = true ∧ rz l = zb.take jj from ⟨e1, e2, by rw [← e7]; exact e5⟩)
      have hlen : (l.length : Int) ≤ 300 := by omega
      have hlx : (l.length : Int) = x := by omega
      clear hon hc e1 e2 e3 e5 e6 e7
      have hjn : jj ≤ nb := by omega
      have hjm : (jj : Int) ≤ m := by omega
      have hj0 : (0 : Int) ≤ jj := by omega
      have hrl : Hid ((rz l).length = jj) := Lib.hid (by rw [HE.out.2.2, List.length_take, hz.1]; omega)
      rw [hcb]
      go_wp2_with fail
      refine (wnew_any 300 _ (by omega)).mono ?_
      rintro e u4 ⟨pb, rfl, hpb, hv4, hp4⟩
      rw [if_neg (by omega)] at hp4
      have hw4 := hw3.trans (hv4.mono hw3.size)
      have hr4 := hr3.below hv4
      have hu4 := hu3.below hv4
      have hpw : w.heap.size ≤ u3.heap.size := hw3.size
      have hoff : 0 < l.length → ∀ a', A1 = some a' → ¬ WS pb none a'.block := by
        intro h0 a' ha
        have := hu3.2.lt (by rw [List.length_map]; exact h0) a' ha
        rintro (e | e)
        · omega
        · cases e
      have hrp : rc ≠ pb := by have := hr3.lt; omega
      clear hw3 hr3 hu3 hv4
      have HOFF := Lib.hid hoff
      clear hoff
      go_wp2_with fail
      refine (putrising_yes _ _ _ l hp4 hu4 HOFF.out (by omega) HL2.out HE.out.2.1 (by rw [hrl.out]; simp; omega) (by simp) (by have := hp4.lt; omega)).mono ?_
      rintro e u5 ⟨r', rfl, hk5, hg5, hp5⟩
      rw [List.nil_append] at hp5
      have hw5 := hp4.belowOf hw4 (Nat.le_refl _) hk5 hpw
      have hr5 : IsRd u5 rc (.slice a nb nb) (jj : Int) c' q' := Blk.ks hr4 hk5 (by rintro (e | e) <;> first | exact hrp e | cases e)
      clear hk5 hg5 hp4 hw4 hr4 hu4
      go_wp2_with fail
      refine (wbytes_good hp5 (by rw [hrl.out]; omega)).mono ?_
      rintro e u6 ⟨g6, rfl, hg6, hv6, hblk⟩
      have hbs6 := Bs.of_block hblk
      have hw6 := hw5.trans (hv6.mono hw5.size)
      have hr6 := hr5.below hv6
      rw [hrl.out] at hbs6 ⊢
      have hzt := (hz.below hw6).take (k := jj) hjn
      rw [← HE.out.2.2] at hzt
      clear hw5 hr5 hv6 hblk hp5
      go_wp2_with fail
      refine (at_any _ _ _ _ _ _ hr6).mono ?_
      rintro e u7 ⟨rfl, rfl⟩
      go_wp2_with fail
      refine (same_any _ _ _ _ _ _ (rz l) _ hbs6 hzt).mono ?_
      rintro e u8 ⟨rfl, rfl⟩
      go_wp2_with fail
      refine (live5_any _).mono ?_
      rintro e u9 ⟨rfl, hv9⟩
      go_wp2
      go_ret
      exact ⟨rfl, hw6.trans (hv9.mono hw6.size)⟩
    · have hcb : (c' == 0) = false := by simpa using hc
      obtain rfl : l = [] := RgSt.nil HS2.out hc
      rw [hcb]
      clear hc
      go_wp2_with fail
      refine (live5_any _).mono ?_
      rintro e u9 ⟨rfl, hv9⟩
      go_wp2
      go_ret
      exact ⟨rfl, hw3.trans (hv9.mono hw3.size)⟩

set_option maxRecDepth 100000 in
theorem lifted (os : Os) (started : os.Started) (H : Type) (enc : TypeId × Value → H) :
    ReturnsInHanded {} Try.checked os 6 .any (Rows.zigzagBackSpec.pre6 enc Try.prog Try.f6 Rows.zigzagBackRow.domain false) (Rows.zigzagBackSpec.post enc Try.prog Try.f6 false true false false) := by
  refine returnsInHanded_of_change (C := Try.checked) own started (by kernel_rfl) Try.func6
    (ChangeSpec.witness6 (enc := enc) (C := Try.checked) false ⟨#[], #[.slice none 0 0, .slice none 0 0, .int .u8 0], []⟩ 8 (by kernel_rfl) (by kernel_rfl) (by kernel_rfl) (by kernel_rfl)) ?_
  intro W base args ds gs before hval0 hW hcnd _
  have hval : ∀ (j : Nat) t v, Try.f6.params[j]? = some t → args[j]? = some v → Value.okWide Try.prog W .any base t v := hval0
  have hW' := hW
  obtain ⟨p, q, hA0, hV, rfl, hfz, hnd⟩ := hW
  have hA : DataW.TrodAll enc Try.prog W 0 (fun _ => true) true Try.f6.params.toList args.toList ds p := hA0
  rw [Try.params6] at hA hval
  obtain ⟨v0, vs0, d0, ds0, p0, q0, hargs, rfl, rfl, h0, r0⟩ := trodAll_cons hA
  obtain ⟨v1, vs1, d1, ds1, p1, q1, rfl, rfl, rfl, h1, r1⟩ := trodAll_cons r0
  obtain ⟨v2, vs2, d2, ds2, p2, q2, rfl, rfl, rfl, h2, r2⟩ := trodAll_cons r1
  obtain ⟨rfl, rfl, rfl⟩ := trodAll_nil r2
  obtain rfl : args = #[v0, v1, v2] := by cases args; simp_all
  obtain ⟨rfl, rfl⟩ := trodVars_none hV
  have lt0 : ∀ x ∈ p0, x.block < W.heap.size := by obtain ⟨m, hm⟩ := h0; exact DataW.trod_lt m _ _ _ hm
  have lt1 : ∀ x ∈ p1, x.block < W.heap.size := by obtain ⟨m, hm⟩ := h1; exact DataW.trod_lt m _ _ _ hm
  have lt2 : ∀ x ∈ p2, x.block < W.heap.size := by obtain ⟨m, hm⟩ := h2; exact DataW.trod_lt m _ _ _ hm
  clear hA0 hval0
  refine (walk enc W base v0 d0 p0 (hval 0 46 v0 rfl rfl) h0 v1 d1 p1 (hval 1 23 v1 rfl rfl) h1 v2 d2 p2 (hval 2 5 v2 rfl rfl) h2).mono fun e W' ⟨he, bel⟩ => ?_
  subst he
  exact ⟨_, rfl, _, _, _, [], _, [], hW', trodAll_mk1 (shut_bool Try.underlying4 _), (trodAll_cons_mk (Below.trod laidOut (by kernel_rfl) (of_decide_eq_true (by kernel_rfl)) h0 bel lt0) (trodAll_cons_mk (Below.trod laidOut (by kernel_rfl) (of_decide_eq_true (by kernel_rfl)) h1 bel lt1) (trodAll_cons_mk (Below.trod laidOut (by kernel_rfl) (of_decide_eq_true (by kernel_rfl)) h2 bel lt2) trodAll_mk0))), rfl, bel.frame _, fun h => by cases h⟩

theorem over : Rows.zigzagBackRow.holds Try.pinned (OpenSpec.ofChange Rows.zigzagBackSpec) :=
  OpenClaim.holds_of_wide 6 Try.f6 rfl rfl rfl rfl rfl rfl rfl ⟨rfl, rfl, rfl, rfl, rfl⟩ rfl rfl rfl rfl rfl (by kernel_rfl) Try.func6 (by kernel_rfl)
    (of_decide_eq_true (by kernel_rfl)) (by unfold Func.isWrapper; first | (rw [if_pos (by decide +kernel)]; kernel_rfl) | (rw [if_neg (by decide +kernel)]; exact ⟨rfl, rfl⟩))
    (fun os started H enc _ => lifted os started H enc)

/-- THE STATEMENT. -/
theorem proved : Rows.ZigzagBackSaid := over
#print axioms proved
end Go.Proofs.Ytccbgoddalbbaaa.zigzagBack
