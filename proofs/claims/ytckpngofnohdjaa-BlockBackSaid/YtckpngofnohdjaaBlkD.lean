/- Blocks: read, by the program, either way. -/
import Derived.Test.YtckpngofnohdjaaBlkC
namespace Go.Proofs.Ytckpngofnohdjaa.Cur
open Go.RowKit Go.Shelf Mem
attribute [local go_sem] Oper.semAt_some
set_option linter.unusedVariables false
set_option maxRecDepth 100000


def By3 (wy : List Int) (c2 q2 p1 c3 q3 : Int) : Prop := (1 < wy.getD 0 0 ∧ FailSt c2 q2 7 p1 c3 q3) ∨ (¬ 1 < wy.getD 0 0 ∧ c3 = c2 ∧ q3 = q2)
theorem bk_st {k : Nat} {z wy l : List Int} {most p c q n p1 c1 q1 p2 c2 q2 c3 q3 p4 c4 q4 : Int} (h1 : St 0 k (vm z (min most 1048576) p) p c q n p1 c1 q1) (h2 : St [] k (tk z 1 p1) p1 c1 q1 wy p2 c2 q2)
    (h3 : By3 wy c2 q2 p1 c3 q3) (h4 : St [] k (bc z n (wy.getD 0 0) p2) p2 c3 q3 l p4 c4 q4) : St [] k (bk z most p) p c q l p4 c4 q4 := by
  unfold bk
  refine h1.bind (h2.bind ?_)
  obtain ⟨p40, p41⟩ := h4.place
  rcases h3 with ⟨hx, ⟨rfl, rfl, rfl⟩ | ⟨hc, rfl, rfl⟩⟩ | ⟨hx, rfl, rfl⟩
  · rw [if_pos hx]
    obtain ⟨rfl, rfl, rfl⟩ := h4.bad (by decide)
    exact St.fault (x := []) (y := 0) rfl (by decide) p40 p41
  · rw [if_pos hx]
    obtain ⟨rfl, rfl, rfl⟩ := h4.bad hc
    exact St.stay p40 p41 hc
  · rw [if_neg hx]
    exact h4
theorem piece_back {z : List Int} {a b : Nat} (h : b ≤ a) : piece z a b = [] := by
  unfold piece
  rw [show b - a = 0 by omega, List.take_zero]
/-- What Since hands back, told alike. -/
theorem since_st (b : Nat) (a : Option Addr) (n m : Nat) (z : List Int) (p c q f : Int) (w : World) (h : IsRd w b (.slice a n m) p c q) (hz : Bs w a n z) (h0 : 0 ≤ p) (h1 : p ≤ n) (hm : n ≤ m) (hn : n ≤ 1000000) (hf : 0 ≤ f) :
    Calls Try.prog 54 #[.pointer (some ⟨b, 0, none⟩), .int .i64 f] w fun e w' => ∃ A k m', e = .returned (.slice A k m') ∧ Below w.heap.size w w' ∧ Bs w' A k (piece z f.toNat p.toNat) := by
  refine (since_any b a n m z p c q f w h hz h0 h1 hm hn).mono ?_
  rintro e w' ⟨hb, ⟨_, hfp, g, rfl, _, hblk⟩ | ⟨hor, rfl⟩⟩
  · have := Bs.of_block hblk
    rw [length_piece hz.1 (by omega)] at this
    exact ⟨_, _, _, rfl, hb, this⟩
  · refine ⟨none, 0, 0, rfl, hb, ?_⟩
    rw [piece_back (by omega)]
    exact Bs.none _

/-- What read hands back, the strict way. -/
def KrdPost (b : Nat) (s : Value) (k : Nat) (g : Rs (List Int)) (p c q : Int) (w : World) (e : Ending) (w' : World) : Prop :=
  ∃ v l p' c' q', e = .returned v ∧ Own w' w.heap.size v l ∧ (∀ x ∈ l, 0 ≤ x ∧ x < 256) ∧ l.length ≤ 10000 ∧ Kp b w w' ∧ IsRd w' b s p' c' q' ∧ St [] k g p c q l p' c' q'
set_option maxHeartbeats 8000000 in
theorem kread_strict (b : Nat) (a : Option Addr) (k m : Nat) (z : List Int) (p c q most : Int) (w : World) (h : IsRd w b (.slice a k m) p c q) (hz : Bs w a k z) (h0 : 0 ≤ p) (h1 : p ≤ k) (hm : k ≤ m) (hk : k ≤ 10000) (hby : ∀ x ∈ z, 0 ≤ x ∧ x < 256) (hmo : most ≤ 10000) (hq : c = 0 → q = 0) :
    Calls Try.prog 39 #[.pointer (some ⟨b, 0, none⟩), .int .i64 most, .func (.func 40) #[.pointer (some ⟨b, 0, none⟩)] #[]] w (KrdPost b (.slice a k m) k (bks z most p) p c q w) := by
  have hzl := hz.1
  have HZ := Lib.hid hz
  have HBY := Lib.hid hby
  have HQ := Lib.hid hq
  have emin : min most 1048576 = most := by omega
  have hI := vint_any b a k m z p c q most w h hz h0 h1 (by omega) hby (by omega)
  unfold IntPost at hI
  have HH := Lib.hid h
  clear hz hby hq h
  go_enter Try.func39, Try.ntmps39
  go_wp2_with fail
  refine (at_any _ _ _ _ _ _ HH.out).mono ?_
  rintro e w0 ⟨rfl, rfl⟩
  go_wp2_with fail
  with_reducible refine hI.mono ?_
  rintro e w1 ⟨n, p1, c1, q1, rfl, hk1, hr1, hi1⟩
  have hs1 := hi1.st HZ.out.1 h0 h1 HBY.out
  obtain ⟨p10, p11⟩ := hs1.place
  have hnb := vm_bd hs1 HBY.out
  have hz1 : Bs w1 a k z := HZ.out.kp HH.out (by simp) hk1
  rw [← emin] at hs1
  rw [emin] at hs1
  have HS1 := Lib.hid hs1
  have hn2 : 0 ≤ n ∧ n ≤ 10000 := by omega
  clear hI hi1 hs1 hnb
  go_wp2_with fail
  refine (at_any _ _ _ _ _ _ hr1).mono ?_
  rintro e w2 ⟨rfl, rfl⟩
  have hB := byte_any b a k m z p1 c1 q1 w1 hr1 hz1 p10 p11 (by omega)
  unfold BytePost at hB
  go_wp2_with fail
  with_reducible refine hB.mono ?_
  rintro e w2 ⟨ok, p2, c2, q2, hk2, hr2, hsk, rfl⟩
  have hs2 := hsk.st HZ.out.1 p10 p11
  obtain ⟨wy, hwy⟩ : ∃ wy, wy = (if ok = true then piece z p1.toNat (p1 + 1).toNat else []) := ⟨_, rfl⟩
  rw [← hwy] at hs2
  obtain ⟨x, hx⟩ : ∃ x, x = (if ok = true then z.getD p1.toNat 0 else 0) := ⟨_, rfl⟩
  have hxw : wy.getD 0 0 = x := by
    rw [hwy, hx]
    cases ok
    · rfl
    · rw [if_pos rfl, if_pos rfl, piece_head z p1 p10]
  have hxb : 0 ≤ x ∧ x < 256 := by
    rw [hx]
    cases ok
    · rw [if_neg (by decide)]; omega
    · rw [if_pos rfl, List.getD_eq_getElem?_getD]
      cases hg : z[p1.toNat]? with
      | none => simp
      | some y => exact HBY.out y (List.mem_of_getElem? hg)
  rw [← hx]
  obtain ⟨p20, p21⟩ := hs2.place
  have hz2 : Bs w2 a k z := hz1.kp hr1 (by simp) hk2
  have HS2 := Lib.hid hs2
  have HXW := Lib.hid hxw
  have HK12 := Lib.hid (hk1.trans hk2)
  have HQ2 := Lib.hid (fun e : c2 = 0 => (show q2 = 0 from by
    subst e
    obtain ⟨e1, _, _, _, e2⟩ := hs2.good
    subst e1
    obtain ⟨e3, _, _, _, e4⟩ := HS1.out.good
    rw [e2, e4]
    exact HQ.out e3))
  clear hB hsk hwy hx hxw hk1 hk2 hr1 hz1 hs2
  by_cases hx1 : 1 < x
  · go_wp2_with fail
    with_reducible refine (fail_any b _ p2 c2 q2 7 p1 _ hr2).mono ?_
    rintro e w3 ⟨c3, q3, rfl, hk3, hr3, hf3⟩
    have hz3 : Bs w3 a k z := hz2.kp hr2 (by simp) hk3
    have HK3 := Lib.hid (HK12.out.trans hk3)
    have H3 : Hid (By3 wy c2 q2 p1 c3 q3) := Lib.hid (.inl ⟨by rw [HXW.out]; exact hx1, hf3⟩)
    have hq3 : c3 = 0 → q3 = 0 := fun e => by
      rcases hf3 with ⟨_, e3, _⟩ | ⟨h, e3, _⟩
      · omega
      · exact absurd (e3.symm.trans e) h
    clear hf3 hk3 hr2 hz2 hx1
    have hC := kcontent_any b a k m z p2 c3 q3 x n w3 hr3 hz3 p20 p21 hm hk HBY.out hxb hn2 hq3
    unfold KcPost at hC
    go_wp2_with fail
    with_reducible refine hC.mono ?_
    rintro e w4 ⟨v4, l, l', p4, c4, q4, rfl, ho4, hlb, hll, hk4, hr4, hs4, hl4⟩
    rw [← HXW.out] at hs4
    have hbk := bk_st (most := most) (by rw [emin]; exact HS1.out) HS2.out H3.out hs4
    obtain ⟨p40, p41⟩ := hs4.place
    have hz4 : Bs w4 a k z := hz3.kp hr3 (by simp) hk4
    have HK4 := Lib.hid (HK3.out.trans hk4)
    obtain ⟨Av, cv, rfl, hbv, hnv, hcv⟩ := ho4.parts
    have HBK := Lib.hid hbk
    have HLB := Lib.hid hlb
    have HL4 := Lib.hid hl4
    have HV := Lib.hid hbv
    have HNV := Lib.hid hnv
    have HO4 := Lib.hid (own_base0 ho4 HK3.out.size)
    obtain ⟨ll, hll2⟩ : ∃ ll, ll = l.length := ⟨_, rfl⟩
    rw [← hll2] at hcv hll ⊢
    have HLL := Lib.hid hll2
    clear hC hs4 hk4 hbk hlb hl4 hbv hnv ho4 hr3 hz3 hll2
    go_wp2_with fail
    refine (good_any _ _ _ _ _ _ hr4).mono ?_
    rintro e w5 ⟨rfl, hb5⟩
    have hr5 := hr4.below hb5
    have hz5 := hz4.below hb5
    have HV5 := Lib.hid (HV.out.below hb5)
    have HK5 := Lib.hid (HK4.out.trans (Kp.of_below hb5))
    have HO5 := Lib.hid (own_below HO4.out hb5)
    clear hr4 hz4 hb5
    by_cases hc4 : c4 = 0
    · subst hc4
      obtain rfl := HL4.out rfl
      go_wp2_with fail
      with_reducible refine (since_st b a k m z p4 0 q4 p _ hr5 hz5 p40 p41 hm (by omega) h0).mono ?_
      rintro e w6 ⟨A6, k6, m6, rfl, hb6, hs6⟩
      have hr6 := hr5.below hb6
      have HK6 := Lib.hid (HK5.out.trans (Kp.of_below hb6))
      have HO6 := Lib.hid (own_below HO5.out hb6)
      have hW := kisown_any A6 Av k6 m6 ll cv (y := piece z p.toNat p4.toNat) hs6 (by rw [HLL.out]; exact HV5.out.below hb6) HNV.out (piece_byte HBY.out _ _) HLB.out hcv (by omega)
      unfold BPost at hW
      clear hr5 hz5 hb6 hs6
      by_cases hr : piece z p.toNat p4.toNat = bkb l'
      · rw [decide_eq_true hr] at hW
        have HR := Lib.hid hr
        clear hr
        go_wp2_with fail
        with_reducible refine hW.mono ?_
        rintro e w7 ⟨rfl, hb7⟩
        have hr7 := hr6.below hb7
        have HK7 := Lib.hid (HK6.out.trans (Kp.of_below hb7))
        have HO7 := Lib.hid (own_below HO6.out hb7)
        clear hW hr6 hb7
        go_wp2_with fail
        refine (good_any _ _ _ _ _ _ hr7).mono ?_
        rintro e w8 ⟨rfl, hb8⟩
        have HK8 := Lib.hid (HK7.out.trans (Kp.of_below hb8))
        have HO8 := Lib.hid (own_below HO7.out hb8)
        have HR8 := Lib.hid (hr7.below hb8)
        clear hr7 hb8
        go_wp2
        go_ret
        exact ⟨_, l', p4, 0, q4, rfl, by show Own _ w.heap.size (.slice Av ll cv) l'; rw [HLL.out]; exact HO8.out, HLB.out, by rw [← HLL.out]; exact hll, HK8.out, HR8.out, by unfold bks; exact HBK.out.bind (St.done (by rw [if_pos HR.out]) p40 p41)⟩
      · rw [decide_eq_false hr] at hW
        have HR := Lib.hid hr
        clear hr
        go_wp2_with fail
        with_reducible refine hW.mono ?_
        rintro e w7 ⟨rfl, hb7⟩
        have hr7 := hr6.below hb7
        have HK7 := Lib.hid (HK6.out.trans (Kp.of_below hb7))
        have HO7 := Lib.hid (own_below HO6.out hb7)
        clear hW hr6 hb7
        go_wp2_with fail
        refine (at_any _ _ _ _ _ _ hr7).mono ?_
        rintro e w8 ⟨rfl, rfl⟩
        go_wp2_with fail
        with_reducible refine (fail_any b _ p4 0 q4 12 p4 _ hr7).mono ?_
        rintro e w9 ⟨c9, q9, rfl, hk9, hr9, hf9⟩
        have hc9 : c9 = 12 ∧ q9 = p4 := by
          rcases hf9 with ⟨_, e1, e2⟩ | ⟨h, _⟩
          · exact ⟨e1, by rw [e2]; rfl⟩
          · exact absurd rfl h
        obtain ⟨rfl, rfl⟩ := hc9
        go_wp2_with fail
        refine (good_any _ _ _ _ _ _ hr9).mono ?_
        rintro e w10 ⟨rfl, hb10⟩
        have HK10 := Lib.hid ((HK7.out.trans hk9).trans (Kp.of_below hb10))
        have HR10 := Lib.hid (hr9.below hb10)
        clear hr7 hk9 hr9 hf9 hb10
        go_wp2
        go_ret
        exact ⟨_, [], q9, 12, q9, rfl, Own.nil _ _, fun x h => absurd h (by simp), by simp, HK10.out, HR10.out, by unfold bks; exact HBK.out.bind (St.fault (x := []) (y := 0) (by rw [if_neg HR.out]) (by decide) p40 p41)⟩
    · have hcb : (c4 == 0) = false := by simpa using hc4
      have HC4 := Lib.hid hc4
      clear hz5 hc4
      go_wp2_with fail
      refine (good_any _ _ _ _ _ _ hr5).mono ?_
      rintro e w8 ⟨rfl, hb8⟩
      rw [hcb]
      have HK8 := Lib.hid (HK5.out.trans (Kp.of_below hb8))
      have HR8 := Lib.hid (hr5.below hb8)
      clear hr5 hb8
      go_wp2
      go_ret
      exact ⟨_, [], p4, c4, q4, rfl, Own.nil _ _, fun x h => absurd h (by simp), by simp, HK8.out, HR8.out, by unfold bks; rw [HBK.out.nil HC4.out] at HBK; exact HBK.out.bind (St.stay p40 p41 HC4.out)⟩
  · have hr3 := hr2
    have hz3 := hz2
    have HK3 := HK12
    have H3 : Hid (By3 wy c2 q2 p1 c2 q2) := Lib.hid (.inr ⟨by rw [HXW.out]; exact hx1, rfl, rfl⟩)
    have hq3 := HQ2.out
    clear hr2 hz2
    have hC := kcontent_any b a k m z p2 c2 q2 x n w2 hr3 hz3 p20 p21 hm hk HBY.out hxb hn2 hq3
    unfold KcPost at hC
    go_wp2_with fail
    with_reducible refine hC.mono ?_
    rintro e w4 ⟨v4, l, l', p4, c4, q4, rfl, ho4, hlb, hll, hk4, hr4, hs4, hl4⟩
    rw [← HXW.out] at hs4
    have hbk := bk_st (most := most) (by rw [emin]; exact HS1.out) HS2.out H3.out hs4
    obtain ⟨p40, p41⟩ := hs4.place
    have hz4 : Bs w4 a k z := hz3.kp hr3 (by simp) hk4
    have HK4 := Lib.hid (HK3.out.trans hk4)
    obtain ⟨Av, cv, rfl, hbv, hnv, hcv⟩ := ho4.parts
    have HBK := Lib.hid hbk
    have HLB := Lib.hid hlb
    have HL4 := Lib.hid hl4
    have HV := Lib.hid hbv
    have HNV := Lib.hid hnv
    have HO4 := Lib.hid (own_base0 ho4 HK3.out.size)
    obtain ⟨ll, hll2⟩ : ∃ ll, ll = l.length := ⟨_, rfl⟩
    rw [← hll2] at hcv hll ⊢
    have HLL := Lib.hid hll2
    clear hC hs4 hk4 hbk hlb hl4 hbv hnv ho4 hr3 hz3 hll2
    go_wp2_with fail
    refine (good_any _ _ _ _ _ _ hr4).mono ?_
    rintro e w5 ⟨rfl, hb5⟩
    have hr5 := hr4.below hb5
    have hz5 := hz4.below hb5
    have HV5 := Lib.hid (HV.out.below hb5)
    have HK5 := Lib.hid (HK4.out.trans (Kp.of_below hb5))
    have HO5 := Lib.hid (own_below HO4.out hb5)
    clear hr4 hz4 hb5
    by_cases hc4 : c4 = 0
    · subst hc4
      obtain rfl := HL4.out rfl
      go_wp2_with fail
      with_reducible refine (since_st b a k m z p4 0 q4 p _ hr5 hz5 p40 p41 hm (by omega) h0).mono ?_
      rintro e w6 ⟨A6, k6, m6, rfl, hb6, hs6⟩
      have hr6 := hr5.below hb6
      have HK6 := Lib.hid (HK5.out.trans (Kp.of_below hb6))
      have HO6 := Lib.hid (own_below HO5.out hb6)
      have hW := kisown_any A6 Av k6 m6 ll cv (y := piece z p.toNat p4.toNat) hs6 (by rw [HLL.out]; exact HV5.out.below hb6) HNV.out (piece_byte HBY.out _ _) HLB.out hcv (by omega)
      unfold BPost at hW
      clear hr5 hz5 hb6 hs6
      by_cases hr : piece z p.toNat p4.toNat = bkb l'
      · rw [decide_eq_true hr] at hW
        have HR := Lib.hid hr
        clear hr
        go_wp2_with fail
        with_reducible refine hW.mono ?_
        rintro e w7 ⟨rfl, hb7⟩
        have hr7 := hr6.below hb7
        have HK7 := Lib.hid (HK6.out.trans (Kp.of_below hb7))
        have HO7 := Lib.hid (own_below HO6.out hb7)
        clear hW hr6 hb7
        go_wp2_with fail
        refine (good_any _ _ _ _ _ _ hr7).mono ?_
        rintro e w8 ⟨rfl, hb8⟩
        have HK8 := Lib.hid (HK7.out.trans (Kp.of_below hb8))
        have HO8 := Lib.hid (own_below HO7.out hb8)
        have HR8 := Lib.hid (hr7.below hb8)
        clear hr7 hb8
        go_wp2
        go_ret
        exact ⟨_, l', p4, 0, q4, rfl, by show Own _ w.heap.size (.slice Av ll cv) l'; rw [HLL.out]; exact HO8.out, HLB.out, by rw [← HLL.out]; exact hll, HK8.out, HR8.out, by unfold bks; exact HBK.out.bind (St.done (by rw [if_pos HR.out]) p40 p41)⟩
      · rw [decide_eq_false hr] at hW
        have HR := Lib.hid hr
        clear hr
        go_wp2_with fail
        with_reducible refine hW.mono ?_
        rintro e w7 ⟨rfl, hb7⟩
        have hr7 := hr6.below hb7
        have HK7 := Lib.hid (HK6.out.trans (Kp.of_below hb7))
        have HO7 := Lib.hid (own_below HO6.out hb7)
        clear hW hr6 hb7
        go_wp2_with fail
        refine (at_any _ _ _ _ _ _ hr7).mono ?_
        rintro e w8 ⟨rfl, rfl⟩
        go_wp2_with fail
        with_reducible refine (fail_any b _ p4 0 q4 12 p4 _ hr7).mono ?_
        rintro e w9 ⟨c9, q9, rfl, hk9, hr9, hf9⟩
        have hc9 : c9 = 12 ∧ q9 = p4 := by
          rcases hf9 with ⟨_, e1, e2⟩ | ⟨h, _⟩
          · exact ⟨e1, by rw [e2]; rfl⟩
          · exact absurd rfl h
        obtain ⟨rfl, rfl⟩ := hc9
        go_wp2_with fail
        refine (good_any _ _ _ _ _ _ hr9).mono ?_
        rintro e w10 ⟨rfl, hb10⟩
        have HK10 := Lib.hid ((HK7.out.trans hk9).trans (Kp.of_below hb10))
        have HR10 := Lib.hid (hr9.below hb10)
        clear hr7 hk9 hr9 hf9 hb10
        go_wp2
        go_ret
        exact ⟨_, [], q9, 12, q9, rfl, Own.nil _ _, fun x h => absurd h (by simp), by simp, HK10.out, HR10.out, by unfold bks; exact HBK.out.bind (St.fault (x := []) (y := 0) (by rw [if_neg HR.out]) (by decide) p40 p41)⟩
    · have hcb : (c4 == 0) = false := by simpa using hc4
      have HC4 := Lib.hid hc4
      clear hz5 hc4
      go_wp2_with fail
      refine (good_any _ _ _ _ _ _ hr5).mono ?_
      rintro e w8 ⟨rfl, hb8⟩
      rw [hcb]
      have HK8 := Lib.hid (HK5.out.trans (Kp.of_below hb8))
      have HR8 := Lib.hid (hr5.below hb8)
      clear hr5 hb8
      go_wp2
      go_ret
      exact ⟨_, [], p4, c4, q4, rfl, Own.nil _ _, fun x h => absurd h (by simp), by simp, HK8.out, HR8.out, by unfold bks; rw [HBK.out.nil HC4.out] at HBK; exact HBK.out.bind (St.stay p40 p41 HC4.out)⟩

/-! ### The loose way -/
theorem krefuse_any (nb : Nat) (x y : Int) (f : Bool) (w : World) (h : Blk w nb #[.bool f] 70) :
    Calls Try.prog 44 #[.pointer (some ⟨nb, 0, none⟩), .int .i64 x, .int .i64 y] w fun e w' => e = .returned (.tuple #[]) ∧ w' = w.setCell ⟨nb, 0, none⟩ (.bool true) := by
  have c0 := h.c1
  have f0 := h.free 0
  clear h
  go_enter Try.func44, Try.ntmps44
  go_wp2
  go_end0
  exact ⟨rfl, rfl⟩
/-- What read hands back, the loose way. -/
def KrlPost (b nb : Nat) (s : Value) (k : Nat) (z : List Int) (most p c q : Int) (w : World) (e : Ending) (w' : World) : Prop :=
  ∃ v l p' c' q' f, e = .returned v ∧ Own w' w.heap.size v l ∧ (∀ x ∈ l, 0 ≤ x ∧ x < 256) ∧ l.length ≤ 10000 ∧ Ks (fun j => j = b ∨ j = nb) w w' ∧ IsRd w' b s p' c' q' ∧ Blk w' nb #[.bool f] 70 ∧ St [] k (bk z most p) p c q l p' c' q' ∧ f = (decide (c' = 0) && !decide (piece z p.toNat p'.toNat = bkb l))
set_option maxHeartbeats 8000000 in
theorem kread_loose (b nb : Nat) (a : Option Addr) (k m : Nat) (z : List Int) (p c q most : Int) (w : World) (h : IsRd w b (.slice a k m) p c q) (hN : Blk w nb #[.bool false] 70) (hnb : nb ≠ b) (hz : Bs w a k z) (h0 : 0 ≤ p) (h1 : p ≤ k) (hm : k ≤ m) (hk : k ≤ 10000) (hby : ∀ x ∈ z, 0 ≤ x ∧ x < 256) (hmo : most ≤ 10000) (hq : c = 0 → q = 0) :
    Calls Try.prog 39 #[.pointer (some ⟨b, 0, none⟩), .int .i64 most, .func (.func 44) #[.pointer (some ⟨nb, 0, none⟩)] #[]] w (KrlPost b nb (.slice a k m) k z most p c q w) := by
  have HN := Lib.hid hN
  clear hN
  have hzl := hz.1
  have HZ := Lib.hid hz
  have HBY := Lib.hid hby
  have HQ := Lib.hid hq
  have emin : min most 1048576 = most := by omega
  have hI := vint_any b a k m z p c q most w h hz h0 h1 (by omega) hby (by omega)
  unfold IntPost at hI
  have HH := Lib.hid h
  clear hz hby hq h
  go_enter Try.func39, Try.ntmps39
  go_wp2_with fail
  refine (at_any _ _ _ _ _ _ HH.out).mono ?_
  rintro e w0 ⟨rfl, rfl⟩
  go_wp2_with fail
  with_reducible refine hI.mono ?_
  rintro e w1 ⟨n, p1, c1, q1, rfl, hk1, hr1, hi1⟩
  have hs1 := hi1.st HZ.out.1 h0 h1 HBY.out
  obtain ⟨p10, p11⟩ := hs1.place
  have hnb := vm_bd hs1 HBY.out
  have hz1 : Bs w1 a k z := HZ.out.kp HH.out (by simp) hk1
  rw [← emin] at hs1
  rw [emin] at hs1
  have HS1 := Lib.hid hs1
  have hn2 : 0 ≤ n ∧ n ≤ 10000 := by omega
  clear hI hi1 hs1 hnb
  go_wp2_with fail
  refine (at_any _ _ _ _ _ _ hr1).mono ?_
  rintro e w2 ⟨rfl, rfl⟩
  have hB := byte_any b a k m z p1 c1 q1 w1 hr1 hz1 p10 p11 (by omega)
  unfold BytePost at hB
  go_wp2_with fail
  with_reducible refine hB.mono ?_
  rintro e w2 ⟨ok, p2, c2, q2, hk2, hr2, hsk, rfl⟩
  have hs2 := hsk.st HZ.out.1 p10 p11
  obtain ⟨wy, hwy⟩ : ∃ wy, wy = (if ok = true then piece z p1.toNat (p1 + 1).toNat else []) := ⟨_, rfl⟩
  rw [← hwy] at hs2
  obtain ⟨x, hx⟩ : ∃ x, x = (if ok = true then z.getD p1.toNat 0 else 0) := ⟨_, rfl⟩
  have hxw : wy.getD 0 0 = x := by
    rw [hwy, hx]
    cases ok
    · rfl
    · rw [if_pos rfl, if_pos rfl, piece_head z p1 p10]
  have hxb : 0 ≤ x ∧ x < 256 := by
    rw [hx]
    cases ok
    · rw [if_neg (by decide)]; omega
    · rw [if_pos rfl, List.getD_eq_getElem?_getD]
      cases hg : z[p1.toNat]? with
      | none => simp
      | some y => exact HBY.out y (List.mem_of_getElem? hg)
  rw [← hx]
  obtain ⟨p20, p21⟩ := hs2.place
  have hz2 : Bs w2 a k z := hz1.kp hr1 (by simp) hk2
  have HS2 := Lib.hid hs2
  have HXW := Lib.hid hxw
  have HK12 := Lib.hid (hk1.trans hk2)
  have HQ2 := Lib.hid (fun e : c2 = 0 => (show q2 = 0 from by
    subst e
    obtain ⟨e1, _, _, _, e2⟩ := hs2.good
    subst e1
    obtain ⟨e3, _, _, _, e4⟩ := HS1.out.good
    rw [e2, e4]
    exact HQ.out e3))
  clear hB hsk hwy hx hxw hk1 hk2 hr1 hz1 hs2
  by_cases hx1 : 1 < x
  · go_wp2_with fail
    with_reducible refine (fail_any b _ p2 c2 q2 7 p1 _ hr2).mono ?_
    rintro e w3 ⟨c3, q3, rfl, hk3, hr3, hf3⟩
    have hz3 : Bs w3 a k z := hz2.kp hr2 (by simp) hk3
    have HK3 := Lib.hid (HK12.out.trans hk3)
    have H3 : Hid (By3 wy c2 q2 p1 c3 q3) := Lib.hid (.inl ⟨by rw [HXW.out]; exact hx1, hf3⟩)
    have hq3 : c3 = 0 → q3 = 0 := fun e => by
      rcases hf3 with ⟨_, e3, _⟩ | ⟨h, e3, _⟩
      · omega
      · exact absurd (e3.symm.trans e) h
    clear hf3 hk3 hr2 hz2 hx1
    have hC := kcontent_any b a k m z p2 c3 q3 x n w3 hr3 hz3 p20 p21 hm hk HBY.out hxb hn2 hq3
    unfold KcPost at hC
    go_wp2_with fail
    with_reducible refine hC.mono ?_
    rintro e w4 ⟨v4, l, l', p4, c4, q4, rfl, ho4, hlb, hll, hk4, hr4, hs4, hl4⟩
    rw [← HXW.out] at hs4
    have hbk := bk_st (most := most) (by rw [emin]; exact HS1.out) HS2.out H3.out hs4
    obtain ⟨p40, p41⟩ := hs4.place
    have hz4 : Bs w4 a k z := hz3.kp hr3 (by simp) hk4
    have HK4 := Lib.hid (HK3.out.trans hk4)
    obtain ⟨Av, cv, rfl, hbv, hnv, hcv⟩ := ho4.parts
    have HBK := Lib.hid hbk
    have HLB := Lib.hid hlb
    have HL4 := Lib.hid hl4
    have HV := Lib.hid hbv
    have HNV := Lib.hid hnv
    have HO4 := Lib.hid (own_base0 ho4 HK3.out.size)
    obtain ⟨ll, hll2⟩ : ∃ ll, ll = l.length := ⟨_, rfl⟩
    rw [← hll2] at hcv hll ⊢
    have HLL := Lib.hid hll2
    clear hC hs4 hk4 hbk hlb hl4 hbv hnv ho4 hr3 hz3 hll2
    go_wp2_with fail
    refine (good_any _ _ _ _ _ _ hr4).mono ?_
    rintro e w5 ⟨rfl, hb5⟩
    have hr5 := hr4.below hb5
    have hz5 := hz4.below hb5
    have HV5 := Lib.hid (HV.out.below hb5)
    have HK5 := Lib.hid (HK4.out.trans (Kp.of_below hb5))
    have HO5 := Lib.hid (own_below HO4.out hb5)
    clear hr4 hz4 hb5
    by_cases hc4 : c4 = 0
    · subst hc4
      obtain rfl := HL4.out rfl
      go_wp2_with fail
      with_reducible refine (since_st b a k m z p4 0 q4 p _ hr5 hz5 p40 p41 hm (by omega) h0).mono ?_
      rintro e w6 ⟨A6, k6, m6, rfl, hb6, hs6⟩
      have hr6 := hr5.below hb6
      have HK6 := Lib.hid (HK5.out.trans (Kp.of_below hb6))
      have HO6 := Lib.hid (own_below HO5.out hb6)
      have hW := kisown_any A6 Av k6 m6 ll cv (y := piece z p.toNat p4.toNat) hs6 (by rw [HLL.out]; exact HV5.out.below hb6) HNV.out (piece_byte HBY.out _ _) HLB.out hcv (by omega)
      unfold BPost at hW
      clear hr5 hz5 hb6 hs6
      by_cases hr : piece z p.toNat p4.toNat = bkb l'
      · rw [decide_eq_true hr] at hW
        have HR := Lib.hid hr
        clear hr
        go_wp2_with fail
        with_reducible refine hW.mono ?_
        rintro e w7 ⟨rfl, hb7⟩
        have hr7 := hr6.below hb7
        have HK7 := Lib.hid (HK6.out.trans (Kp.of_below hb7))
        have HO7 := Lib.hid (own_below HO6.out hb7)
        clear hW hr6 hb7
        go_wp2_with fail
        refine (good_any _ _ _ _ _ _ hr7).mono ?_
        rintro e w8 ⟨rfl, hb8⟩
        have HK8 := Lib.hid (HK7.out.trans (Kp.of_below hb8))
        have HO8 := Lib.hid (own_below HO7.out hb8)
        have HR8 := Lib.hid (hr7.below hb8)
        clear hr7 hb8
        go_wp2
        go_ret
        exact ⟨_, l', p4, 0, q4, false, rfl, by show Own _ w.heap.size (.slice Av ll cv) l'; rw [HLL.out]; exact HO8.out, HLB.out, by rw [← HLL.out]; exact hll, Ks.of_kp HK8.out (.inl rfl), HR8.out, blk_kp HN.out HK8.out hnb, HBK.out, by rw [decide_eq_true HR.out]; rfl⟩
      · rw [decide_eq_false hr] at hW
        have HR := Lib.hid hr
        clear hr
        go_wp2_with fail
        with_reducible refine hW.mono ?_
        rintro e w7 ⟨rfl, hb7⟩
        have hr7 := hr6.below hb7
        have HK7 := Lib.hid (HK6.out.trans (Kp.of_below hb7))
        have HO7 := Lib.hid (own_below HO6.out hb7)
        clear hW hr6 hb7
        go_wp2_with fail
        refine (at_any _ _ _ _ _ _ hr7).mono ?_
        rintro e w8 ⟨rfl, rfl⟩
        have hN7 := blk_kp HN.out HK7.out hnb
        go_wp2_with fail
        with_reducible refine (krefuse_any nb 12 p4 false _ hN7).mono ?_
        rintro e w9 ⟨rfl, hw9⟩
        have hr9 : IsRd w9 b (.slice a k m) p4 0 q4 := by rw [hw9]; exact hr7.kp (Kp.setCell _ nb 0 (.bool true)) hnb.symm
        have HN9 : Hid (Blk w9 nb #[.bool true] 70) := Lib.hid (by rw [hw9]; exact hN7.set 0 (.bool true))
        have HK9 : Hid (Ks (fun j => j = b ∨ j = nb) w w9) := Lib.hid (by rw [hw9]; exact (Ks.of_kp HK7.out (.inl rfl)).trans (Ks.setCell _ nb 0 (.bool true) (.inr rfl)))
        have HO9 : Hid (Own w9 w.heap.size (.slice Av l'.length cv) l') := Lib.hid (by rw [hw9]; exact own_kp HO7.out (Kp.setCell _ nb 0 (.bool true)) (own_ne_blk HO7.out hN7 (by decide)))
        clear hw9 hN7 hr7
        go_wp2_with fail
        refine (good_any _ _ _ _ _ _ hr9).mono ?_
        rintro e w10 ⟨rfl, hb10⟩
        have HK10 := Lib.hid (HK9.out.trans (Ks.of_below hb10))
        have HR10 := Lib.hid (hr9.below hb10)
        have HN10 := Lib.hid (HN9.out.below hb10)
        have HO10 := Lib.hid (own_below HO9.out hb10)
        clear hr9 hb10
        go_wp2
        go_ret
        exact ⟨_, l', p4, 0, q4, true, rfl, by show Own _ w.heap.size (.slice Av ll cv) l'; rw [HLL.out]; exact HO10.out, HLB.out, by rw [← HLL.out]; exact hll, HK10.out, HR10.out, HN10.out, HBK.out, by rw [decide_eq_false HR.out]; rfl⟩
    · have hcb : (c4 == 0) = false := by simpa using hc4
      have HC4 := Lib.hid hc4
      clear hz5 hc4
      go_wp2_with fail
      refine (good_any _ _ _ _ _ _ hr5).mono ?_
      rintro e w8 ⟨rfl, hb8⟩
      rw [hcb]
      have HK8 := Lib.hid (HK5.out.trans (Kp.of_below hb8))
      have HR8 := Lib.hid (hr5.below hb8)
      clear hr5 hb8
      go_wp2
      go_ret
      exact ⟨_, [], p4, c4, q4, false, rfl, Own.nil _ _, fun x h => absurd h (by simp), by simp, Ks.of_kp HK8.out (.inl rfl), HR8.out, blk_kp HN.out HK8.out hnb, by rw [HBK.out.nil HC4.out] at HBK; exact HBK.out, by rw [decide_eq_false HC4.out]; rfl⟩
  · have hr3 := hr2
    have hz3 := hz2
    have HK3 := HK12
    have H3 : Hid (By3 wy c2 q2 p1 c2 q2) := Lib.hid (.inr ⟨by rw [HXW.out]; exact hx1, rfl, rfl⟩)
    have hq3 := HQ2.out
    clear hr2 hz2
    have hC := kcontent_any b a k m z p2 c2 q2 x n w2 hr3 hz3 p20 p21 hm hk HBY.out hxb hn2 hq3
    unfold KcPost at hC
    go_wp2_with fail
    with_reducible refine hC.mono ?_
    rintro e w4 ⟨v4, l, l', p4, c4, q4, rfl, ho4, hlb, hll, hk4, hr4, hs4, hl4⟩
    rw [← HXW.out] at hs4
    have hbk := bk_st (most := most) (by rw [emin]; exact HS1.out) HS2.out H3.out hs4
    obtain ⟨p40, p41⟩ := hs4.place
    have hz4 : Bs w4 a k z := hz3.kp hr3 (by simp) hk4
    have HK4 := Lib.hid (HK3.out.trans hk4)
    obtain ⟨Av, cv, rfl, hbv, hnv, hcv⟩ := ho4.parts
    have HBK := Lib.hid hbk
    have HLB := Lib.hid hlb
    have HL4 := Lib.hid hl4
    have HV := Lib.hid hbv
    have HNV := Lib.hid hnv
    have HO4 := Lib.hid (own_base0 ho4 HK3.out.size)
    obtain ⟨ll, hll2⟩ : ∃ ll, ll = l.length := ⟨_, rfl⟩
    rw [← hll2] at hcv hll ⊢
    have HLL := Lib.hid hll2
    clear hC hs4 hk4 hbk hlb hl4 hbv hnv ho4 hr3 hz3 hll2
    go_wp2_with fail
    refine (good_any _ _ _ _ _ _ hr4).mono ?_
    rintro e w5 ⟨rfl, hb5⟩
    have hr5 := hr4.below hb5
    have hz5 := hz4.below hb5
    have HV5 := Lib.hid (HV.out.below hb5)
    have HK5 := Lib.hid (HK4.out.trans (Kp.of_below hb5))
    have HO5 := Lib.hid (own_below HO4.out hb5)
    clear hr4 hz4 hb5
    by_cases hc4 : c4 = 0
    · subst hc4
      obtain rfl := HL4.out rfl
      go_wp2_with fail
      with_reducible refine (since_st b a k m z p4 0 q4 p _ hr5 hz5 p40 p41 hm (by omega) h0).mono ?_
      rintro e w6 ⟨A6, k6, m6, rfl, hb6, hs6⟩
      have hr6 := hr5.below hb6
      have HK6 := Lib.hid (HK5.out.trans (Kp.of_below hb6))
      have HO6 := Lib.hid (own_below HO5.out hb6)
      have hW := kisown_any A6 Av k6 m6 ll cv (y := piece z p.toNat p4.toNat) hs6 (by rw [HLL.out]; exact HV5.out.below hb6) HNV.out (piece_byte HBY.out _ _) HLB.out hcv (by omega)
      unfold BPost at hW
      clear hr5 hz5 hb6 hs6
      by_cases hr : piece z p.toNat p4.toNat = bkb l'
      · rw [decide_eq_true hr] at hW
        have HR := Lib.hid hr
        clear hr
        go_wp2_with fail
        with_reducible refine hW.mono ?_
        rintro e w7 ⟨rfl, hb7⟩
        have hr7 := hr6.below hb7
        have HK7 := Lib.hid (HK6.out.trans (Kp.of_below hb7))
        have HO7 := Lib.hid (own_below HO6.out hb7)
        clear hW hr6 hb7
        go_wp2_with fail
        refine (good_any _ _ _ _ _ _ hr7).mono ?_
        rintro e w8 ⟨rfl, hb8⟩
        have HK8 := Lib.hid (HK7.out.trans (Kp.of_below hb8))
        have HO8 := Lib.hid (own_below HO7.out hb8)
        have HR8 := Lib.hid (hr7.below hb8)
        clear hr7 hb8
        go_wp2
        go_ret
        exact ⟨_, l', p4, 0, q4, false, rfl, by show Own _ w.heap.size (.slice Av ll cv) l'; rw [HLL.out]; exact HO8.out, HLB.out, by rw [← HLL.out]; exact hll, Ks.of_kp HK8.out (.inl rfl), HR8.out, blk_kp HN.out HK8.out hnb, HBK.out, by rw [decide_eq_true HR.out]; rfl⟩
      · rw [decide_eq_false hr] at hW
        have HR := Lib.hid hr
        clear hr
        go_wp2_with fail
        with_reducible refine hW.mono ?_
        rintro e w7 ⟨rfl, hb7⟩
        have hr7 := hr6.below hb7
        have HK7 := Lib.hid (HK6.out.trans (Kp.of_below hb7))
        have HO7 := Lib.hid (own_below HO6.out hb7)
        clear hW hr6 hb7
        go_wp2_with fail
        refine (at_any _ _ _ _ _ _ hr7).mono ?_
        rintro e w8 ⟨rfl, rfl⟩
        have hN7 := blk_kp HN.out HK7.out hnb
        go_wp2_with fail
        with_reducible refine (krefuse_any nb 12 p4 false _ hN7).mono ?_
        rintro e w9 ⟨rfl, hw9⟩
        have hr9 : IsRd w9 b (.slice a k m) p4 0 q4 := by rw [hw9]; exact hr7.kp (Kp.setCell _ nb 0 (.bool true)) hnb.symm
        have HN9 : Hid (Blk w9 nb #[.bool true] 70) := Lib.hid (by rw [hw9]; exact hN7.set 0 (.bool true))
        have HK9 : Hid (Ks (fun j => j = b ∨ j = nb) w w9) := Lib.hid (by rw [hw9]; exact (Ks.of_kp HK7.out (.inl rfl)).trans (Ks.setCell _ nb 0 (.bool true) (.inr rfl)))
        have HO9 : Hid (Own w9 w.heap.size (.slice Av l'.length cv) l') := Lib.hid (by rw [hw9]; exact own_kp HO7.out (Kp.setCell _ nb 0 (.bool true)) (own_ne_blk HO7.out hN7 (by decide)))
        clear hw9 hN7 hr7
        go_wp2_with fail
        refine (good_any _ _ _ _ _ _ hr9).mono ?_
        rintro e w10 ⟨rfl, hb10⟩
        have HK10 := Lib.hid (HK9.out.trans (Ks.of_below hb10))
        have HR10 := Lib.hid (hr9.below hb10)
        have HN10 := Lib.hid (HN9.out.below hb10)
        have HO10 := Lib.hid (own_below HO9.out hb10)
        clear hr9 hb10
        go_wp2
        go_ret
        exact ⟨_, l', p4, 0, q4, true, rfl, by show Own _ w.heap.size (.slice Av ll cv) l'; rw [HLL.out]; exact HO10.out, HLB.out, by rw [← HLL.out]; exact hll, HK10.out, HR10.out, HN10.out, HBK.out, by rw [decide_eq_false HR.out]; rfl⟩
    · have hcb : (c4 == 0) = false := by simpa using hc4
      have HC4 := Lib.hid hc4
      clear hz5 hc4
      go_wp2_with fail
      refine (good_any _ _ _ _ _ _ hr5).mono ?_
      rintro e w8 ⟨rfl, hb8⟩
      rw [hcb]
      have HK8 := Lib.hid (HK5.out.trans (Kp.of_below hb8))
      have HR8 := Lib.hid (hr5.below hb8)
      clear hr5 hb8
      go_wp2
      go_ret
      exact ⟨_, [], p4, c4, q4, false, rfl, Own.nil _ _, fun x h => absurd h (by simp), by simp, Ks.of_kp HK8.out (.inl rfl), HR8.out, blk_kp HN.out HK8.out hnb, by rw [HBK.out.nil HC4.out] at HBK; exact HBK.out, by rw [decide_eq_false HC4.out]; rfl⟩
end Go.Proofs.Ytckpngofnohdjaa.Cur
