/- Stripes read by the document: Read, walked. -/
import Derived.Test.YtghlediibhnloaaStpL
namespace Go.Proofs.Ytghlediibhnloaa.Cur
open Go.RowKit Mem
set_option linter.unusedVariables false
set_option maxRecDepth 100000



set_option maxHeartbeats 8000000 in
theorem rread19_in (a : Option Addr) (n m : Nat) (z : List Int) (f p c q : Int) (w : World) (hz : Bs w a n z) (h0 : 0 ≤ p) (h1 : p ≤ n) (hm : n ≤ m) (hn : n ≤ 100000) (hby : ∀ x ∈ z, 0 ≤ x ∧ x < 256) (f0 : 0 ≤ f) (hf : ¬ 4611686018427387904 < f) :
    Calls Try.prog 58 #[cv (.slice a n m) p c q, .int .u64 f] w (RStPost (.slice a n m) n z f p c q w) := by
  have HBY := Lib.hid hby
  have HZL := Lib.hid hz.1
  have HZ := Lib.hid hz
  have HE : Hid (srt z f p = (vg z p).bind 0 fun n p1 => if 4611686018427387904 - f ≤ n then (0, 0, 3, p) else (f + n + 1, p1, 0, 0)) := Lib.hid (by unfold srt; rw [if_neg hf])
  have e1 : IntKind.u64.wrap (4611686018427387904 - f) = 4611686018427387904 - f := IntWalk.u64_in _ (by omega)
  clear hby
  go_enter Try.func58, Try.ntmps58
  go_wp2_with fail
  refine (rread_any _ _ _ _ _ _ _ _ (hz.below (below_three _ _ _ _)) h0 h1 hm (by omega) HBY.out).mono ?_
  rintro e w1 ⟨x, p1, c1, q1, rfl, hb, hs⟩
  obtain ⟨hC, hR, hZ, hbd⟩ := three_new hb
  have hst := hs.st hz.1 h0 h1 HBY.out
  have hxb := rd_lt hs hz.1 h0 h1 HBY.out
  obtain ⟨p10, p11⟩ := hst.place
  have HS := Lib.hid hst
  have hD := Blk.new w1 (scs a n m p1 c1 q1) 48
  have hbD := below_one w1 (.cells (scs a n m p1 c1 q1) 48)
  replace hC := hC.below hbD
  have hRl := hZ.lt
  replace hR := hR.below hbD
  replace hZ := hZ.below hbD
  replace hbd := hbd.trans (hbD.mono hbd.size)
  have hd1 : w1.heap.size < (w1.alloc (.cells (scs a n m p1 c1 q1) 48)).heap.size := by simp
  clear hs hst hb hbD hz
  go_upto_region 4 with (fail)
  generalize w1.alloc (.cells (scs a n m p1 c1 q1) 48) = w2 at *
  generalize w1.heap.size = d at *
  obtain ⟨x0, x1, x2, x3⟩ := hC.c4
  obtain ⟨d0, d1, d2, d3⟩ := hD.c4
  by_cases hx : c1 = 0 ∧ 4611686018427387904 - f ≤ x
  · obtain ⟨rfl, hx2⟩ := hx
    go_wp2_with fail
    refine (rfail_any _ _ _ _ _ _ _ _ _).mono ?_
    rintro e w3 ⟨c3, q3, rfl, hb3, hfs⟩
    have HF : Hid (St stp0 n (str z f p) p c q stp0 p1 c3 q3) := Lib.hid (by
      rw [str_eq, HE.out, Rs.bind_assoc]
      refine HS.out.bind ?_
      rw [if_pos hx2]
      exact St.fail (d := stp0) (d' := stp0) (x := 0) (cc := 3) (pp := p) (by unfold Rs.bind; rw [if_pos (by show (3 : Int) ≠ 0; decide)]) (by decide) p10 p11 hfs)
    replace hR := hR.below hb3
    replace hZ := hZ.below hb3
    replace hbd := hbd.trans (hb3.mono hbd.size)
    clear hb3 hfs hD hC x0 x1 x2 x3 d0 d1 d2 d3 hx2
    obtain ⟨r0, r1, r2, r3⟩ := hR.c4
    obtain ⟨g0, g1, g2, g3⟩ := hR.f4
    obtain ⟨s0, s1, s2⟩ := hZ.c3
    have k0 := hZ.free 0
    have k1 := hZ.free 1
    have k2 := hZ.free 2
    clear hR hZ
    go_wp2
    refine bodyPost_ret (by simp [results, Try.results58, go_sem, r0, r1, r2, r3, s0, s1, s2]) rfl (RStPost.zero ?_ HF.out)
    iterate 7 (refine Below.setCell ?_ (by first | (simp; done) | (simp; omega)) _)
    exact hbd
  have HT : Hid (St 0 n (srt z f p) p c q (if c1 = 0 then f + x + 1 else 0) p1 c1 q1) := Lib.hid (by
    rw [HE.out]
    refine HS.out.bind ?_
    by_cases hc : c1 = 0
    · rw [if_pos hc, hc]
      exact St.done (by rw [if_neg (fun h => hx ⟨hc, h⟩)]) p10 p11
    · rw [if_neg hc]
      exact St.stay p10 p11 hc)
  have hxn : c1 ≠ 0 → x = 0 := fun h => HS.out.nil h
  have hxlt : f + x + 1 ≤ 4611686018427387905 := by
    by_cases hc : c1 = 0
    · have : ¬ 4611686018427387904 - f ≤ x := fun h => hx ⟨hc, h⟩
      omega
    · have := hxn hc; omega
  have e2 : IntKind.u64.wrap (f + x) = f + x := IntWalk.u64_in _ (by omega)
  have e3 : IntKind.u64.wrap (f + x + 1) = f + x + 1 := IntWalk.u64_in _ (by omega)
  obtain ⟨t, ht⟩ : ∃ t, t = f + x + 1 := ⟨_, rfl⟩
  have htb : 0 ≤ t ∧ t < 18446744073709551616 := by omega
  rw [← ht] at HT
  have e3' : IntKind.u64.wrap (f + x + 1) = t := by rw [ht]; exact e3
  have HTB := Lib.hid htb
  have hS := Blk.new w2 (stc f t none 0 0) 60
  have hbS := below_one w2 (.cells (stc f t none 0 0) 60)
  replace hD := hD.below hbS
  replace hR := hR.below hbS
  replace hZ := hZ.below hbS
  replace hbd := hbd.trans (hbS.mono hbd.size)
  have hds : d < w2.heap.size := by omega
  have hss : w2.heap.size < (w2.alloc (.cells (stc f t none 0 0) 60)).heap.size := by simp
  clear hC hbS ht e3 hxlt x0 x1 x2 x3 HS HE hxb
  by_cases hc : c1 = 0
  · have hcb : (c1 == 0) = true := by simpa using hc
    have hx3 : ¬ 4611686018427387904 - f ≤ x := fun h => hx ⟨hc, h⟩
    clear hx hxn hc
    go_wp2_with fail
    generalize w2.alloc (.cells (stc f t none 0 0) 60) = w3 at *
    generalize w2.heap.size = sx at *
    refine (rmany_any a n m z p1 c1 q1 8 _ (HZ.out.below hbd) p10 p11 hm (by omega) HBY.out (by omega)).mono ?_
    rintro e w4 ⟨K, p2, c2, q2, rfl, hb4, hs4⟩
    obtain ⟨n0, n8, _⟩ := mny_bd hs4 HZL.out p10 p11 HBY.out
    have hK8 : K ≤ 8 := by omega
    obtain ⟨K, rfl⟩ := Int.eq_ofNat_of_zero_le n0
    have HS4 := Lib.hid hs4
    have hpl4 := hs4.place
    replace hD := hD.below hb4
    replace hR := hR.below hb4
    replace hZ := hZ.below hb4
    replace hS := hS.below hb4
    replace hbd := hbd.trans (hb4.mono hbd.size)
    clear hs4 hb4 d0 d1 d2 d3 n0 n8 e1 e2 e3' hcb
    try clear e5 e6
    obtain ⟨d0, d1, d2, d3⟩ := hD.c4
    obtain ⟨f0', f1', f2', f3'⟩ := hD.f4
    obtain ⟨z1, z2⟩ := set4 hD (.slice a n m) (.int .i64 p2) (.int .i64 c2) (.int .i64 q2)
    have H0 : Hid (RSL a n m z f t w d sx K p2 c2 q2 0 (.slice none 0 0) [] p2 c2 q2 ((((w4.setCell ⟨d, 0, none⟩ (.slice a n m)).setCell ⟨d, 1, none⟩ (.int .i64 p2)).setCell ⟨d, 2, none⟩ (.int .i64 c2)).setCell ⟨d, 3, none⟩ (.int .i64 q2))) := Lib.hid ⟨z1, blk_kp hS z2 (by omega), blk_kp hR z2 (by omega), blk_kp hZ z2 (by omega), OwnSts.nil _ _, rfl, (by simp), (fun l h => by simp at h), Kp.below hbd (Nat.le_refl _) z2 (by omega), hpl4.1, hpl4.2, SsSt.start hpl4.1 hpl4.2⟩
    clear hD hS hR hZ hbd z1 z2
    go_wp2
    clear d0 d1 d2 d3 f0' f1' f2' f3'
    go_loopw [10] (fun i wr => ∃ (k : Nat) (v : Value) (S : List (List Int)) (pk ck qk : Int), k ≤ K ∧ i = .int .i64 k ∧ Hid (RSL a n m z f t w d sx K p2 c2 q2 k v S pk ck qk wr)) (fun i _ => K - (intOf i).toNat)
    case atStart => exact ⟨0, _, _, _, _, _, by omega, rfl, H0⟩
    case round =>
      clear H0
      obtain ⟨k, v, S, pk, ck, qk, hk, rfl, HR0⟩ := hrel
      obtain ⟨hD, hS, hR, hZ, ho, hSl, hle, hsb, hbd, hp0, hp1, hst⟩ := HR0.out
      have HSL := Lib.hid hSl
      have HLE := Lib.hid hle
      have HSB := Lib.hid hsb
      have HST := Lib.hid hst
      obtain ⟨Av, cq9, rfl, hcv, hnil, hsts⟩ := ho.sts
      rw [hSl] at ho hsts hcv hS
      obtain ⟨d0, d1, d2, d3⟩ := hD.c4
      clear HR0
      by_cases hlt : k < K
      · have e4 : (k : Int) < K := by omega
        by_cases hck : ck = 0
        · subst hck
          have HVLT := Lib.hid ho.lt
          clear hsb hst hle hSl hcv hnil
          go_wp2_with fail
          refine (rmany_any a n m z pk 0 qk 8 wr (HZ.out.below hbd) hp0 hp1 hm (by omega) HBY.out (by omega)).mono ?_
          rintro e w5 ⟨M, p5, c5, q5, rfl, hb5, hs5⟩
          obtain ⟨m0, m8, mp⟩ := mny_bd hs5 HZL.out hp0 hp1 HBY.out
          obtain ⟨p50, p51⟩ := hs5.place
          have HMP := Lib.hid mp
          have HS5 : Hid (St 0 n (mny z 8 pk) pk 0 qk M p5 c5 q5) := Lib.hid hs5
          have hE := Blk.new w5 (scs a n m p5 c5 q5) 48
          have hbr := hb5.trans ((below_one w5 (.cells (scs a n m p5 c5 q5) 48)).mono hb5.size)
          have hwr5 : wr.heap.size ≤ w5.heap.size := hb5.size
          have hsz6 : w5.heap.size < (w5.alloc (.cells (scs a n m p5 c5 q5) 48)).heap.size := by simp
          have hsxw : sx < wr.heap.size := hS.lt
          have HD := Lib.hid hD
          have HS8 := Lib.hid hS
          have HR8 := Lib.hid hR
          have HZ8 := Lib.hid hZ
          have HO := Lib.hid ho
          have HSTS := Lib.hid hsts
          have HBD := Lib.hid hbd
          clear hs5 hb5 d0 d1 d2 d3 mp hD hS hR hZ ho hsts hbd
          go_upto_region 12 with (fail)
          generalize w5.alloc (.cells (scs a n m p5 c5 q5) 48) = w6 at *
          generalize w5.heap.size = eb at *
          obtain ⟨x0, x1, x2, x3⟩ := hE.c4
          go_wp2_with fail
          refine (rrread_any a n m z p5 c5 q5 M w6 (HZ.out.below (HBD.out.trans (hbr.mono HBD.out.size))) p50 p51 hm hn HBY.out).mono ?_
          rintro e w7 ⟨v7, l, p7, c7, q7, rfl, hoL, hb7, hs7, hlb⟩
          have hl8' := rg_len hs7 HZL.out p50 p51 HBY.out
          have HS7 : Hid (St [] n (rg z M.toNat p5) p5 c5 q5 l p7 c7 q7) := Lib.hid hs7.st
          have HP7 := Lib.hid hs7.st.place
          have HLN : Hid (c7 ≠ 0 → l = []) := Lib.hid fun hc => hs7.nil hc
          have HCC : Hid (c7 = 0 → 1 ≤ l.length) := Lib.hid fun hc => by
            have e1 := (hl8'.2 hc).1
            have g1 := hs7.st
            rw [hc] at g1
            have := HMP.out (St.good g1).1
            omega
          have hl8 : l.length ≤ 8 := by have := hl8'.1; omega
          have HLB := Lib.hid hlb
          obtain ⟨A2, m2, rfl⟩ := hoL.slice
          have hF := Blk.new w7 (scs a n m p7 c7 q7) 48
          have hbF := hb7.trans ((below_one w7 (.cells (scs a n m p7 c7 q7) 48)).mono hb7.size)
          have hw7 : w6.heap.size ≤ w7.heap.size := hb7.size
          have hsz8 : w7.heap.size < (w7.alloc (.cells (scs a n m p7 c7 q7) 48)).heap.size := by simp
          replace hE := hE.below hbF
          replace hbr := hbr.trans (hbF.mono hbr.size)
          replace hoL : OwnU _ _ (.slice A2 l.length m2) l := own_below hoL (below_one w7 (.cells (scs a n m p7 c7 q7) 48))
          clear hs7 hb7 hbF hlb hl8' x0 x1 x2 x3 m0 m8
          go_upto_region 13 with (fail)
          generalize w7.alloc (.cells (scs a n m p7 c7 q7) 48) = wc at *
          generalize w7.heap.size = fb at *
          generalize w6.heap.size = b7 at *
          have e5 : IntKind.i64.wrap ((k : Int) + 1) = ((k + 1 : Nat) : Int) := IntWalk.i64_in _ (by omega)
          have hdfb : d < fb := by omega
          have hsfb : sx < fb := by omega
          by_cases hc7 : c7 = 0
          · subst hc7
            have h1l := HCC.out rfl
            obtain ⟨_, _, _, hus⟩ := OwnU.us (w := wc) (z := l) hoL
            obtain ⟨g5, o5, rfl, hg5, hc5⟩ := hus.cells (by omega)
            have y9 := hc5 wc (Below.refl _ _) (l.length - 1) (by omega)
            have e6 : IntKind.i64.wrap ((l.length : Int) - 1) = ((l.length - 1 : Nat) : Int) := by rw [IntWalk.i64_in _ (by omega)]; omega
            have e7 : ((l.length - 1 : Nat) : Int) < (l.length : Int) := by omega
            obtain ⟨y, hy⟩ : ∃ y, y = l.getD (l.length - 1) 0 := ⟨_, rfl⟩
            rw [← hy] at y9
            have HY := Lib.hid hy
            have HUS := Lib.hid hus
            clear hy hc5 hus
            obtain ⟨f0, f1, f2, f3⟩ := hF.c4
            obtain ⟨i0, i1, i2, i3⟩ := hE.c4
            by_cases hyb : 4294967296 ≤ y
            · go_wp2_with fail
              refine (rfail_any _ _ _ _ _ _ _ _ _).mono ?_
              rintro e w9 ⟨c9, q9, rfl, hb9, hfs⟩
              have HSTL := Lib.hid (HS5.out.bind (f := fun m p1 => (rg z m.toNat p1).bind [] fun l p2 => if 4294967296 ≤ l.getD (l.length - 1) 0 then ([], 0, 3, p1) else if tw S l then ([], 0, 13, p1) else (l, p2, 0, 0)) (HS7.out.bind (f := fun l p2 => if 4294967296 ≤ l.getD (l.length - 1) 0 then ([], 0, 3, p5) else if tw S l then ([], 0, 13, p5) else (l, p2, 0, 0)) (rstl_fin (c' := c9) (q' := q9) HLN.out HP7.out.1 HP7.out.2 (.inl ⟨rfl, by rw [← HY.out]; omega, hfs⟩))))
              have HNEXT : Hid (SsSt n z K p2 c2 q2 (k + 1) (S ++ [l]) p7 (c9) (q9)) := Lib.hid (HST.out.next hlt HSTL.out (fun hc => by
                have h1 := HSTL.out
                rw [if_pos hc, hc] at h1
                exact stl_tw h1 HZL.out hp0 hp1 HBY.out))
              have hc9 : c9 ≠ 0 := by
                rcases hfs with ⟨_, rfl, _⟩ | ⟨h, rfl, _⟩
                · decide
                · exact absurd rfl h
              have hcb9 : (c9 == 0) = false := by simpa using hc9
              clear hfs hc9 f0 f1 f2 f3 i0 i1 i2 i3 y9 hE
              have hF9 := hF.below hb9
              have hbr9 := hbr.trans (hb9.mono hbr.size)
              have hoL9 : OwnU w9 b7 (.slice (some ⟨g5, o5, none⟩) l.length m2) l := own_below hoL hb9
              have hX9 := set4 hF9 (.slice a n m) (.int .i64 p7) (.int .i64 c9) (.int .i64 q9)
              have hoL0 : OwnU _ b7 (.slice (some ⟨g5, o5, none⟩) l.length m2) l := own_kp hoL9 hX9.2 (own_ne_blk hoL9 hF9 (by decide))
              have hbr0 := set4_below hbr9 (g := fb) (by omega) (.slice a n m) (.int .i64 p7) (.int .i64 c9) (.int .i64 q9)
              obtain ⟨f0, f1, f2, f3⟩ := hF9.c4
              obtain ⟨l0, l1, l2, l3⟩ := hF9.f4
              have hF0 := hX9.1
              clear hF hbr hoL hF9 hbr9 hoL9 hX9 hb9
              go_upto_region 15 with (fail)
              clear f0 f1 f2 f3 l0 l1 l2 l3
              generalize (((w9.setCell ⟨fb, 0, none⟩ (.slice a n m)).setCell ⟨fb, 1, none⟩ (.int .i64 p7)).setCell ⟨fb, 2, none⟩ (.int .i64 c9)).setCell ⟨fb, 3, none⟩ (.int .i64 q9) = wc at *
              have hF := hF0
              have hbr := hbr0
              have hoL := hoL0
              clear hF0 hbr0 hoL0
              have hX := below_one wc (.cells #[.slice (some ⟨g5, o5, none⟩) l.length m2] 101)
              have hrwX := rw_new wc [.slice (some ⟨g5, o5, none⟩) l.length m2] 101
              have hoL8 := own_below hoL hX
              have hbX := hbr.trans (hX.mono hbr.size)
              have hoS8 := HO.out.below hbX
              have hD8 := HD.out.below hbX
              have hS7 := HS8.out.below hbr
              have hS8 := HS8.out.below hbX
              have hR8 := HR8.out.below hbX
              have hZ8 := HZ8.out.below hbX
              have hF8 := hF.below hX
              have hbd8 := HBD.out.trans (hbX.mono HBD.out.size)
              have hel := (SlE U64E).mono (OwnU.el (w := wc.alloc (.cells #[.slice (some ⟨g5, o5, none⟩) l.length m2] 101)) hoL8 HLB.out) (Q := fun g => sx + 1 ≤ g ∧ (Value.slice Av k cq9).ownBlock ≠ some g) (fun g hg _ => by
                have h1 := own_ge hoL g hg
                exact ⟨by omega, fun e => by have := HVLT.out g e; omega⟩)
              obtain ⟨cs, g1, g2', g3⟩ := hoS8
              have g2 : (wc.alloc (.cells #[.slice (some ⟨g5, o5, none⟩) l.length m2] 101)).ownsRow (sx + 1) 101 1 (.slice Av k cq9) S.length cs.flatten := g2'
              have hge2 := own_ge g2
              have HL1 : Hid (S.length + 1 ≤ 1000000) := Lib.hid (by have := HSL.out; omega)
              have hB2 : sx + 1 ≤ (wc.alloc (.cells #[.slice (some ⟨g5, o5, none⟩) l.length m2] 101)).heap.size := hS8.lt
              obtain ⟨s0, s1, s2⟩ := hS7.c3
              obtain ⟨u0, u1, u2, u3⟩ := hF.c4
              clear g2' hX hoL hoL8 hF hbr hbX hS7
              go_wp2_with (at_builtin; go_must (refine list_append_rw kindSU rfl (.tmp 108) (.tmp 110) rfl (sx + 1) _ _ _ rfl g2 _ 1 _ [.slice (some ⟨g5, o5, none⟩) l.length m2] rfl rfl hrwX (by simp) (by simp [Value.oneCell']) HL1.out (by omega) hB2 ?_; intro v' w9 ho4 hg4 hgr4; have H4 := OwnSts.snoc g1 g3 hel ho4 hg4 hgr4; obtain ⟨A4, cv4, hv4, _⟩ := H4.sts; rw [show (S ++ [l]).length = k + 1 by simp [HSL.out]] at hv4; subst hv4; have hkk : Ks (fun g => sx + 1 ≤ g) _ w9 := Ks.of_grown hg4 (fun g e => hge2 g e); have hD9 := hD8.ks hkk (by omega); have hS9 := hS8.ks hkk (by omega); have hR9 := hR8.ks hkk (by omega); have hZ9 := hZ8.ks hkk (by omega); have hF9 : Blk w9 fb (scs a n m p7 c9 q9) 48 := hF8.ks (Ks.of_grown (S := fun g => (Value.slice Av k cq9).ownBlock = some g) hg4 (fun g e => e)) (fun e => by have := HVLT.out fb e; omega); have hbd9 := hkk.below hbd8 (Nat.le_refl _) (fun g hg => by omega); have HEND := Lib.hid (RSL.next (n := n) (z := z) (N := K) (p2 := p2) (c2 := c2) (q2 := q2) (c' := c9) (q' := q9) (pk := pk) (ck := 0) (qk := qk) (a := a) (m := m) hD9 hS9 hR9 hZ9 H4 HSL.out HLE.out hl8 HSB.out HLB.out hbd9 HP7.out.1 HP7.out.2 HNEXT.out (by omega) (by omega)); obtain ⟨d0, d1, d2, d3⟩ := hD9.c4; obtain ⟨f0, f1, f2, f3⟩ := hD9.f4; obtain ⟨y0, y1, y2, y3⟩ := hF9.c4; have i2 := hS9.free 2; obtain ⟨j0, j1, j2⟩ := hS9.c3; clear hD9 hS9 hR9 hZ9 hF9 hbd9 H4 ho4 hg4 hgr4 hkk g1 g2 g3 hel hrwX hD8 hF8 hS8 hR8 hZ8 hbd8 hge2 hB2 s0 s1 s2 u0 u1 u2 u3))
              go_roundw
              case rel => exact ⟨k + 1, _, _, p7, _, _, by omega, by go_num, HEND⟩
              case measure => simp [intOf]; omega
            · have hS7 := HS8.out.below hbr
              obtain ⟨s0, s1, s2⟩ := hS7.c3
              have HTW : Hid (tw (S.take k) l = tw S l) := Lib.hid (by rw [List.take_of_length_le (by have := HSL.out; omega)])
              have htcon := rtwice_any _ Av k cq9 S k (some ⟨g5, o5, none⟩) l.length m2 l wc (HSTS.out.below hbr) (Nat.le_refl _) (by omega) (fun x hx => by have := HLE.out x hx; omega) HUS.out (by omega)
              rw [HTW.out] at htcon
              unfold BPost at htcon
              obtain ⟨tv, htv⟩ : ∃ tv, tv = tw S l := ⟨_, rfl⟩
              rw [← htv] at htcon
              have HTV := Lib.hid htv
              clear htv hS7 HTW
              go_wp2_with fail
              refine htcon.mono ?_
              rintro e w8 ⟨rfl, hb8⟩
              replace hE := hE.below hb8
              replace hF := hF.below hb8
              replace hbr := hbr.trans (hb8.mono hbr.size)
              replace hoL : OwnU w8 b7 (.slice (some ⟨g5, o5, none⟩) l.length m2) l := own_below hoL hb8
              clear htcon hb8 s0 s1 s2 f0 f1 f2 f3 i0 i1 i2 i3 y9
              obtain ⟨f0, f1, f2, f3⟩ := hF.c4
              obtain ⟨i0, i1, i2, i3⟩ := hE.c4
              cases tv
              · have HSTL := Lib.hid (HS5.out.bind (f := fun m p1 => (rg z m.toNat p1).bind [] fun l p2 => if 4294967296 ≤ l.getD (l.length - 1) 0 then ([], 0, 3, p1) else if tw S l then ([], 0, 13, p1) else (l, p2, 0, 0)) (HS7.out.bind (f := fun l p2 => if 4294967296 ≤ l.getD (l.length - 1) 0 then ([], 0, 3, p5) else if tw S l then ([], 0, 13, p5) else (l, p2, 0, 0)) (rstl_fin (c' := 0) (q' := q7) HLN.out HP7.out.1 HP7.out.2 (.inr (.inr (.inl ⟨rfl, by rw [← HY.out]; omega, HTV.out.symm, rfl, rfl⟩))))))
                have HNEXT : Hid (SsSt n z K p2 c2 q2 (k + 1) (S ++ [l]) p7 (0) (q7)) := Lib.hid (HST.out.next hlt HSTL.out (fun hc => by
                  have h1 := HSTL.out
                  rw [if_pos hc, hc] at h1
                  exact stl_tw h1 HZL.out hp0 hp1 HBY.out))
                clear f0 f1 f2 f3 i0 i1 i2 i3 hE
                go_upto_region 17 with (fail)
                have hwc : ∃ wc, wc = w8 := ⟨_, rfl⟩
                obtain ⟨wc, hwc⟩ := hwc
                subst hwc
                have hX := below_one wc (.cells #[.slice (some ⟨g5, o5, none⟩) l.length m2] 101)
                have hrwX := rw_new wc [.slice (some ⟨g5, o5, none⟩) l.length m2] 101
                have hoL8 := own_below hoL hX
                have hbX := hbr.trans (hX.mono hbr.size)
                have hoS8 := HO.out.below hbX
                have hD8 := HD.out.below hbX
                have hS7 := HS8.out.below hbr
                have hS8 := HS8.out.below hbX
                have hR8 := HR8.out.below hbX
                have hZ8 := HZ8.out.below hbX
                have hF8 := hF.below hX
                have hbd8 := HBD.out.trans (hbX.mono HBD.out.size)
                have hel := (SlE U64E).mono (OwnU.el (w := wc.alloc (.cells #[.slice (some ⟨g5, o5, none⟩) l.length m2] 101)) hoL8 HLB.out) (Q := fun g => sx + 1 ≤ g ∧ (Value.slice Av k cq9).ownBlock ≠ some g) (fun g hg _ => by
                  have h1 := own_ge hoL g hg
                  exact ⟨by omega, fun e => by have := HVLT.out g e; omega⟩)
                obtain ⟨cs, g1, g2', g3⟩ := hoS8
                have g2 : (wc.alloc (.cells #[.slice (some ⟨g5, o5, none⟩) l.length m2] 101)).ownsRow (sx + 1) 101 1 (.slice Av k cq9) S.length cs.flatten := g2'
                have hge2 := own_ge g2
                have HL1 : Hid (S.length + 1 ≤ 1000000) := Lib.hid (by have := HSL.out; omega)
                have hB2 : sx + 1 ≤ (wc.alloc (.cells #[.slice (some ⟨g5, o5, none⟩) l.length m2] 101)).heap.size := hS8.lt
                obtain ⟨s0, s1, s2⟩ := hS7.c3
                obtain ⟨u0, u1, u2, u3⟩ := hF.c4
                clear g2' hX hoL hoL8 hF hbr hbX hS7
                go_wp2_with (at_builtin; go_must (refine list_append_rw kindSU rfl (.tmp 108) (.tmp 110) rfl (sx + 1) _ _ _ rfl g2 _ 1 _ [.slice (some ⟨g5, o5, none⟩) l.length m2] rfl rfl hrwX (by simp) (by simp [Value.oneCell']) HL1.out (by omega) hB2 ?_; intro v' w9 ho4 hg4 hgr4; have H4 := OwnSts.snoc g1 g3 hel ho4 hg4 hgr4; obtain ⟨A4, cv4, hv4, _⟩ := H4.sts; rw [show (S ++ [l]).length = k + 1 by simp [HSL.out]] at hv4; subst hv4; have hkk : Ks (fun g => sx + 1 ≤ g) _ w9 := Ks.of_grown hg4 (fun g e => hge2 g e); have hD9 := hD8.ks hkk (by omega); have hS9 := hS8.ks hkk (by omega); have hR9 := hR8.ks hkk (by omega); have hZ9 := hZ8.ks hkk (by omega); have hF9 : Blk w9 fb (scs a n m p7 0 q7) 48 := hF8.ks (Ks.of_grown (S := fun g => (Value.slice Av k cq9).ownBlock = some g) hg4 (fun g e => e)) (fun e => by have := HVLT.out fb e; omega); have hbd9 := hkk.below hbd8 (Nat.le_refl _) (fun g hg => by omega); have HEND := Lib.hid (RSL.next (n := n) (z := z) (N := K) (p2 := p2) (c2 := c2) (q2 := q2) (c' := 0) (q' := q7) (pk := pk) (ck := 0) (qk := qk) (a := a) (m := m) hD9 hS9 hR9 hZ9 H4 HSL.out HLE.out hl8 HSB.out HLB.out hbd9 HP7.out.1 HP7.out.2 HNEXT.out (by omega) (by omega)); obtain ⟨d0, d1, d2, d3⟩ := hD9.c4; obtain ⟨f0, f1, f2, f3⟩ := hD9.f4; obtain ⟨y0, y1, y2, y3⟩ := hF9.c4; have i2 := hS9.free 2; obtain ⟨j0, j1, j2⟩ := hS9.c3; clear hD9 hS9 hR9 hZ9 hF9 hbd9 H4 ho4 hg4 hgr4 hkk g1 g2 g3 hel hrwX hD8 hF8 hS8 hR8 hZ8 hbd8 hge2 hB2 s0 s1 s2 u0 u1 u2 u3))
                go_roundw
                case rel => exact ⟨k + 1, _, _, p7, _, _, by omega, by go_num, HEND⟩
                case measure => simp [intOf]; omega
              · go_wp2_with fail
                refine (rfail_any _ _ _ _ _ _ _ _ _).mono ?_
                rintro e w9 ⟨c9, q9, rfl, hb9, hfs⟩
                have HSTL := Lib.hid (HS5.out.bind (f := fun m p1 => (rg z m.toNat p1).bind [] fun l p2 => if 4294967296 ≤ l.getD (l.length - 1) 0 then ([], 0, 3, p1) else if tw S l then ([], 0, 13, p1) else (l, p2, 0, 0)) (HS7.out.bind (f := fun l p2 => if 4294967296 ≤ l.getD (l.length - 1) 0 then ([], 0, 3, p5) else if tw S l then ([], 0, 13, p5) else (l, p2, 0, 0)) (rstl_fin (c' := c9) (q' := q9) HLN.out HP7.out.1 HP7.out.2 (.inr (.inl ⟨rfl, by rw [← HY.out]; omega, HTV.out.symm, hfs⟩)))))
                have HNEXT : Hid (SsSt n z K p2 c2 q2 (k + 1) (S ++ [l]) p7 (c9) (q9)) := Lib.hid (HST.out.next hlt HSTL.out (fun hc => by
                  have h1 := HSTL.out
                  rw [if_pos hc, hc] at h1
                  exact stl_tw h1 HZL.out hp0 hp1 HBY.out))
                clear hfs f0 f1 f2 f3 i0 i1 i2 i3 hE
                have hF9 := hF.below hb9
                have hbr9 := hbr.trans (hb9.mono hbr.size)
                have hoL9 : OwnU w9 b7 (.slice (some ⟨g5, o5, none⟩) l.length m2) l := own_below hoL hb9
                have hX9 := set4 hF9 (.slice a n m) (.int .i64 p7) (.int .i64 c9) (.int .i64 q9)
                have hoL0 : OwnU _ b7 (.slice (some ⟨g5, o5, none⟩) l.length m2) l := own_kp hoL9 hX9.2 (own_ne_blk hoL9 hF9 (by decide))
                have hbr0 := set4_below hbr9 (g := fb) (by omega) (.slice a n m) (.int .i64 p7) (.int .i64 c9) (.int .i64 q9)
                obtain ⟨f0, f1, f2, f3⟩ := hF9.c4
                obtain ⟨l0, l1, l2, l3⟩ := hF9.f4
                have hF0 := hX9.1
                clear hF hbr hoL hF9 hbr9 hoL9 hX9 hb9
                go_upto_region 17 with (fail)
                clear f0 f1 f2 f3 l0 l1 l2 l3
                generalize (((w9.setCell ⟨fb, 0, none⟩ (.slice a n m)).setCell ⟨fb, 1, none⟩ (.int .i64 p7)).setCell ⟨fb, 2, none⟩ (.int .i64 c9)).setCell ⟨fb, 3, none⟩ (.int .i64 q9) = wc at *
                have hF := hF0
                have hbr := hbr0
                have hoL := hoL0
                clear hF0 hbr0 hoL0
                have hX := below_one wc (.cells #[.slice (some ⟨g5, o5, none⟩) l.length m2] 101)
                have hrwX := rw_new wc [.slice (some ⟨g5, o5, none⟩) l.length m2] 101
                have hoL8 := own_below hoL hX
                have hbX := hbr.trans (hX.mono hbr.size)
                have hoS8 := HO.out.below hbX
                have hD8 := HD.out.below hbX
                have hS7 := HS8.out.below hbr
                have hS8 := HS8.out.below hbX
                have hR8 := HR8.out.below hbX
                have hZ8 := HZ8.out.below hbX
                have hF8 := hF.below hX
                have hbd8 := HBD.out.trans (hbX.mono HBD.out.size)
                have hel := (SlE U64E).mono (OwnU.el (w := wc.alloc (.cells #[.slice (some ⟨g5, o5, none⟩) l.length m2] 101)) hoL8 HLB.out) (Q := fun g => sx + 1 ≤ g ∧ (Value.slice Av k cq9).ownBlock ≠ some g) (fun g hg _ => by
                  have h1 := own_ge hoL g hg
                  exact ⟨by omega, fun e => by have := HVLT.out g e; omega⟩)
                obtain ⟨cs, g1, g2', g3⟩ := hoS8
                have g2 : (wc.alloc (.cells #[.slice (some ⟨g5, o5, none⟩) l.length m2] 101)).ownsRow (sx + 1) 101 1 (.slice Av k cq9) S.length cs.flatten := g2'
                have hge2 := own_ge g2
                have HL1 : Hid (S.length + 1 ≤ 1000000) := Lib.hid (by have := HSL.out; omega)
                have hB2 : sx + 1 ≤ (wc.alloc (.cells #[.slice (some ⟨g5, o5, none⟩) l.length m2] 101)).heap.size := hS8.lt
                obtain ⟨s0, s1, s2⟩ := hS7.c3
                obtain ⟨u0, u1, u2, u3⟩ := hF.c4
                clear g2' hX hoL hoL8 hF hbr hbX hS7
                go_wp2_with (at_builtin; go_must (refine list_append_rw kindSU rfl (.tmp 108) (.tmp 110) rfl (sx + 1) _ _ _ rfl g2 _ 1 _ [.slice (some ⟨g5, o5, none⟩) l.length m2] rfl rfl hrwX (by simp) (by simp [Value.oneCell']) HL1.out (by omega) hB2 ?_; intro v' w9 ho4 hg4 hgr4; have H4 := OwnSts.snoc g1 g3 hel ho4 hg4 hgr4; obtain ⟨A4, cv4, hv4, _⟩ := H4.sts; rw [show (S ++ [l]).length = k + 1 by simp [HSL.out]] at hv4; subst hv4; have hkk : Ks (fun g => sx + 1 ≤ g) _ w9 := Ks.of_grown hg4 (fun g e => hge2 g e); have hD9 := hD8.ks hkk (by omega); have hS9 := hS8.ks hkk (by omega); have hR9 := hR8.ks hkk (by omega); have hZ9 := hZ8.ks hkk (by omega); have hF9 : Blk w9 fb (scs a n m p7 c9 q9) 48 := hF8.ks (Ks.of_grown (S := fun g => (Value.slice Av k cq9).ownBlock = some g) hg4 (fun g e => e)) (fun e => by have := HVLT.out fb e; omega); have hbd9 := hkk.below hbd8 (Nat.le_refl _) (fun g hg => by omega); have HEND := Lib.hid (RSL.next (n := n) (z := z) (N := K) (p2 := p2) (c2 := c2) (q2 := q2) (c' := c9) (q' := q9) (pk := pk) (ck := 0) (qk := qk) (a := a) (m := m) hD9 hS9 hR9 hZ9 H4 HSL.out HLE.out hl8 HSB.out HLB.out hbd9 HP7.out.1 HP7.out.2 HNEXT.out (by omega) (by omega)); obtain ⟨d0, d1, d2, d3⟩ := hD9.c4; obtain ⟨f0, f1, f2, f3⟩ := hD9.f4; obtain ⟨y0, y1, y2, y3⟩ := hF9.c4; have i2 := hS9.free 2; obtain ⟨j0, j1, j2⟩ := hS9.c3; clear hD9 hS9 hR9 hZ9 hF9 hbd9 H4 ho4 hg4 hgr4 hkk g1 g2 g3 hel hrwX hD8 hF8 hS8 hR8 hZ8 hbd8 hge2 hB2 s0 s1 s2 u0 u1 u2 u3))
                go_roundw
                case rel => exact ⟨k + 1, _, _, p7, _, _, by omega, by go_num, HEND⟩
                case measure => simp [intOf]; omega
          · have hcb7 : (c7 == 0) = false := by simpa using hc7
            have HSTL := Lib.hid (HS5.out.bind (f := fun m p1 => (rg z m.toNat p1).bind [] fun l p2 => if 4294967296 ≤ l.getD (l.length - 1) 0 then ([], 0, 3, p1) else if tw S l then ([], 0, 13, p1) else (l, p2, 0, 0)) (HS7.out.bind (f := fun l p2 => if 4294967296 ≤ l.getD (l.length - 1) 0 then ([], 0, 3, p5) else if tw S l then ([], 0, 13, p5) else (l, p2, 0, 0)) (rstl_fin (c' := c7) (q' := q7) HLN.out HP7.out.1 HP7.out.2 (.inr (.inr (.inr ⟨hc7, rfl, rfl⟩))))))
            have HNEXT : Hid (SsSt n z K p2 c2 q2 (k + 1) (S ++ [l]) p7 (c7) (q7)) := Lib.hid (HST.out.next hlt HSTL.out (fun hc => by
              have h1 := HSTL.out
              rw [if_pos hc, hc] at h1
              exact stl_tw h1 HZL.out hp0 hp1 HBY.out))
            clear hE hc7
            have hX := below_one wc (.cells #[.slice A2 l.length m2] 101)
            have hrwX := rw_new wc [.slice A2 l.length m2] 101
            have hoL8 := own_below hoL hX
            have hbX := hbr.trans (hX.mono hbr.size)
            have hoS8 := HO.out.below hbX
            have hD8 := HD.out.below hbX
            have hS7 := HS8.out.below hbr
            have hS8 := HS8.out.below hbX
            have hR8 := HR8.out.below hbX
            have hZ8 := HZ8.out.below hbX
            have hF8 := hF.below hX
            have hbd8 := HBD.out.trans (hbX.mono HBD.out.size)
            have hel := (SlE U64E).mono (OwnU.el (w := wc.alloc (.cells #[.slice A2 l.length m2] 101)) hoL8 HLB.out) (Q := fun g => sx + 1 ≤ g ∧ (Value.slice Av k cq9).ownBlock ≠ some g) (fun g hg _ => by
              have h1 := own_ge hoL g hg
              exact ⟨by omega, fun e => by have := HVLT.out g e; omega⟩)
            obtain ⟨cs, g1, g2', g3⟩ := hoS8
            have g2 : (wc.alloc (.cells #[.slice A2 l.length m2] 101)).ownsRow (sx + 1) 101 1 (.slice Av k cq9) S.length cs.flatten := g2'
            have hge2 := own_ge g2
            have HL1 : Hid (S.length + 1 ≤ 1000000) := Lib.hid (by have := HSL.out; omega)
            have hB2 : sx + 1 ≤ (wc.alloc (.cells #[.slice A2 l.length m2] 101)).heap.size := hS8.lt
            obtain ⟨s0, s1, s2⟩ := hS7.c3
            obtain ⟨u0, u1, u2, u3⟩ := hF.c4
            clear g2' hX hoL hoL8 hF hbr hbX hS7
            go_wp2_with (at_builtin; go_must (refine list_append_rw kindSU rfl (.tmp 108) (.tmp 110) rfl (sx + 1) _ _ _ rfl g2 _ 1 _ [.slice A2 l.length m2] rfl rfl hrwX (by simp) (by simp [Value.oneCell']) HL1.out (by omega) hB2 ?_; intro v' w9 ho4 hg4 hgr4; have H4 := OwnSts.snoc g1 g3 hel ho4 hg4 hgr4; obtain ⟨A4, cv4, hv4, _⟩ := H4.sts; rw [show (S ++ [l]).length = k + 1 by simp [HSL.out]] at hv4; subst hv4; have hkk : Ks (fun g => sx + 1 ≤ g) _ w9 := Ks.of_grown hg4 (fun g e => hge2 g e); have hD9 := hD8.ks hkk (by omega); have hS9 := hS8.ks hkk (by omega); have hR9 := hR8.ks hkk (by omega); have hZ9 := hZ8.ks hkk (by omega); have hF9 : Blk w9 fb (scs a n m p7 c7 q7) 48 := hF8.ks (Ks.of_grown (S := fun g => (Value.slice Av k cq9).ownBlock = some g) hg4 (fun g e => e)) (fun e => by have := HVLT.out fb e; omega); have hbd9 := hkk.below hbd8 (Nat.le_refl _) (fun g hg => by omega); have HEND := Lib.hid (RSL.next (n := n) (z := z) (N := K) (p2 := p2) (c2 := c2) (q2 := q2) (c' := c7) (q' := q7) (pk := pk) (ck := 0) (qk := qk) (a := a) (m := m) hD9 hS9 hR9 hZ9 H4 HSL.out HLE.out hl8 HSB.out HLB.out hbd9 HP7.out.1 HP7.out.2 HNEXT.out (by omega) (by omega)); obtain ⟨d0, d1, d2, d3⟩ := hD9.c4; obtain ⟨f0, f1, f2, f3⟩ := hD9.f4; obtain ⟨y0, y1, y2, y3⟩ := hF9.c4; have i2 := hS9.free 2; obtain ⟨j0, j1, j2⟩ := hS9.c3; clear hD9 hS9 hR9 hZ9 hF9 hbd9 H4 ho4 hg4 hgr4 hkk g1 g2 g3 hel hrwX hD8 hF8 hS8 hR8 hZ8 hbd8 hge2 hB2 s0 s1 s2 u0 u1 u2 u3))
            go_roundw
            case rel => exact ⟨k + 1, _, _, p7, _, _, by omega, by go_num, HEND⟩
            case measure => simp [intOf]; omega
        · have hcb : (ck == 0) = false := by simpa using hck
          have hcb' : (ck != 0) = true := by simpa using hck
          have HF := Lib.hid (str_st HT.out HS4.out (hst.fin (.inr hck) hp0 hp1))
          have HFZ : Hid (St stp0 n (str z f p) p c q stp0 pk ck qk) := Lib.hid (by have := HF.out; rwa [if_neg hck] at this)
          clear hck HF hsb hst hle hSl hcv hnil hsts ho
          obtain ⟨r0, r1, r2, r3⟩ := hR.c4
          obtain ⟨g0, g1, g2, g3⟩ := hR.f4
          obtain ⟨s0, s1, s2⟩ := hZ.c3
          have k0 := hZ.free 0
          have k1 := hZ.free 1
          have k2 := hZ.free 2
          clear hR hZ
          go_wp2
          refine bodyPost_ret (by simp [results, Try.results58, go_sem, r0, r1, r2, r3, s0, s1, s2]) rfl (RStPost.zero ?_ HFZ.out)
          iterate 7 (refine Below.setCell ?_ (by first | (simp; done) | (simp; omega)) _)
          exact hbd
      · obtain rfl : k = K := by omega
        have HF := Lib.hid (str_st HT.out HS4.out (hst.fin (.inl rfl) hp0 hp1))
        by_cases hck : ck = 0
        · have hcb' : (ck != 0) = false := by simpa using hck
          have HSTS := Lib.hid hsts
          have HNIL := Lib.hid hnil
          have HFY : Hid (St stp0 n (str z f p) p c q (f, t, S) pk ck qk) := Lib.hid (by have := HF.out; rwa [if_pos hck] at this)
          clear hck HF hsb hst hle hSl hnil hsts ho
          obtain ⟨r0, r1, r2, r3⟩ := hR.c4
          obtain ⟨g0, g1, g2, g3⟩ := hR.f4
          obtain ⟨s0, s1, s2⟩ := hZ.c3
          have k0 := hZ.free 0
          have k1 := hZ.free 1
          have k2 := hZ.free 2
          obtain ⟨t0, t1, t2⟩ := hS.c3
          clear hD hS hR hZ
          go_wp2
          go_region
          all_goals (go_wp2; refine bodyPost_ret (v := .tuple #[cv (.slice a n m) pk ck qk, stagg f t Av k cq9]) (by simp [results, Try.results58, go_sem, r0, r1, r2, r3, s0, s1, s2]) rfl ⟨f, t, Av, k, cq9, S, pk, ck, qk, rfl, ?_, ?_, hcv, HNIL.out, ⟨f0, by omega⟩, HTB.out, HSB.out, HLE.out, by omega, HFY.out⟩)
          all_goals first | ((try refine Below.drew ?_); (iterate 7 (refine Below.setCell ?_ (by first | (simp; done) | (simp; omega)) _)); exact hbd) | skip
          all_goals (refine Sts.mono (Sts.keep HSTS.out (fun g hg hl => ?_)) (fun g hg _ => by omega))
          all_goals exact heap7 (by omega) (by omega) _ _ _ _ _ _ _
        · have hcb' : (ck != 0) = true := by simpa using hck
          have HFZ : Hid (St stp0 n (str z f p) p c q stp0 pk ck qk) := Lib.hid (by have := HF.out; rwa [if_neg hck] at this)
          clear hck HF hsb hst hle hSl hcv hnil hsts ho
          obtain ⟨r0, r1, r2, r3⟩ := hR.c4
          obtain ⟨g0, g1, g2, g3⟩ := hR.f4
          obtain ⟨s0, s1, s2⟩ := hZ.c3
          have k0 := hZ.free 0
          have k1 := hZ.free 1
          have k2 := hZ.free 2
          clear hR hZ
          go_wp2
          refine bodyPost_ret (by simp [results, Try.results58, go_sem, r0, r1, r2, r3, s0, s1, s2]) rfl (RStPost.zero ?_ HFZ.out)
          iterate 7 (refine Below.setCell ?_ (by first | (simp; done) | (simp; omega)) _)
          exact hbd
  · have hcb : (c1 == 0) = false := by simpa using hc
    have hxz := hxn hc
    clear hx hxn hc
    subst hxz
    have e5 : IntKind.u64.wrap f = f := IntWalk.u64_in _ (by omega)
    have e6 : IntKind.u64.wrap (f + 1) = t := by simpa using e3'
    go_wp2_with fail
    generalize w2.alloc (.cells (stc f t none 0 0) 60) = w3 at *
    generalize w2.heap.size = sx at *
    refine (rmany_any a n m z p1 c1 q1 8 _ (HZ.out.below hbd) p10 p11 hm (by omega) HBY.out (by omega)).mono ?_
    rintro e w4 ⟨K, p2, c2, q2, rfl, hb4, hs4⟩
    obtain ⟨n0, n8, _⟩ := mny_bd hs4 HZL.out p10 p11 HBY.out
    have hK8 : K ≤ 8 := by omega
    obtain ⟨K, rfl⟩ := Int.eq_ofNat_of_zero_le n0
    have HS4 := Lib.hid hs4
    have hpl4 := hs4.place
    replace hD := hD.below hb4
    replace hR := hR.below hb4
    replace hZ := hZ.below hb4
    replace hS := hS.below hb4
    replace hbd := hbd.trans (hb4.mono hbd.size)
    clear hs4 hb4 d0 d1 d2 d3 n0 n8 e1 e2 e3' hcb
    try clear e5 e6
    obtain ⟨d0, d1, d2, d3⟩ := hD.c4
    obtain ⟨f0', f1', f2', f3'⟩ := hD.f4
    obtain ⟨z1, z2⟩ := set4 hD (.slice a n m) (.int .i64 p2) (.int .i64 c2) (.int .i64 q2)
    have H0 : Hid (RSL a n m z f t w d sx K p2 c2 q2 0 (.slice none 0 0) [] p2 c2 q2 ((((w4.setCell ⟨d, 0, none⟩ (.slice a n m)).setCell ⟨d, 1, none⟩ (.int .i64 p2)).setCell ⟨d, 2, none⟩ (.int .i64 c2)).setCell ⟨d, 3, none⟩ (.int .i64 q2))) := Lib.hid ⟨z1, blk_kp hS z2 (by omega), blk_kp hR z2 (by omega), blk_kp hZ z2 (by omega), OwnSts.nil _ _, rfl, (by simp), (fun l h => by simp at h), Kp.below hbd (Nat.le_refl _) z2 (by omega), hpl4.1, hpl4.2, SsSt.start hpl4.1 hpl4.2⟩
    clear hD hS hR hZ hbd z1 z2
    go_wp2
    clear d0 d1 d2 d3 f0' f1' f2' f3'
    go_loopw [10] (fun i wr => ∃ (k : Nat) (v : Value) (S : List (List Int)) (pk ck qk : Int), k ≤ K ∧ i = .int .i64 k ∧ Hid (RSL a n m z f t w d sx K p2 c2 q2 k v S pk ck qk wr)) (fun i _ => K - (intOf i).toNat)
    case atStart => exact ⟨0, _, _, _, _, _, by omega, rfl, H0⟩
    case round =>
      clear H0
      obtain ⟨k, v, S, pk, ck, qk, hk, rfl, HR0⟩ := hrel
      obtain ⟨hD, hS, hR, hZ, ho, hSl, hle, hsb, hbd, hp0, hp1, hst⟩ := HR0.out
      have HSL := Lib.hid hSl
      have HLE := Lib.hid hle
      have HSB := Lib.hid hsb
      have HST := Lib.hid hst
      obtain ⟨Av, cq9, rfl, hcv, hnil, hsts⟩ := ho.sts
      rw [hSl] at ho hsts hcv hS
      obtain ⟨d0, d1, d2, d3⟩ := hD.c4
      clear HR0
      by_cases hlt : k < K
      · have e4 : (k : Int) < K := by omega
        by_cases hck : ck = 0
        · subst hck
          have HVLT := Lib.hid ho.lt
          clear hsb hst hle hSl hcv hnil
          go_wp2_with fail
          refine (rmany_any a n m z pk 0 qk 8 wr (HZ.out.below hbd) hp0 hp1 hm (by omega) HBY.out (by omega)).mono ?_
          rintro e w5 ⟨M, p5, c5, q5, rfl, hb5, hs5⟩
          obtain ⟨m0, m8, mp⟩ := mny_bd hs5 HZL.out hp0 hp1 HBY.out
          obtain ⟨p50, p51⟩ := hs5.place
          have HMP := Lib.hid mp
          have HS5 : Hid (St 0 n (mny z 8 pk) pk 0 qk M p5 c5 q5) := Lib.hid hs5
          have hE := Blk.new w5 (scs a n m p5 c5 q5) 48
          have hbr := hb5.trans ((below_one w5 (.cells (scs a n m p5 c5 q5) 48)).mono hb5.size)
          have hwr5 : wr.heap.size ≤ w5.heap.size := hb5.size
          have hsz6 : w5.heap.size < (w5.alloc (.cells (scs a n m p5 c5 q5) 48)).heap.size := by simp
          have hsxw : sx < wr.heap.size := hS.lt
          have HD := Lib.hid hD
          have HS8 := Lib.hid hS
          have HR8 := Lib.hid hR
          have HZ8 := Lib.hid hZ
          have HO := Lib.hid ho
          have HSTS := Lib.hid hsts
          have HBD := Lib.hid hbd
          clear hs5 hb5 d0 d1 d2 d3 mp hD hS hR hZ ho hsts hbd
          go_upto_region 12 with (fail)
          generalize w5.alloc (.cells (scs a n m p5 c5 q5) 48) = w6 at *
          generalize w5.heap.size = eb at *
          obtain ⟨x0, x1, x2, x3⟩ := hE.c4
          go_wp2_with fail
          refine (rrread_any a n m z p5 c5 q5 M w6 (HZ.out.below (HBD.out.trans (hbr.mono HBD.out.size))) p50 p51 hm hn HBY.out).mono ?_
          rintro e w7 ⟨v7, l, p7, c7, q7, rfl, hoL, hb7, hs7, hlb⟩
          have hl8' := rg_len hs7 HZL.out p50 p51 HBY.out
          have HS7 : Hid (St [] n (rg z M.toNat p5) p5 c5 q5 l p7 c7 q7) := Lib.hid hs7.st
          have HP7 := Lib.hid hs7.st.place
          have HLN : Hid (c7 ≠ 0 → l = []) := Lib.hid fun hc => hs7.nil hc
          have HCC : Hid (c7 = 0 → 1 ≤ l.length) := Lib.hid fun hc => by
            have e1 := (hl8'.2 hc).1
            have g1 := hs7.st
            rw [hc] at g1
            have := HMP.out (St.good g1).1
            omega
          have hl8 : l.length ≤ 8 := by have := hl8'.1; omega
          have HLB := Lib.hid hlb
          obtain ⟨A2, m2, rfl⟩ := hoL.slice
          have hF := Blk.new w7 (scs a n m p7 c7 q7) 48
          have hbF := hb7.trans ((below_one w7 (.cells (scs a n m p7 c7 q7) 48)).mono hb7.size)
          have hw7 : w6.heap.size ≤ w7.heap.size := hb7.size
          have hsz8 : w7.heap.size < (w7.alloc (.cells (scs a n m p7 c7 q7) 48)).heap.size := by simp
          replace hE := hE.below hbF
          replace hbr := hbr.trans (hbF.mono hbr.size)
          replace hoL : OwnU _ _ (.slice A2 l.length m2) l := own_below hoL (below_one w7 (.cells (scs a n m p7 c7 q7) 48))
          clear hs7 hb7 hbF hlb hl8' x0 x1 x2 x3 m0 m8
          go_upto_region 13 with (fail)
          generalize w7.alloc (.cells (scs a n m p7 c7 q7) 48) = wc at *
          generalize w7.heap.size = fb at *
          generalize w6.heap.size = b7 at *
          have e5 : IntKind.i64.wrap ((k : Int) + 1) = ((k + 1 : Nat) : Int) := IntWalk.i64_in _ (by omega)
          have hdfb : d < fb := by omega
          have hsfb : sx < fb := by omega
          by_cases hc7 : c7 = 0
          · subst hc7
            have h1l := HCC.out rfl
            obtain ⟨_, _, _, hus⟩ := OwnU.us (w := wc) (z := l) hoL
            obtain ⟨g5, o5, rfl, hg5, hc5⟩ := hus.cells (by omega)
            have y9 := hc5 wc (Below.refl _ _) (l.length - 1) (by omega)
            have e6 : IntKind.i64.wrap ((l.length : Int) - 1) = ((l.length - 1 : Nat) : Int) := by rw [IntWalk.i64_in _ (by omega)]; omega
            have e7 : ((l.length - 1 : Nat) : Int) < (l.length : Int) := by omega
            obtain ⟨y, hy⟩ : ∃ y, y = l.getD (l.length - 1) 0 := ⟨_, rfl⟩
            rw [← hy] at y9
            have HY := Lib.hid hy
            have HUS := Lib.hid hus
            clear hy hc5 hus
            obtain ⟨f0, f1, f2, f3⟩ := hF.c4
            obtain ⟨i0, i1, i2, i3⟩ := hE.c4
            by_cases hyb : 4294967296 ≤ y
            · go_wp2_with fail
              refine (rfail_any _ _ _ _ _ _ _ _ _).mono ?_
              rintro e w9 ⟨c9, q9, rfl, hb9, hfs⟩
              have HSTL := Lib.hid (HS5.out.bind (f := fun m p1 => (rg z m.toNat p1).bind [] fun l p2 => if 4294967296 ≤ l.getD (l.length - 1) 0 then ([], 0, 3, p1) else if tw S l then ([], 0, 13, p1) else (l, p2, 0, 0)) (HS7.out.bind (f := fun l p2 => if 4294967296 ≤ l.getD (l.length - 1) 0 then ([], 0, 3, p5) else if tw S l then ([], 0, 13, p5) else (l, p2, 0, 0)) (rstl_fin (c' := c9) (q' := q9) HLN.out HP7.out.1 HP7.out.2 (.inl ⟨rfl, by rw [← HY.out]; omega, hfs⟩))))
              have HNEXT : Hid (SsSt n z K p2 c2 q2 (k + 1) (S ++ [l]) p7 (c9) (q9)) := Lib.hid (HST.out.next hlt HSTL.out (fun hc => by
                have h1 := HSTL.out
                rw [if_pos hc, hc] at h1
                exact stl_tw h1 HZL.out hp0 hp1 HBY.out))
              have hc9 : c9 ≠ 0 := by
                rcases hfs with ⟨_, rfl, _⟩ | ⟨h, rfl, _⟩
                · decide
                · exact absurd rfl h
              have hcb9 : (c9 == 0) = false := by simpa using hc9
              clear hfs hc9 f0 f1 f2 f3 i0 i1 i2 i3 y9 hE
              have hF9 := hF.below hb9
              have hbr9 := hbr.trans (hb9.mono hbr.size)
              have hoL9 : OwnU w9 b7 (.slice (some ⟨g5, o5, none⟩) l.length m2) l := own_below hoL hb9
              have hX9 := set4 hF9 (.slice a n m) (.int .i64 p7) (.int .i64 c9) (.int .i64 q9)
              have hoL0 : OwnU _ b7 (.slice (some ⟨g5, o5, none⟩) l.length m2) l := own_kp hoL9 hX9.2 (own_ne_blk hoL9 hF9 (by decide))
              have hbr0 := set4_below hbr9 (g := fb) (by omega) (.slice a n m) (.int .i64 p7) (.int .i64 c9) (.int .i64 q9)
              obtain ⟨f0, f1, f2, f3⟩ := hF9.c4
              obtain ⟨l0, l1, l2, l3⟩ := hF9.f4
              have hF0 := hX9.1
              clear hF hbr hoL hF9 hbr9 hoL9 hX9 hb9
              go_upto_region 15 with (fail)
              clear f0 f1 f2 f3 l0 l1 l2 l3
              generalize (((w9.setCell ⟨fb, 0, none⟩ (.slice a n m)).setCell ⟨fb, 1, none⟩ (.int .i64 p7)).setCell ⟨fb, 2, none⟩ (.int .i64 c9)).setCell ⟨fb, 3, none⟩ (.int .i64 q9) = wc at *
              have hF := hF0
              have hbr := hbr0
              have hoL := hoL0
              clear hF0 hbr0 hoL0
              have hX := below_one wc (.cells #[.slice (some ⟨g5, o5, none⟩) l.length m2] 101)
              have hrwX := rw_new wc [.slice (some ⟨g5, o5, none⟩) l.length m2] 101
              have hoL8 := own_below hoL hX
              have hbX := hbr.trans (hX.mono hbr.size)
              have hoS8 := HO.out.below hbX
              have hD8 := HD.out.below hbX
              have hS7 := HS8.out.below hbr
              have hS8 := HS8.out.below hbX
              have hR8 := HR8.out.below hbX
              have hZ8 := HZ8.out.below hbX
              have hF8 := hF.below hX
              have hbd8 := HBD.out.trans (hbX.mono HBD.out.size)
              have hel := (SlE U64E).mono (OwnU.el (w := wc.alloc (.cells #[.slice (some ⟨g5, o5, none⟩) l.length m2] 101)) hoL8 HLB.out) (Q := fun g => sx + 1 ≤ g ∧ (Value.slice Av k cq9).ownBlock ≠ some g) (fun g hg _ => by
                have h1 := own_ge hoL g hg
                exact ⟨by omega, fun e => by have := HVLT.out g e; omega⟩)
              obtain ⟨cs, g1, g2', g3⟩ := hoS8
              have g2 : (wc.alloc (.cells #[.slice (some ⟨g5, o5, none⟩) l.length m2] 101)).ownsRow (sx + 1) 101 1 (.slice Av k cq9) S.length cs.flatten := g2'
              have hge2 := own_ge g2
              have HL1 : Hid (S.length + 1 ≤ 1000000) := Lib.hid (by have := HSL.out; omega)
              have hB2 : sx + 1 ≤ (wc.alloc (.cells #[.slice (some ⟨g5, o5, none⟩) l.length m2] 101)).heap.size := hS8.lt
              obtain ⟨s0, s1, s2⟩ := hS7.c3
              obtain ⟨u0, u1, u2, u3⟩ := hF.c4
              clear g2' hX hoL hoL8 hF hbr hbX hS7
              go_wp2_with (at_builtin; go_must (refine list_append_rw kindSU rfl (.tmp 108) (.tmp 110) rfl (sx + 1) _ _ _ rfl g2 _ 1 _ [.slice (some ⟨g5, o5, none⟩) l.length m2] rfl rfl hrwX (by simp) (by simp [Value.oneCell']) HL1.out (by omega) hB2 ?_; intro v' w9 ho4 hg4 hgr4; have H4 := OwnSts.snoc g1 g3 hel ho4 hg4 hgr4; obtain ⟨A4, cv4, hv4, _⟩ := H4.sts; rw [show (S ++ [l]).length = k + 1 by simp [HSL.out]] at hv4; subst hv4; have hkk : Ks (fun g => sx + 1 ≤ g) _ w9 := Ks.of_grown hg4 (fun g e => hge2 g e); have hD9 := hD8.ks hkk (by omega); have hS9 := hS8.ks hkk (by omega); have hR9 := hR8.ks hkk (by omega); have hZ9 := hZ8.ks hkk (by omega); have hF9 : Blk w9 fb (scs a n m p7 c9 q9) 48 := hF8.ks (Ks.of_grown (S := fun g => (Value.slice Av k cq9).ownBlock = some g) hg4 (fun g e => e)) (fun e => by have := HVLT.out fb e; omega); have hbd9 := hkk.below hbd8 (Nat.le_refl _) (fun g hg => by omega); have HEND := Lib.hid (RSL.next (n := n) (z := z) (N := K) (p2 := p2) (c2 := c2) (q2 := q2) (c' := c9) (q' := q9) (pk := pk) (ck := 0) (qk := qk) (a := a) (m := m) hD9 hS9 hR9 hZ9 H4 HSL.out HLE.out hl8 HSB.out HLB.out hbd9 HP7.out.1 HP7.out.2 HNEXT.out (by omega) (by omega)); obtain ⟨d0, d1, d2, d3⟩ := hD9.c4; obtain ⟨f0, f1, f2, f3⟩ := hD9.f4; obtain ⟨y0, y1, y2, y3⟩ := hF9.c4; have i2 := hS9.free 2; obtain ⟨j0, j1, j2⟩ := hS9.c3; clear hD9 hS9 hR9 hZ9 hF9 hbd9 H4 ho4 hg4 hgr4 hkk g1 g2 g3 hel hrwX hD8 hF8 hS8 hR8 hZ8 hbd8 hge2 hB2 s0 s1 s2 u0 u1 u2 u3))
              go_roundw
              case rel => exact ⟨k + 1, _, _, p7, _, _, by omega, by go_num, HEND⟩
              case measure => simp [intOf]; omega
            · have hS7 := HS8.out.below hbr
              obtain ⟨s0, s1, s2⟩ := hS7.c3
              have HTW : Hid (tw (S.take k) l = tw S l) := Lib.hid (by rw [List.take_of_length_le (by have := HSL.out; omega)])
              have htcon := rtwice_any _ Av k cq9 S k (some ⟨g5, o5, none⟩) l.length m2 l wc (HSTS.out.below hbr) (Nat.le_refl _) (by omega) (fun x hx => by have := HLE.out x hx; omega) HUS.out (by omega)
              rw [HTW.out] at htcon
              unfold BPost at htcon
              obtain ⟨tv, htv⟩ : ∃ tv, tv = tw S l := ⟨_, rfl⟩
              rw [← htv] at htcon
              have HTV := Lib.hid htv
              clear htv hS7 HTW
              go_wp2_with fail
              refine htcon.mono ?_
              rintro e w8 ⟨rfl, hb8⟩
              replace hE := hE.below hb8
              replace hF := hF.below hb8
              replace hbr := hbr.trans (hb8.mono hbr.size)
              replace hoL : OwnU w8 b7 (.slice (some ⟨g5, o5, none⟩) l.length m2) l := own_below hoL hb8
              clear htcon hb8 s0 s1 s2 f0 f1 f2 f3 i0 i1 i2 i3 y9
              obtain ⟨f0, f1, f2, f3⟩ := hF.c4
              obtain ⟨i0, i1, i2, i3⟩ := hE.c4
              cases tv
              · have HSTL := Lib.hid (HS5.out.bind (f := fun m p1 => (rg z m.toNat p1).bind [] fun l p2 => if 4294967296 ≤ l.getD (l.length - 1) 0 then ([], 0, 3, p1) else if tw S l then ([], 0, 13, p1) else (l, p2, 0, 0)) (HS7.out.bind (f := fun l p2 => if 4294967296 ≤ l.getD (l.length - 1) 0 then ([], 0, 3, p5) else if tw S l then ([], 0, 13, p5) else (l, p2, 0, 0)) (rstl_fin (c' := 0) (q' := q7) HLN.out HP7.out.1 HP7.out.2 (.inr (.inr (.inl ⟨rfl, by rw [← HY.out]; omega, HTV.out.symm, rfl, rfl⟩))))))
                have HNEXT : Hid (SsSt n z K p2 c2 q2 (k + 1) (S ++ [l]) p7 (0) (q7)) := Lib.hid (HST.out.next hlt HSTL.out (fun hc => by
                  have h1 := HSTL.out
                  rw [if_pos hc, hc] at h1
                  exact stl_tw h1 HZL.out hp0 hp1 HBY.out))
                clear f0 f1 f2 f3 i0 i1 i2 i3 hE
                go_upto_region 17 with (fail)
                have hwc : ∃ wc, wc = w8 := ⟨_, rfl⟩
                obtain ⟨wc, hwc⟩ := hwc
                subst hwc
                have hX := below_one wc (.cells #[.slice (some ⟨g5, o5, none⟩) l.length m2] 101)
                have hrwX := rw_new wc [.slice (some ⟨g5, o5, none⟩) l.length m2] 101
                have hoL8 := own_below hoL hX
                have hbX := hbr.trans (hX.mono hbr.size)
                have hoS8 := HO.out.below hbX
                have hD8 := HD.out.below hbX
                have hS7 := HS8.out.below hbr
                have hS8 := HS8.out.below hbX
                have hR8 := HR8.out.below hbX
                have hZ8 := HZ8.out.below hbX
                have hF8 := hF.below hX
                have hbd8 := HBD.out.trans (hbX.mono HBD.out.size)
                have hel := (SlE U64E).mono (OwnU.el (w := wc.alloc (.cells #[.slice (some ⟨g5, o5, none⟩) l.length m2] 101)) hoL8 HLB.out) (Q := fun g => sx + 1 ≤ g ∧ (Value.slice Av k cq9).ownBlock ≠ some g) (fun g hg _ => by
                  have h1 := own_ge hoL g hg
                  exact ⟨by omega, fun e => by have := HVLT.out g e; omega⟩)
                obtain ⟨cs, g1, g2', g3⟩ := hoS8
                have g2 : (wc.alloc (.cells #[.slice (some ⟨g5, o5, none⟩) l.length m2] 101)).ownsRow (sx + 1) 101 1 (.slice Av k cq9) S.length cs.flatten := g2'
                have hge2 := own_ge g2
                have HL1 : Hid (S.length + 1 ≤ 1000000) := Lib.hid (by have := HSL.out; omega)
                have hB2 : sx + 1 ≤ (wc.alloc (.cells #[.slice (some ⟨g5, o5, none⟩) l.length m2] 101)).heap.size := hS8.lt
                obtain ⟨s0, s1, s2⟩ := hS7.c3
                obtain ⟨u0, u1, u2, u3⟩ := hF.c4
                clear g2' hX hoL hoL8 hF hbr hbX hS7
                go_wp2_with (at_builtin; go_must (refine list_append_rw kindSU rfl (.tmp 108) (.tmp 110) rfl (sx + 1) _ _ _ rfl g2 _ 1 _ [.slice (some ⟨g5, o5, none⟩) l.length m2] rfl rfl hrwX (by simp) (by simp [Value.oneCell']) HL1.out (by omega) hB2 ?_; intro v' w9 ho4 hg4 hgr4; have H4 := OwnSts.snoc g1 g3 hel ho4 hg4 hgr4; obtain ⟨A4, cv4, hv4, _⟩ := H4.sts; rw [show (S ++ [l]).length = k + 1 by simp [HSL.out]] at hv4; subst hv4; have hkk : Ks (fun g => sx + 1 ≤ g) _ w9 := Ks.of_grown hg4 (fun g e => hge2 g e); have hD9 := hD8.ks hkk (by omega); have hS9 := hS8.ks hkk (by omega); have hR9 := hR8.ks hkk (by omega); have hZ9 := hZ8.ks hkk (by omega); have hF9 : Blk w9 fb (scs a n m p7 0 q7) 48 := hF8.ks (Ks.of_grown (S := fun g => (Value.slice Av k cq9).ownBlock = some g) hg4 (fun g e => e)) (fun e => by have := HVLT.out fb e; omega); have hbd9 := hkk.below hbd8 (Nat.le_refl _) (fun g hg => by omega); have HEND := Lib.hid (RSL.next (n := n) (z := z) (N := K) (p2 := p2) (c2 := c2) (q2 := q2) (c' := 0) (q' := q7) (pk := pk) (ck := 0) (qk := qk) (a := a) (m := m) hD9 hS9 hR9 hZ9 H4 HSL.out HLE.out hl8 HSB.out HLB.out hbd9 HP7.out.1 HP7.out.2 HNEXT.out (by omega) (by omega)); obtain ⟨d0, d1, d2, d3⟩ := hD9.c4; obtain ⟨f0, f1, f2, f3⟩ := hD9.f4; obtain ⟨y0, y1, y2, y3⟩ := hF9.c4; have i2 := hS9.free 2; obtain ⟨j0, j1, j2⟩ := hS9.c3; clear hD9 hS9 hR9 hZ9 hF9 hbd9 H4 ho4 hg4 hgr4 hkk g1 g2 g3 hel hrwX hD8 hF8 hS8 hR8 hZ8 hbd8 hge2 hB2 s0 s1 s2 u0 u1 u2 u3))
                go_roundw
                case rel => exact ⟨k + 1, _, _, p7, _, _, by omega, by go_num, HEND⟩
                case measure => simp [intOf]; omega
              · go_wp2_with fail
                refine (rfail_any _ _ _ _ _ _ _ _ _).mono ?_
                rintro e w9 ⟨c9, q9, rfl, hb9, hfs⟩
                have HSTL := Lib.hid (HS5.out.bind (f := fun m p1 => (rg z m.toNat p1).bind [] fun l p2 => if 4294967296 ≤ l.getD (l.length - 1) 0 then ([], 0, 3, p1) else if tw S l then ([], 0, 13, p1) else (l, p2, 0, 0)) (HS7.out.bind (f := fun l p2 => if 4294967296 ≤ l.getD (l.length - 1) 0 then ([], 0, 3, p5) else if tw S l then ([], 0, 13, p5) else (l, p2, 0, 0)) (rstl_fin (c' := c9) (q' := q9) HLN.out HP7.out.1 HP7.out.2 (.inr (.inl ⟨rfl, by rw [← HY.out]; omega, HTV.out.symm, hfs⟩)))))
                have HNEXT : Hid (SsSt n z K p2 c2 q2 (k + 1) (S ++ [l]) p7 (c9) (q9)) := Lib.hid (HST.out.next hlt HSTL.out (fun hc => by
                  have h1 := HSTL.out
                  rw [if_pos hc, hc] at h1
                  exact stl_tw h1 HZL.out hp0 hp1 HBY.out))
                clear hfs f0 f1 f2 f3 i0 i1 i2 i3 hE
                have hF9 := hF.below hb9
                have hbr9 := hbr.trans (hb9.mono hbr.size)
                have hoL9 : OwnU w9 b7 (.slice (some ⟨g5, o5, none⟩) l.length m2) l := own_below hoL hb9
                have hX9 := set4 hF9 (.slice a n m) (.int .i64 p7) (.int .i64 c9) (.int .i64 q9)
                have hoL0 : OwnU _ b7 (.slice (some ⟨g5, o5, none⟩) l.length m2) l := own_kp hoL9 hX9.2 (own_ne_blk hoL9 hF9 (by decide))
                have hbr0 := set4_below hbr9 (g := fb) (by omega) (.slice a n m) (.int .i64 p7) (.int .i64 c9) (.int .i64 q9)
                obtain ⟨f0, f1, f2, f3⟩ := hF9.c4
                obtain ⟨l0, l1, l2, l3⟩ := hF9.f4
                have hF0 := hX9.1
                clear hF hbr hoL hF9 hbr9 hoL9 hX9 hb9
                go_upto_region 17 with (fail)
                clear f0 f1 f2 f3 l0 l1 l2 l3
                generalize (((w9.setCell ⟨fb, 0, none⟩ (.slice a n m)).setCell ⟨fb, 1, none⟩ (.int .i64 p7)).setCell ⟨fb, 2, none⟩ (.int .i64 c9)).setCell ⟨fb, 3, none⟩ (.int .i64 q9) = wc at *
                have hF := hF0
                have hbr := hbr0
                have hoL := hoL0
                clear hF0 hbr0 hoL0
                have hX := below_one wc (.cells #[.slice (some ⟨g5, o5, none⟩) l.length m2] 101)
                have hrwX := rw_new wc [.slice (some ⟨g5, o5, none⟩) l.length m2] 101
                have hoL8 := own_below hoL hX
                have hbX := hbr.trans (hX.mono hbr.size)
                have hoS8 := HO.out.below hbX
                have hD8 := HD.out.below hbX
                have hS7 := HS8.out.below hbr
                have hS8 := HS8.out.below hbX
                have hR8 := HR8.out.below hbX
                have hZ8 := HZ8.out.below hbX
                have hF8 := hF.below hX
                have hbd8 := HBD.out.trans (hbX.mono HBD.out.size)
                have hel := (SlE U64E).mono (OwnU.el (w := wc.alloc (.cells #[.slice (some ⟨g5, o5, none⟩) l.length m2] 101)) hoL8 HLB.out) (Q := fun g => sx + 1 ≤ g ∧ (Value.slice Av k cq9).ownBlock ≠ some g) (fun g hg _ => by
                  have h1 := own_ge hoL g hg
                  exact ⟨by omega, fun e => by have := HVLT.out g e; omega⟩)
                obtain ⟨cs, g1, g2', g3⟩ := hoS8
                have g2 : (wc.alloc (.cells #[.slice (some ⟨g5, o5, none⟩) l.length m2] 101)).ownsRow (sx + 1) 101 1 (.slice Av k cq9) S.length cs.flatten := g2'
                have hge2 := own_ge g2
                have HL1 : Hid (S.length + 1 ≤ 1000000) := Lib.hid (by have := HSL.out; omega)
                have hB2 : sx + 1 ≤ (wc.alloc (.cells #[.slice (some ⟨g5, o5, none⟩) l.length m2] 101)).heap.size := hS8.lt
                obtain ⟨s0, s1, s2⟩ := hS7.c3
                obtain ⟨u0, u1, u2, u3⟩ := hF.c4
                clear g2' hX hoL hoL8 hF hbr hbX hS7
                go_wp2_with (at_builtin; go_must (refine list_append_rw kindSU rfl (.tmp 108) (.tmp 110) rfl (sx + 1) _ _ _ rfl g2 _ 1 _ [.slice (some ⟨g5, o5, none⟩) l.length m2] rfl rfl hrwX (by simp) (by simp [Value.oneCell']) HL1.out (by omega) hB2 ?_; intro v' w9 ho4 hg4 hgr4; have H4 := OwnSts.snoc g1 g3 hel ho4 hg4 hgr4; obtain ⟨A4, cv4, hv4, _⟩ := H4.sts; rw [show (S ++ [l]).length = k + 1 by simp [HSL.out]] at hv4; subst hv4; have hkk : Ks (fun g => sx + 1 ≤ g) _ w9 := Ks.of_grown hg4 (fun g e => hge2 g e); have hD9 := hD8.ks hkk (by omega); have hS9 := hS8.ks hkk (by omega); have hR9 := hR8.ks hkk (by omega); have hZ9 := hZ8.ks hkk (by omega); have hF9 : Blk w9 fb (scs a n m p7 c9 q9) 48 := hF8.ks (Ks.of_grown (S := fun g => (Value.slice Av k cq9).ownBlock = some g) hg4 (fun g e => e)) (fun e => by have := HVLT.out fb e; omega); have hbd9 := hkk.below hbd8 (Nat.le_refl _) (fun g hg => by omega); have HEND := Lib.hid (RSL.next (n := n) (z := z) (N := K) (p2 := p2) (c2 := c2) (q2 := q2) (c' := c9) (q' := q9) (pk := pk) (ck := 0) (qk := qk) (a := a) (m := m) hD9 hS9 hR9 hZ9 H4 HSL.out HLE.out hl8 HSB.out HLB.out hbd9 HP7.out.1 HP7.out.2 HNEXT.out (by omega) (by omega)); obtain ⟨d0, d1, d2, d3⟩ := hD9.c4; obtain ⟨f0, f1, f2, f3⟩ := hD9.f4; obtain ⟨y0, y1, y2, y3⟩ := hF9.c4; have i2 := hS9.free 2; obtain ⟨j0, j1, j2⟩ := hS9.c3; clear hD9 hS9 hR9 hZ9 hF9 hbd9 H4 ho4 hg4 hgr4 hkk g1 g2 g3 hel hrwX hD8 hF8 hS8 hR8 hZ8 hbd8 hge2 hB2 s0 s1 s2 u0 u1 u2 u3))
                go_roundw
                case rel => exact ⟨k + 1, _, _, p7, _, _, by omega, by go_num, HEND⟩
                case measure => simp [intOf]; omega
          · have hcb7 : (c7 == 0) = false := by simpa using hc7
            have HSTL := Lib.hid (HS5.out.bind (f := fun m p1 => (rg z m.toNat p1).bind [] fun l p2 => if 4294967296 ≤ l.getD (l.length - 1) 0 then ([], 0, 3, p1) else if tw S l then ([], 0, 13, p1) else (l, p2, 0, 0)) (HS7.out.bind (f := fun l p2 => if 4294967296 ≤ l.getD (l.length - 1) 0 then ([], 0, 3, p5) else if tw S l then ([], 0, 13, p5) else (l, p2, 0, 0)) (rstl_fin (c' := c7) (q' := q7) HLN.out HP7.out.1 HP7.out.2 (.inr (.inr (.inr ⟨hc7, rfl, rfl⟩))))))
            have HNEXT : Hid (SsSt n z K p2 c2 q2 (k + 1) (S ++ [l]) p7 (c7) (q7)) := Lib.hid (HST.out.next hlt HSTL.out (fun hc => by
              have h1 := HSTL.out
              rw [if_pos hc, hc] at h1
              exact stl_tw h1 HZL.out hp0 hp1 HBY.out))
            clear hE hc7
            have hX := below_one wc (.cells #[.slice A2 l.length m2] 101)
            have hrwX := rw_new wc [.slice A2 l.length m2] 101
            have hoL8 := own_below hoL hX
            have hbX := hbr.trans (hX.mono hbr.size)
            have hoS8 := HO.out.below hbX
            have hD8 := HD.out.below hbX
            have hS7 := HS8.out.below hbr
            have hS8 := HS8.out.below hbX
            have hR8 := HR8.out.below hbX
            have hZ8 := HZ8.out.below hbX
            have hF8 := hF.below hX
            have hbd8 := HBD.out.trans (hbX.mono HBD.out.size)
            have hel := (SlE U64E).mono (OwnU.el (w := wc.alloc (.cells #[.slice A2 l.length m2] 101)) hoL8 HLB.out) (Q := fun g => sx + 1 ≤ g ∧ (Value.slice Av k cq9).ownBlock ≠ some g) (fun g hg _ => by
              have h1 := own_ge hoL g hg
              exact ⟨by omega, fun e => by have := HVLT.out g e; omega⟩)
            obtain ⟨cs, g1, g2', g3⟩ := hoS8
            have g2 : (wc.alloc (.cells #[.slice A2 l.length m2] 101)).ownsRow (sx + 1) 101 1 (.slice Av k cq9) S.length cs.flatten := g2'
            have hge2 := own_ge g2
            have HL1 : Hid (S.length + 1 ≤ 1000000) := Lib.hid (by have := HSL.out; omega)
            have hB2 : sx + 1 ≤ (wc.alloc (.cells #[.slice A2 l.length m2] 101)).heap.size := hS8.lt
            obtain ⟨s0, s1, s2⟩ := hS7.c3
            obtain ⟨u0, u1, u2, u3⟩ := hF.c4
            clear g2' hX hoL hoL8 hF hbr hbX hS7
            go_wp2_with (at_builtin; go_must (refine list_append_rw kindSU rfl (.tmp 108) (.tmp 110) rfl (sx + 1) _ _ _ rfl g2 _ 1 _ [.slice A2 l.length m2] rfl rfl hrwX (by simp) (by simp [Value.oneCell']) HL1.out (by omega) hB2 ?_; intro v' w9 ho4 hg4 hgr4; have H4 := OwnSts.snoc g1 g3 hel ho4 hg4 hgr4; obtain ⟨A4, cv4, hv4, _⟩ := H4.sts; rw [show (S ++ [l]).length = k + 1 by simp [HSL.out]] at hv4; subst hv4; have hkk : Ks (fun g => sx + 1 ≤ g) _ w9 := Ks.of_grown hg4 (fun g e => hge2 g e); have hD9 := hD8.ks hkk (by omega); have hS9 := hS8.ks hkk (by omega); have hR9 := hR8.ks hkk (by omega); have hZ9 := hZ8.ks hkk (by omega); have hF9 : Blk w9 fb (scs a n m p7 c7 q7) 48 := hF8.ks (Ks.of_grown (S := fun g => (Value.slice Av k cq9).ownBlock = some g) hg4 (fun g e => e)) (fun e => by have := HVLT.out fb e; omega); have hbd9 := hkk.below hbd8 (Nat.le_refl _) (fun g hg => by omega); have HEND := Lib.hid (RSL.next (n := n) (z := z) (N := K) (p2 := p2) (c2 := c2) (q2 := q2) (c' := c7) (q' := q7) (pk := pk) (ck := 0) (qk := qk) (a := a) (m := m) hD9 hS9 hR9 hZ9 H4 HSL.out HLE.out hl8 HSB.out HLB.out hbd9 HP7.out.1 HP7.out.2 HNEXT.out (by omega) (by omega)); obtain ⟨d0, d1, d2, d3⟩ := hD9.c4; obtain ⟨f0, f1, f2, f3⟩ := hD9.f4; obtain ⟨y0, y1, y2, y3⟩ := hF9.c4; have i2 := hS9.free 2; obtain ⟨j0, j1, j2⟩ := hS9.c3; clear hD9 hS9 hR9 hZ9 hF9 hbd9 H4 ho4 hg4 hgr4 hkk g1 g2 g3 hel hrwX hD8 hF8 hS8 hR8 hZ8 hbd8 hge2 hB2 s0 s1 s2 u0 u1 u2 u3))
            go_roundw
            case rel => exact ⟨k + 1, _, _, p7, _, _, by omega, by go_num, HEND⟩
            case measure => simp [intOf]; omega
        · have hcb : (ck == 0) = false := by simpa using hck
          have hcb' : (ck != 0) = true := by simpa using hck
          have HF := Lib.hid (str_st HT.out HS4.out (hst.fin (.inr hck) hp0 hp1))
          have HFZ : Hid (St stp0 n (str z f p) p c q stp0 pk ck qk) := Lib.hid (by have := HF.out; rwa [if_neg hck] at this)
          clear hck HF hsb hst hle hSl hcv hnil hsts ho
          obtain ⟨r0, r1, r2, r3⟩ := hR.c4
          obtain ⟨g0, g1, g2, g3⟩ := hR.f4
          obtain ⟨s0, s1, s2⟩ := hZ.c3
          have k0 := hZ.free 0
          have k1 := hZ.free 1
          have k2 := hZ.free 2
          clear hR hZ
          go_wp2
          refine bodyPost_ret (by simp [results, Try.results58, go_sem, r0, r1, r2, r3, s0, s1, s2]) rfl (RStPost.zero ?_ HFZ.out)
          iterate 7 (refine Below.setCell ?_ (by first | (simp; done) | (simp; omega)) _)
          exact hbd
      · obtain rfl : k = K := by omega
        have HF := Lib.hid (str_st HT.out HS4.out (hst.fin (.inl rfl) hp0 hp1))
        by_cases hck : ck = 0
        · have hcb' : (ck != 0) = false := by simpa using hck
          have HSTS := Lib.hid hsts
          have HNIL := Lib.hid hnil
          have HFY : Hid (St stp0 n (str z f p) p c q (f, t, S) pk ck qk) := Lib.hid (by have := HF.out; rwa [if_pos hck] at this)
          clear hck HF hsb hst hle hSl hnil hsts ho
          obtain ⟨r0, r1, r2, r3⟩ := hR.c4
          obtain ⟨g0, g1, g2, g3⟩ := hR.f4
          obtain ⟨s0, s1, s2⟩ := hZ.c3
          have k0 := hZ.free 0
          have k1 := hZ.free 1
          have k2 := hZ.free 2
          obtain ⟨t0, t1, t2⟩ := hS.c3
          clear hD hS hR hZ
          go_wp2
          go_region
          all_goals (go_wp2; refine bodyPost_ret (v := .tuple #[cv (.slice a n m) pk ck qk, stagg f t Av k cq9]) (by simp [results, Try.results58, go_sem, r0, r1, r2, r3, s0, s1, s2]) rfl ⟨f, t, Av, k, cq9, S, pk, ck, qk, rfl, ?_, ?_, hcv, HNIL.out, ⟨f0, by omega⟩, HTB.out, HSB.out, HLE.out, by omega, HFY.out⟩)
          all_goals first | ((try refine Below.drew ?_); (iterate 7 (refine Below.setCell ?_ (by first | (simp; done) | (simp; omega)) _)); exact hbd) | skip
          all_goals (refine Sts.mono (Sts.keep HSTS.out (fun g hg hl => ?_)) (fun g hg _ => by omega))
          all_goals exact heap7 (by omega) (by omega) _ _ _ _ _ _ _
        · have hcb' : (ck != 0) = true := by simpa using hck
          have HFZ : Hid (St stp0 n (str z f p) p c q stp0 pk ck qk) := Lib.hid (by have := HF.out; rwa [if_neg hck] at this)
          clear hck HF hsb hst hle hSl hcv hnil hsts ho
          obtain ⟨r0, r1, r2, r3⟩ := hR.c4
          obtain ⟨g0, g1, g2, g3⟩ := hR.f4
          obtain ⟨s0, s1, s2⟩ := hZ.c3
          have k0 := hZ.free 0
          have k1 := hZ.free 1
          have k2 := hZ.free 2
          clear hR hZ
          go_wp2
          refine bodyPost_ret (by simp [results, Try.results58, go_sem, r0, r1, r2, r3, s0, s1, s2]) rfl (RStPost.zero ?_ HFZ.out)
          iterate 7 (refine Below.setCell ?_ (by first | (simp; done) | (simp; omega)) _)
          exact hbd

theorem rread19_any (a : Option Addr) (n m : Nat) (z : List Int) (f p c q : Int) (w : World) (hz : Bs w a n z) (h0 : 0 ≤ p) (h1 : p ≤ n) (hm : n ≤ m) (hn : n ≤ 100000) (hby : ∀ x ∈ z, 0 ≤ x ∧ x < 256) (f0 : 0 ≤ f) :
    Calls Try.prog 58 #[cv (.slice a n m) p c q, .int .u64 f] w (RStPost (.slice a n m) n z f p c q w) := by
  by_cases hf : 4611686018427387904 < f
  · exact rread19_over a n m z f p c q w hz h0 h1 hm hn hf
  · exact rread19_in a n m z f p c q w hz h0 h1 hm hn hby f0 hf
end Go.Proofs.Ytghlediibhnloaa.Cur
