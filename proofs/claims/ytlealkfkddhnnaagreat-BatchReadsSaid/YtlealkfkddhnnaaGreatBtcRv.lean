/- As the seat's text, without what nothing here names. -/
import Derived.Test.YtlealkfkddhnnaaGreatBtcGv
import Derived.Test.YtlealkfkddhnnaaGreatK18v
import Derived.Test.YtlealkfkddhnnaaGreatBtcQv
import Derived.BigRegion
namespace Go.Proofs.YtlealkfkddhnnaaGreat.Cur
open Go.RowKit Mem
set_option linter.unusedVariables false
set_option maxRecDepth 100000
def RdS (w : World) (s : Value) (p c q : Int) (wr : World) : Prop :=
  Blk wr w.heap.size (cvs s p c q) 50 ∧ Blk wr (w.heap.size + 1) (cvs (.slice none 0 0) 0 0 0) 50 ∧ Blk wr (w.heap.size + 2) (btenc 0 0 none 0 0) 25 ∧ Below w.heap.size w wr
theorem RdS.start (w : World) (s : Value) (p c q : Int) : RdS w s p c q (((w.alloc (.cells (cvs s p c q) 50)).alloc (.cells (cvs (.slice none 0 0) 0 0 0) 50)).alloc (.cells (btenc 0 0 none 0 0) 25)) := by
  have h1 := Blk.new w (cvs s p c q) 50
  have h2 := Blk.new (w.alloc (.cells (cvs s p c q) 50)) (cvs (.slice none 0 0) 0 0 0) 50
  have h3 := Blk.new ((w.alloc (.cells (cvs s p c q) 50)).alloc (.cells (cvs (.slice none 0 0) 0 0 0) 50)) (btenc 0 0 none 0 0) 25
  rw [World.size_alloc] at h2
  rw [World.size_alloc, World.size_alloc] at h3
  have hb := below_two w (.cells (cvs s p c q) 50) (.cells (cvs (.slice none 0 0) 0 0 0) 50)
  exact ⟨(h1.alloc _).alloc _, h2.alloc _, h3, hb.alloc hb.size _⟩
theorem RdS.below {w : World} {s : Value} {p c q : Int} {wr w' : World} (h : RdS w s p c q wr) (hb : Below wr.heap.size wr w') : RdS w s p c q w' := ⟨h.1.below hb, h.2.1.below hb, h.2.2.1.below hb, h.2.2.2.trans (hb.mono h.2.2.2.size)⟩
theorem RdS.lt {w : World} {s : Value} {p c q : Int} {wr : World} (h : RdS w s p c q wr) : w.heap.size + 3 ≤ wr.heap.size := h.2.2.1.lt
theorem RdS.ks {S0 : Nat → Prop} {w : World} {s : Value} {p c q : Int} {wr w' : World} (h : RdS w s p c q wr) (k : Ks S0 wr w') (hS : ∀ g, S0 g → w.heap.size + 3 ≤ g) : RdS w s p c q w' :=
  ⟨h.1.ks k fun e => by have := hS _ e; omega, h.2.1.ks k fun e => by have := hS _ e; omega, h.2.2.1.ks k fun e => by have := hS _ e; omega, k.below h.2.2.2 (Nat.le_refl _) fun g hg => by have := hS g hg; omega⟩
theorem RdS.store {w : World} {s : Value} {p c q : Int} {wr : World} (h : RdS w s p c q wr) (s' : Value) (p' c' q' : Int) : ∀ W, W = (((wr.setCell ⟨w.heap.size, 0, none⟩ s').setCell ⟨w.heap.size, 1, none⟩ (.int .i64 p')).setCell ⟨w.heap.size, 2, none⟩ (.int .i64 c')).setCell ⟨w.heap.size, 3, none⟩ (.int .i64 q') → RdS w s' p' c' q' W ∧ Kp w.heap.size wr W := by
  rintro W rfl
  obtain ⟨h1, h2, h3, h4⟩ := h
  obtain ⟨k1, k2⟩ := set4 h1 s' (.int .i64 p') (.int .i64 c') (.int .i64 q')
  exact ⟨⟨k1, blk_kp h2 k2 (by omega), blk_kp h3 k2 (by omega), Kp.below h4 (Nat.le_refl _) k2 (Nat.le_refl _)⟩, k2⟩
def RK (sb : Bool) (z : List Int) (p : Int) : Rs (List Int) := if sb then KS z p else KL z p
def RO (sb : Bool) (z : List Int) (p p' : Int) (l : List Int) : Bool := if sb then true else owL z p p' l
def RbPost (K : List Int → Int → Rs (List Int)) (ow : Int → Int → List Int → Bool) (s : Value) (n : Nat) (z : List Int) (p c q : Int) (w : World) (e : Ending) (w' : World) : Prop :=
  ∃ E b0 A N m L f p' c' q', e = .returned (.tuple #[cv s p' c' q', btagg E b0 A N m, .bool f]) ∧ Below w.heap.size w w' ∧ Ens w' (fun k => w.heap.size ≤ k) A N L ∧ N ≤ 16 ∧ esm L ∧ St bt0 n (brd K z p) p c q (E, b0, L) p' c' q' ∧ (c' ≠ 0 → f = false) ∧
    (c' = 0 → (bhd z p).2.2.1 = 0 ∧ f = ow (bhd z p).2.1 p' (jn L))
theorem St.move {α : Type} {d : α} {n : Nat} {g : Rs α} {p c q : Int} {v : α} {p' c' q' : Int} (h : St d n g p c q v p' c' q') (hc : c' ≠ 0) {px : Int} (i0 : 0 ≤ px) (i1 : px ≤ n) : St d n g p c q v px c' q' := by
  obtain ⟨_, _, h1 | ⟨_, _, _, _, h, _⟩ | h1⟩ := h
  · exact ⟨i0, i1, .inl h1⟩
  · exact absurd h hc
  · exact ⟨i0, i1, .inr (.inr h1)⟩
set_option maxHeartbeats 8000000 in
theorem rread25_any (sb : Bool) (a : Option Addr) (n m : Nat) (z : List Int) (p c q : Int) (w : World) (hz : Bs w a n z) (ha : a = none → m = 0) (h0 : 0 ≤ p) (h1 : p ≤ n) (hm : n ≤ m) (hn : n ≤ 10000) (hby : ∀ x ∈ z, 0 ≤ x ∧ x < 256) (hfw : (bhd z p).2.2.1 = 0 → Few z 1048576 (bhd z p).2.1) (hq : c = 0 → q = 0) (hK5 : (bhd z p).2.2.1 = 0 → (RK sb z (bhd z p).2.1).1.length ≤ 500) :
    Calls Tryz.prog 25 #[cv (.slice a n m) p c q, .bool sb] w (RbPost (RK sb) (RO sb z) (.slice a n m) n z p c q w) := by
  have HBY := Lib.hid hby
  have hzl := hz.1
  have HZ := Lib.hid hz
  have HA := Lib.hid ha
  have HQ := Lib.hid hq
  have HFW := Lib.hid hfw
  have HK5 := Lib.hid hK5
  have hR := RdS.start w (.slice a n m) p c q
  obtain ⟨c0, c1, c2, c3⟩ := hR.1.c4
  clear hby ha hq hfw hK5 hz
  go_enter Tryz.func25, Tryz.ntmps25
  go_wp2_with fail
  generalize ((w.alloc (.cells (cvs (.slice a n m) p c q) 50)).alloc (.cells (cvs (.slice none 0 0) 0 0 0) 50)).alloc (.cells (btenc 0 0 none 0 0) 25) = w0 at *
  refine (rread17_e a n m z p c q w0 (HZ.out.below hR.2.2.2) h0 h1 hm (by omega) HBY.out).mono ?_
  rintro e w1 ⟨E, p1, c1', q1, rfl, hb1, hs1⟩
  obtain ⟨p10, p11⟩ := hs1.place
  have hR1 := hR.below hb1
  have HS1 := Lib.hid hs1
  clear hR hb1 hs1 c0 c1 c2 c3
  obtain ⟨c0, c1, c2, c3⟩ := hR1.1.c4
  obtain ⟨k0, k1, k2, k3⟩ := hR1.1.f4
  obtain ⟨hR2, hkd⟩ := hR1.store (.slice a n m) p1 c1' q1 _ rfl
  obtain ⟨d0, d1, d2, d3⟩ := hR2.1.c4
  clear hR1 hkd
  go_wp2_with fail
  clear c0 c1 c2 c3 k0 k1 k2 k3 d0 d1 d2 d3
  generalize (((w1.setCell ⟨w.heap.size, 0, none⟩ (.slice a n m)).setCell ⟨w.heap.size, 1, none⟩ (.int .i64 p1)).setCell ⟨w.heap.size, 2, none⟩ (.int .i64 c1')).setCell ⟨w.heap.size, 3, none⟩ (.int .i64 q1) = w2 at *
  refine (rread17_p a n m z p1 c1' q1 w2 (HZ.out.below hR2.2.2.2) p10 p11 hm (by omega) HBY.out).mono ?_
  rintro e w3 ⟨b0, p2, c2', q2, rfl, hb3, hs3⟩
  obtain ⟨p20, p21⟩ := hs3.place
  have hb0 := hs3.pv (P := fun x => 0 ≤ x ∧ x ≤ 4611686018427387904) (by decide) (ve_bd HBY.out psk_le p1)
  have hR3 := hR2.below hb3
  have HS3 := Lib.hid hs3
  clear hR2 hb3 hs3
  obtain ⟨c0, c1, c2, c3⟩ := hR3.1.c4
  obtain ⟨k0, k1, k2, k3⟩ := hR3.1.f4
  obtain ⟨hR4, hkd⟩ := hR3.store (.slice a n m) p2 c2' q2 _ rfl
  obtain ⟨d0, d1, d2, d3⟩ := hR4.1.c4
  clear hR3 hkd
  go_wp2_with fail
  clear c0 c1 c2 c3 k0 k1 k2 k3 d0 d1 d2 d3
  generalize (((w3.setCell ⟨w.heap.size, 0, none⟩ (.slice a n m)).setCell ⟨w.heap.size, 1, none⟩ (.int .i64 p2)).setCell ⟨w.heap.size, 2, none⟩ (.int .i64 c2')).setCell ⟨w.heap.size, 3, none⟩ (.int .i64 q2) = w4 at *
  refine (rint_any a n m z p2 c2' q2 16 w4 (HZ.out.below hR4.2.2.2) p20 p21 hm (by omega) HBY.out (by omega)).mono ?_
  rintro e w5 ⟨NN, p3, c3', q3, rfl, hb5, hs5⟩
  have hst := hs5.st hzl p20 p21 HBY.out
  obtain ⟨p30, p31⟩ := hst.place
  obtain ⟨n0, n16⟩ := vm_bd hst HBY.out
  have hN16 : NN ≤ 16 := by omega
  obtain ⟨N, rfl⟩ := Int.eq_ofNat_of_zero_le n0
  have HS5 := Lib.hid hst
  have hR5 := hR4.below hb5
  clear hR4 hb5 hs5 hst n0 n16
  obtain ⟨c0, c1, c2, c3⟩ := hR5.1.c4
  obtain ⟨k0, k1, k2, k3⟩ := hR5.1.f4
  obtain ⟨hR6, hkd⟩ := hR5.store (.slice a n m) p3 c3' q3 _ rfl
  obtain ⟨d0, d1, d2, d3⟩ := hR6.1.c4
  clear hR5 hkd
  go_upto_region 5 with (fail)
  clear c0 c1 c2 c3 k0 k1 k2 k3
  generalize (((w5.setCell ⟨w.heap.size, 0, none⟩ (.slice a n m)).setCell ⟨w.heap.size, 1, none⟩ (.int .i64 p3)).setCell ⟨w.heap.size, 2, none⟩ (.int .i64 c3')).setCell ⟨w.heap.size, 3, none⟩ (.int .i64 q3) = w6 at *
  have hFT := fun w' => rfits_any b0 (N : Int) w' hb0.1 (by omega) (by omega)
  by_cases hc3 : c3' = 0
  · have HC3 := Lib.hid hc3
    have HQ3 : Hid (q3 = 0) := Lib.hid (HS5.out.q0 (fun h => HS3.out.q0 (fun h => HS1.out.q0 HQ.out h) h) hc3)
    have hcb1 : (c3' == 0) = true := by simpa using hc3
    cases hF : fitn b0 N
    · have HFS := Lib.hid hF
      rw [hF] at hFT
      have HF := Lib.hid hFT
      clear hF hFT hc3
      go_wp2_with fail
      refine (HF.out _).mono ?_
      rintro e wf ⟨rfl, rfl⟩
      clear HF
      go_wp2_with fail
      clear d0 d1 d2 d3
      refine (rfail_any _ _ _ _ _ _ _ _ _).mono ?_
      rintro e w7 ⟨cb, qb, rfl, hb7, hf7⟩
      have HCB : Hid (cb ≠ 0) := Lib.hid (by
        rcases hf7 with ⟨_, h, _⟩ | ⟨h, _⟩
        · rw [h]; decide
        · exact absurd HC3.out h)
      have HBB : Hid (∀ px : Int, 0 ≤ px → px ≤ n → St bt0 n (brd (RK sb) z p) p c q bt0 px cb qb) := Lib.hid (fun (px : Int) i0 i1 => by
        have h9 : St [] n (rhd z b0 p2) p2 c2' q2 [] px cb qb := rhd_st HS5.out (c2 := cb) (q2 := qb) (fun h => by rw [HFS.out] at h; cases h) (fun _ => hf7) (St.stay i0 i1 HCB.out)
        have h8 := bhd_st HS1.out HS3.out h9
        rw [brd_bhd]
        rw [if_neg HCB.out] at h8
        exact h8.bind (St.stay i0 i1 HCB.out))
      have hR7 := hR6.below hb7
      clear hR6 hb7 hf7 hcb1
      have hcb1 : (cb == 0) = false := by simpa using HCB.out
      obtain ⟨c0, c1, c2, c3⟩ := hR7.1.c4
      obtain ⟨k0, k1, k2, k3⟩ := hR7.1.f4
      obtain ⟨hR8, hkd⟩ := hR7.store (.slice a n m) p3 cb qb _ rfl
      clear hR7 hkd
      go_upto_region 7 with (fail)
      clear c0 c1 c2 c3 k0 k1 k2 k3
      generalize (((w7.setCell ⟨w.heap.size, 0, none⟩ (.slice a n m)).setCell ⟨w.heap.size, 1, none⟩ (.int .i64 p3)).setCell ⟨w.heap.size, 2, none⟩ (.int .i64 cb)).setCell ⟨w.heap.size, 3, none⟩ (.int .i64 qb) = w8 at *
      have hR6 := hR8
      clear hR8
      obtain ⟨pb, hpb⟩ : ∃ pb, pb = p3 := ⟨_, rfl⟩
      rw [← hpb] at hR6
      have pb0 : 0 ≤ pb := by omega
      have pb1 : pb ≤ n := by omega
      clear hpb
      obtain ⟨d0, d1, d2, d3⟩ := hR6.1.c4
      have hbN := below_one w8 (.cells (btenc E b0 none 0 0) 25)
      have hRb := hR6.below hbN
      obtain ⟨e0, e1, e2, e3⟩ := hRb.1.c4
      clear hR6 hbN
      go_wp2
      clear d0 d1 d2 d3 e0 e1 e2 e3
      generalize w8.alloc (.cells (btenc E b0 none 0 0) 25) = w7 at *
      go_loopw [14] (fun i wr => i = .int .i64 0 ∧ wr = w7) (fun _ _ => 0)
      case atStart => exact ⟨rfl, rfl⟩
      case round =>
        obtain ⟨rfl, rfl⟩ := hrel
        obtain ⟨e0, e1, e2, e3⟩ := hRb.1.c4
        by_cases hN0 : 0 < N
        · have e9 : (0 : Int) < N := by omega
          go_upto_region 18 with (fail)
          clear e0 e1 e2 e3
          obtain ⟨c0, c1, c2, c3⟩ := hRb.1.c4
          cases sb
          · go_wp2_with fail
            clear c0 c1 c2 c3
            refine (rloose16_any a n m z 1048576 pb cb qb _ (HZ.out.below hRb.2.2.2) HA.out pb0 pb1 hm hn HBY.out (by omega) (fun h => absurd h HCB.out) (fun h => absurd h HCB.out)).mono ?_
            rintro e wx ⟨Ax, kx, mx, lx, pe, ce, qe, rfl, hbx, hsx, _, _, _⟩
            obtain ⟨_, hce, hqe⟩ := hsx.bad HCB.out
            have HCE : Hid (ce ≠ 0) := Lib.hid (by rw [hce]; exact HCB.out)
            have hcb3 : (ce == 0) = false := by simpa using HCE.out
            have hcb4 : (ce != 0) = true := by simpa using HCE.out
            have HST : Hid (St bt0 n (brd (RK false) z p) p c q bt0 pe ce qe) := Lib.hid (by rw [hce, hqe]; exact (HBB.out _ hsx.place.1 hsx.place.2))
            rw [decide_eq_false HCE.out, Bool.false_and]
            have hRx := hRb.below hbx
            clear hce hqe hsx
            obtain ⟨c0, c1, c2, c3⟩ := hRx.1.c4
            obtain ⟨k0, k1, k2, k3⟩ := hRx.1.f4
            obtain ⟨hRy, hkd⟩ := hRx.store (.slice a n m) pe ce qe _ rfl
            obtain ⟨d0, d1, d2, d3⟩ := hRy.1.c4
            clear hRx hkd hbx hRb
            go_upto_region 24 with (fail)
            clear c0 c1 c2 c3 k0 k1 k2 k3 d0 d1 d2 d3
            generalize (((wx.setCell ⟨w.heap.size, 0, none⟩ (.slice a n m)).setCell ⟨w.heap.size, 1, none⟩ (.int .i64 pe)).setCell ⟨w.heap.size, 2, none⟩ (.int .i64 ce)).setCell ⟨w.heap.size, 3, none⟩ (.int .i64 qe) = wy at *
            have hRe := hRy
            clear hRy
            obtain ⟨c0, c1, c2, c3⟩ := hRe.1.c4
            obtain ⟨d0, d1, d2, d3⟩ := hRe.2.1.c4
            obtain ⟨f0, f1, f2, f3⟩ := hRe.2.1.f4
            obtain ⟨t0, t1, t2⟩ := hRe.2.2.1.c3
            obtain ⟨u0, u1, u2⟩ := blk_f3 hRe.2.2.1
            have HRE := Lib.hid hRe
            clear hRe
            go_wp2
            obtain ⟨k1, kk1⟩ := set4 HRE.out.2.1 (.slice a n m) (.int .i64 pe) (.int .i64 ce) (.int .i64 qe)
            obtain ⟨k2, kk2⟩ := set3 (blk_kp HRE.out.2.2.1 kk1 (by omega)) (.int .u64 0) (.int .u64 0) (.slice none 0 0)
            have k3 := blk_kp k1 kk2 (by omega)
            have HBD := Lib.hid (Kp.below (Kp.below HRE.out.2.2.2 (Nat.le_refl _) kk1 (by omega)) (Nat.le_refl _) kk2 (by omega))
            obtain ⟨v0, v1, v2, v3⟩ := k3.c4
            obtain ⟨x0, x1, x2⟩ := k2.c3
            refine bodyPost_ret (v := .tuple #[cv (.slice a n m) pe ce qe, btagg 0 0 none 0 0, .bool false]) (by simp [results, Tryz.results25, go_sem, v0, v1, v2, v3, x0, x1, x2]) rfl ⟨0, 0, none, 0, 0, [], false, pe, ce, qe, rfl, HBD.out, ⟨rfl, Sq.nil _ _ _ _⟩, Nat.zero_le _, fun k => ⟨by simp [en0], fun s hs => by simp [en0] at hs, by simp [en0]⟩, HST.out, fun _ => rfl, fun h => absurd h HCE.out⟩
          · go_wp2_with fail
            clear c0 c1 c2 c3
            refine (rread16_any a n m z 1048576 pb cb qb _ (HZ.out.below hRb.2.2.2) HA.out pb0 pb1 hm hn HBY.out (by omega) (fun h => absurd h HCB.out) (fun h => absurd h HCB.out)).mono ?_
            rintro e wx ⟨Ax, kx, mx, lx, pe, ce, qe, rfl, hbx, hsx, _, _, _⟩
            obtain ⟨_, hce, hqe⟩ := hsx.bad HCB.out
            have HCE : Hid (ce ≠ 0) := Lib.hid (by rw [hce]; exact HCB.out)
            have hcb3 : (ce == 0) = false := by simpa using HCE.out
            have hcb4 : (ce != 0) = true := by simpa using HCE.out
            have HST : Hid (St bt0 n (brd (RK true) z p) p c q bt0 pe ce qe) := Lib.hid (by rw [hce, hqe]; exact (HBB.out _ hsx.place.1 hsx.place.2))
            have hRx := hRb.below hbx
            clear hce hqe hsx
            obtain ⟨c0, c1, c2, c3⟩ := hRx.1.c4
            obtain ⟨k0, k1, k2, k3⟩ := hRx.1.f4
            obtain ⟨hRy, hkd⟩ := hRx.store (.slice a n m) pe ce qe _ rfl
            obtain ⟨d0, d1, d2, d3⟩ := hRy.1.c4
            clear hRx hkd hbx hRb
            go_upto_region 24 with (fail)
            clear c0 c1 c2 c3 k0 k1 k2 k3 d0 d1 d2 d3
            generalize (((wx.setCell ⟨w.heap.size, 0, none⟩ (.slice a n m)).setCell ⟨w.heap.size, 1, none⟩ (.int .i64 pe)).setCell ⟨w.heap.size, 2, none⟩ (.int .i64 ce)).setCell ⟨w.heap.size, 3, none⟩ (.int .i64 qe) = wy at *
            have hRe := hRy
            clear hRy
            obtain ⟨c0, c1, c2, c3⟩ := hRe.1.c4
            obtain ⟨d0, d1, d2, d3⟩ := hRe.2.1.c4
            obtain ⟨f0, f1, f2, f3⟩ := hRe.2.1.f4
            obtain ⟨t0, t1, t2⟩ := hRe.2.2.1.c3
            obtain ⟨u0, u1, u2⟩ := blk_f3 hRe.2.2.1
            have HRE := Lib.hid hRe
            clear hRe
            go_wp2
            obtain ⟨k1, kk1⟩ := set4 HRE.out.2.1 (.slice a n m) (.int .i64 pe) (.int .i64 ce) (.int .i64 qe)
            obtain ⟨k2, kk2⟩ := set3 (blk_kp HRE.out.2.2.1 kk1 (by omega)) (.int .u64 0) (.int .u64 0) (.slice none 0 0)
            have k3 := blk_kp k1 kk2 (by omega)
            have HBD := Lib.hid (Kp.below (Kp.below HRE.out.2.2.2 (Nat.le_refl _) kk1 (by omega)) (Nat.le_refl _) kk2 (by omega))
            obtain ⟨v0, v1, v2, v3⟩ := k3.c4
            obtain ⟨x0, x1, x2⟩ := k2.c3
            refine bodyPost_ret (v := .tuple #[cv (.slice a n m) pe ce qe, btagg 0 0 none 0 0, .bool false]) (by simp [results, Tryz.results25, go_sem, v0, v1, v2, v3, x0, x1, x2]) rfl ⟨0, 0, none, 0, 0, [], false, pe, ce, qe, rfl, HBD.out, ⟨rfl, Sq.nil _ _ _ _⟩, Nat.zero_le _, fun k => ⟨by simp [en0], fun s hs => by simp [en0] at hs, by simp [en0]⟩, HST.out, fun _ => rfl, fun h => absurd h HCE.out⟩
        · have e9 : ¬ (0 : Int) < N := by omega
          go_upto_region 18 with (fail)
          clear e0 e1 e2 e3
          obtain ⟨c0, c1, c2, c3⟩ := hRb.1.c4
          cases sb
          · go_wp2_with fail
            clear c0 c1 c2 c3
            refine (rloose16_any a n m z 1048576 pb cb qb _ (HZ.out.below hRb.2.2.2) HA.out pb0 pb1 hm hn HBY.out (by omega) (fun h => absurd h HCB.out) (fun h => absurd h HCB.out)).mono ?_
            rintro e wx ⟨Ax, kx, mx, lx, pe, ce, qe, rfl, hbx, hsx, _, _, _⟩
            obtain ⟨_, hce, hqe⟩ := hsx.bad HCB.out
            have HCE : Hid (ce ≠ 0) := Lib.hid (by rw [hce]; exact HCB.out)
            have hcb3 : (ce == 0) = false := by simpa using HCE.out
            have hcb4 : (ce != 0) = true := by simpa using HCE.out
            have HST : Hid (St bt0 n (brd (RK false) z p) p c q bt0 pe ce qe) := Lib.hid (by rw [hce, hqe]; exact (HBB.out _ hsx.place.1 hsx.place.2))
            rw [decide_eq_false HCE.out, Bool.false_and]
            have hRx := hRb.below hbx
            clear hce hqe hsx
            obtain ⟨c0, c1, c2, c3⟩ := hRx.1.c4
            obtain ⟨k0, k1, k2, k3⟩ := hRx.1.f4
            obtain ⟨hRy, hkd⟩ := hRx.store (.slice a n m) pe ce qe _ rfl
            obtain ⟨d0, d1, d2, d3⟩ := hRy.1.c4
            clear hRx hkd hbx hRb
            go_upto_region 24 with (fail)
            clear c0 c1 c2 c3 k0 k1 k2 k3 d0 d1 d2 d3
            generalize (((wx.setCell ⟨w.heap.size, 0, none⟩ (.slice a n m)).setCell ⟨w.heap.size, 1, none⟩ (.int .i64 pe)).setCell ⟨w.heap.size, 2, none⟩ (.int .i64 ce)).setCell ⟨w.heap.size, 3, none⟩ (.int .i64 qe) = wy at *
            have hRe := hRy
            clear hRy
            obtain ⟨c0, c1, c2, c3⟩ := hRe.1.c4
            obtain ⟨d0, d1, d2, d3⟩ := hRe.2.1.c4
            obtain ⟨f0, f1, f2, f3⟩ := hRe.2.1.f4
            obtain ⟨t0, t1, t2⟩ := hRe.2.2.1.c3
            obtain ⟨u0, u1, u2⟩ := blk_f3 hRe.2.2.1
            have HRE := Lib.hid hRe
            clear hRe
            go_wp2
            obtain ⟨k1, kk1⟩ := set4 HRE.out.2.1 (.slice a n m) (.int .i64 pe) (.int .i64 ce) (.int .i64 qe)
            obtain ⟨k2, kk2⟩ := set3 (blk_kp HRE.out.2.2.1 kk1 (by omega)) (.int .u64 0) (.int .u64 0) (.slice none 0 0)
            have k3 := blk_kp k1 kk2 (by omega)
            have HBD := Lib.hid (Kp.below (Kp.below HRE.out.2.2.2 (Nat.le_refl _) kk1 (by omega)) (Nat.le_refl _) kk2 (by omega))
            obtain ⟨v0, v1, v2, v3⟩ := k3.c4
            obtain ⟨x0, x1, x2⟩ := k2.c3
            refine bodyPost_ret (v := .tuple #[cv (.slice a n m) pe ce qe, btagg 0 0 none 0 0, .bool false]) (by simp [results, Tryz.results25, go_sem, v0, v1, v2, v3, x0, x1, x2]) rfl ⟨0, 0, none, 0, 0, [], false, pe, ce, qe, rfl, HBD.out, ⟨rfl, Sq.nil _ _ _ _⟩, Nat.zero_le _, fun k => ⟨by simp [en0], fun s hs => by simp [en0] at hs, by simp [en0]⟩, HST.out, fun _ => rfl, fun h => absurd h HCE.out⟩
          · go_wp2_with fail
            clear c0 c1 c2 c3
            refine (rread16_any a n m z 1048576 pb cb qb _ (HZ.out.below hRb.2.2.2) HA.out pb0 pb1 hm hn HBY.out (by omega) (fun h => absurd h HCB.out) (fun h => absurd h HCB.out)).mono ?_
            rintro e wx ⟨Ax, kx, mx, lx, pe, ce, qe, rfl, hbx, hsx, _, _, _⟩
            obtain ⟨_, hce, hqe⟩ := hsx.bad HCB.out
            have HCE : Hid (ce ≠ 0) := Lib.hid (by rw [hce]; exact HCB.out)
            have hcb3 : (ce == 0) = false := by simpa using HCE.out
            have hcb4 : (ce != 0) = true := by simpa using HCE.out
            have HST : Hid (St bt0 n (brd (RK true) z p) p c q bt0 pe ce qe) := Lib.hid (by rw [hce, hqe]; exact (HBB.out _ hsx.place.1 hsx.place.2))
            have hRx := hRb.below hbx
            clear hce hqe hsx
            obtain ⟨c0, c1, c2, c3⟩ := hRx.1.c4
            obtain ⟨k0, k1, k2, k3⟩ := hRx.1.f4
            obtain ⟨hRy, hkd⟩ := hRx.store (.slice a n m) pe ce qe _ rfl
            obtain ⟨d0, d1, d2, d3⟩ := hRy.1.c4
            clear hRx hkd hbx hRb
            go_upto_region 24 with (fail)
            clear c0 c1 c2 c3 k0 k1 k2 k3 d0 d1 d2 d3
            generalize (((wx.setCell ⟨w.heap.size, 0, none⟩ (.slice a n m)).setCell ⟨w.heap.size, 1, none⟩ (.int .i64 pe)).setCell ⟨w.heap.size, 2, none⟩ (.int .i64 ce)).setCell ⟨w.heap.size, 3, none⟩ (.int .i64 qe) = wy at *
            have hRe := hRy
            clear hRy
            obtain ⟨c0, c1, c2, c3⟩ := hRe.1.c4
            obtain ⟨d0, d1, d2, d3⟩ := hRe.2.1.c4
            obtain ⟨f0, f1, f2, f3⟩ := hRe.2.1.f4
            obtain ⟨t0, t1, t2⟩ := hRe.2.2.1.c3
            obtain ⟨u0, u1, u2⟩ := blk_f3 hRe.2.2.1
            have HRE := Lib.hid hRe
            clear hRe
            go_wp2
            obtain ⟨k1, kk1⟩ := set4 HRE.out.2.1 (.slice a n m) (.int .i64 pe) (.int .i64 ce) (.int .i64 qe)
            obtain ⟨k2, kk2⟩ := set3 (blk_kp HRE.out.2.2.1 kk1 (by omega)) (.int .u64 0) (.int .u64 0) (.slice none 0 0)
            have k3 := blk_kp k1 kk2 (by omega)
            have HBD := Lib.hid (Kp.below (Kp.below HRE.out.2.2.2 (Nat.le_refl _) kk1 (by omega)) (Nat.le_refl _) kk2 (by omega))
            obtain ⟨v0, v1, v2, v3⟩ := k3.c4
            obtain ⟨x0, x1, x2⟩ := k2.c3
            refine bodyPost_ret (v := .tuple #[cv (.slice a n m) pe ce qe, btagg 0 0 none 0 0, .bool false]) (by simp [results, Tryz.results25, go_sem, v0, v1, v2, v3, x0, x1, x2]) rfl ⟨0, 0, none, 0, 0, [], false, pe, ce, qe, rfl, HBD.out, ⟨rfl, Sq.nil _ _ _ _⟩, Nat.zero_le _, fun k => ⟨by simp [en0], fun s hs => by simp [en0] at hs, by simp [en0]⟩, HST.out, fun _ => rfl, fun h => absurd h HCE.out⟩
    · have HFS := Lib.hid hF
      rw [hF] at hFT
      have HF := Lib.hid hFT
      clear hF hFT hc3
      go_wp2_with fail
      refine (HF.out _).mono ?_
      rintro e wf ⟨rfl, rfl⟩
      clear HF
      have hfn := fitn_bd HFS.out
      have hbN := below_one w6 (.cells (btenc E b0 none 0 0) 25)
      have hRb := hR6.below hbN
      have hBx := Blk.new w6 (btenc E b0 none 0 0) 25
      have hw6 := hR6.lt
      have HW6 := Lib.hid hw6
      have hsz7 : (w6.alloc (.cells (btenc E b0 none 0 0) 25)).heap.size = w6.heap.size + 1 := by simp
      clear hR6 hbN
      go_wp2
      clear d0 d1 d2 d3
      generalize w6.alloc (.cells (btenc E b0 none 0 0) 25) = w7 at *
      generalize w6.heap.size = bb at *
      have H0 := Lib.hid (HgSt.start (n := n) (z := z) (b := b0) (mx := 1048576) (N := N) (c1 := c3') (q1 := q3) p30 p31)
      go_loopw [12, 13, 14] (fun vS t i wr => ∃ (k : Nat) (H : List Hd) (pk ck qk T : Int) (vH : Value), k ≤ N ∧ i = .int .i64 k ∧ t = .int .i64 T ∧ Hid (Hs2 wr (bb + 1) vH vS (hen H) (H.map (·.2))) ∧ Hid (Blk wr bb #[.int .u64 E, .int .u64 b0, vH] 25) ∧ Hid (RdS w (.slice a n m) pk ck qk wr) ∧ Hid (H.length = k) ∧ Hid (hdsm H) ∧ 0 ≤ pk ∧ pk ≤ n ∧ bb + 1 ≤ wr.heap.size ∧ 0 ≤ T ∧ T ≤ 1048576 ∧ Hid (T = hsum H) ∧ Hid (HgSt n z b0 1048576 N p3 c3' q3 k H pk ck qk)) (fun _ _ i _ => N - (intOf i).toNat)
      case atStart => exact ⟨0, [], p3, c3', q3, 0, _, by omega, rfl, rfl, Lib.hid (Hs2.nil _ _), Lib.hid hBx, Lib.hid hRb, Lib.hid rfl, Lib.hid (fun h hh => by simp at hh), p30, p31, by omega, by omega, by omega, Lib.hid rfl, H0⟩
      case round =>
        clear hBx hRb hsz7 H0
        obtain ⟨k, H, pk, ck, qk, T, vH, hk, rfl, rfl, HO, HBX, HRB, HLL, HHS, pk0, pk1, hszr, t0, t1, HT, HST⟩ := hrel
        obtain ⟨c0, c1, c2, c3⟩ := HRB.out.1.c4
        by_cases hck : ck = 0
        case neg =>
          have hcb1 : (ck == 0) = false := by simpa using hck
          have HCK := Lib.hid hck
          have HFIN := Lib.hid (HST.out.fin (.inr hck) pk0 pk1)
          rw [if_neg hck] at HFIN
          obtain ⟨pb, hpb⟩ : ∃ pb, pb = pk := ⟨_, rfl⟩
          obtain ⟨cb, hcb⟩ : ∃ cb, cb = ck := ⟨_, rfl⟩
          obtain ⟨qb, hqb⟩ : ∃ qb, qb = qk := ⟨_, rfl⟩
          have HCB : Hid (cb ≠ 0) := Lib.hid (by rw [hcb]; exact hck)
          have HBB : Hid (∀ px : Int, 0 ≤ px → px ≤ n → St bt0 n (brd (RK sb) z p) p c q bt0 px cb qb) := Lib.hid (fun (px : Int) i0 i1 => by
            have h9 : St [] n (rhd z b0 p2) p2 c2' q2 [] px ck qk := rhd_st HS5.out (c2 := c3') (q2 := q3) (fun _ => ⟨rfl, rfl⟩) (fun h => by rw [HFS.out] at h; cases h) (by rw [Int.toNat_natCast]; exact HFIN.out.move HCK.out i0 i1)
            have h8 := bhd_st HS1.out HS3.out h9
            rw [hcb, hqb, brd_bhd]
            rw [if_neg HCK.out] at h8
            exact h8.bind (St.stay i0 i1 HCK.out))
          have hRb := HRB.out
          rw [← hcb, ← hpb, ← hqb] at hRb
          have pb0 : 0 ≤ pb := by omega
          have pb1 : pb ≤ n := by omega
          clear hpb hcb hqb hck
          by_cases hlt : k < N
          · have e9 : (k : Int) < N := by omega
            go_upto_region 18 with (fail)
            clear c0 c1 c2 c3 hcb1
            obtain ⟨c0, c1, c2, c3⟩ := hRb.1.c4
            obtain ⟨c0, c1, c2, c3⟩ := hRb.1.c4
            cases sb
            · go_wp2_with fail
              clear c0 c1 c2 c3
              refine (rloose16_any a n m z 1048576 pb cb qb _ (HZ.out.below hRb.2.2.2) HA.out pb0 pb1 hm hn HBY.out (by omega) (fun h => absurd h HCB.out) (fun h => absurd h HCB.out)).mono ?_
              rintro e wx ⟨Ax, kx, mx, lx, pe, ce, qe, rfl, hbx, hsx, _, _, _⟩
              obtain ⟨_, hce, hqe⟩ := hsx.bad HCB.out
              have HCE : Hid (ce ≠ 0) := Lib.hid (by rw [hce]; exact HCB.out)
              have hcb3 : (ce == 0) = false := by simpa using HCE.out
              have hcb4 : (ce != 0) = true := by simpa using HCE.out
              have HST : Hid (St bt0 n (brd (RK false) z p) p c q bt0 pe ce qe) := Lib.hid (by rw [hce, hqe]; exact (HBB.out _ hsx.place.1 hsx.place.2))
              rw [decide_eq_false HCE.out, Bool.false_and]
              have hRx := hRb.below hbx
              clear hce hqe hsx
              obtain ⟨c0, c1, c2, c3⟩ := hRx.1.c4
              obtain ⟨k0, k1, k2, k3⟩ := hRx.1.f4
              obtain ⟨hRy, hkd⟩ := hRx.store (.slice a n m) pe ce qe _ rfl
              obtain ⟨d0, d1, d2, d3⟩ := hRy.1.c4
              clear hRx hkd hbx hRb
              go_upto_region 24 with (fail)
              clear c0 c1 c2 c3 k0 k1 k2 k3 d0 d1 d2 d3
              generalize (((wx.setCell ⟨w.heap.size, 0, none⟩ (.slice a n m)).setCell ⟨w.heap.size, 1, none⟩ (.int .i64 pe)).setCell ⟨w.heap.size, 2, none⟩ (.int .i64 ce)).setCell ⟨w.heap.size, 3, none⟩ (.int .i64 qe) = wy at *
              have hRe := hRy
              clear hRy
              obtain ⟨c0, c1, c2, c3⟩ := hRe.1.c4
              obtain ⟨d0, d1, d2, d3⟩ := hRe.2.1.c4
              obtain ⟨f0, f1, f2, f3⟩ := hRe.2.1.f4
              obtain ⟨t0, t1, t2⟩ := hRe.2.2.1.c3
              obtain ⟨u0, u1, u2⟩ := blk_f3 hRe.2.2.1
              have HRE := Lib.hid hRe
              clear hRe
              go_wp2
              obtain ⟨k1, kk1⟩ := set4 HRE.out.2.1 (.slice a n m) (.int .i64 pe) (.int .i64 ce) (.int .i64 qe)
              obtain ⟨k2, kk2⟩ := set3 (blk_kp HRE.out.2.2.1 kk1 (by omega)) (.int .u64 0) (.int .u64 0) (.slice none 0 0)
              have k3 := blk_kp k1 kk2 (by omega)
              have HBD := Lib.hid (Kp.below (Kp.below HRE.out.2.2.2 (Nat.le_refl _) kk1 (by omega)) (Nat.le_refl _) kk2 (by omega))
              obtain ⟨v0, v1, v2, v3⟩ := k3.c4
              obtain ⟨x0, x1, x2⟩ := k2.c3
              refine bodyPost_ret (v := .tuple #[cv (.slice a n m) pe ce qe, btagg 0 0 none 0 0, .bool false]) (by simp [results, Tryz.results25, go_sem, v0, v1, v2, v3, x0, x1, x2]) rfl ⟨0, 0, none, 0, 0, [], false, pe, ce, qe, rfl, HBD.out, ⟨rfl, Sq.nil _ _ _ _⟩, Nat.zero_le _, fun k => ⟨by simp [en0], fun s hs => by simp [en0] at hs, by simp [en0]⟩, HST.out, fun _ => rfl, fun h => absurd h HCE.out⟩
            · go_wp2_with fail
              clear c0 c1 c2 c3
              refine (rread16_any a n m z 1048576 pb cb qb _ (HZ.out.below hRb.2.2.2) HA.out pb0 pb1 hm hn HBY.out (by omega) (fun h => absurd h HCB.out) (fun h => absurd h HCB.out)).mono ?_
              rintro e wx ⟨Ax, kx, mx, lx, pe, ce, qe, rfl, hbx, hsx, _, _, _⟩
              obtain ⟨_, hce, hqe⟩ := hsx.bad HCB.out
              have HCE : Hid (ce ≠ 0) := Lib.hid (by rw [hce]; exact HCB.out)
              have hcb3 : (ce == 0) = false := by simpa using HCE.out
              have hcb4 : (ce != 0) = true := by simpa using HCE.out
              have HST : Hid (St bt0 n (brd (RK true) z p) p c q bt0 pe ce qe) := Lib.hid (by rw [hce, hqe]; exact (HBB.out _ hsx.place.1 hsx.place.2))
              have hRx := hRb.below hbx
              clear hce hqe hsx
              obtain ⟨c0, c1, c2, c3⟩ := hRx.1.c4
              obtain ⟨k0, k1, k2, k3⟩ := hRx.1.f4
              obtain ⟨hRy, hkd⟩ := hRx.store (.slice a n m) pe ce qe _ rfl
              obtain ⟨d0, d1, d2, d3⟩ := hRy.1.c4
              clear hRx hkd hbx hRb
              go_upto_region 24 with (fail)
              clear c0 c1 c2 c3 k0 k1 k2 k3 d0 d1 d2 d3
              generalize (((wx.setCell ⟨w.heap.size, 0, none⟩ (.slice a n m)).setCell ⟨w.heap.size, 1, none⟩ (.int .i64 pe)).setCell ⟨w.heap.size, 2, none⟩ (.int .i64 ce)).setCell ⟨w.heap.size, 3, none⟩ (.int .i64 qe) = wy at *
              have hRe := hRy
              clear hRy
              obtain ⟨c0, c1, c2, c3⟩ := hRe.1.c4
              obtain ⟨d0, d1, d2, d3⟩ := hRe.2.1.c4
              obtain ⟨f0, f1, f2, f3⟩ := hRe.2.1.f4
              obtain ⟨t0, t1, t2⟩ := hRe.2.2.1.c3
              obtain ⟨u0, u1, u2⟩ := blk_f3 hRe.2.2.1
              have HRE := Lib.hid hRe
              clear hRe
              go_wp2
              obtain ⟨k1, kk1⟩ := set4 HRE.out.2.1 (.slice a n m) (.int .i64 pe) (.int .i64 ce) (.int .i64 qe)
              obtain ⟨k2, kk2⟩ := set3 (blk_kp HRE.out.2.2.1 kk1 (by omega)) (.int .u64 0) (.int .u64 0) (.slice none 0 0)
              have k3 := blk_kp k1 kk2 (by omega)
              have HBD := Lib.hid (Kp.below (Kp.below HRE.out.2.2.2 (Nat.le_refl _) kk1 (by omega)) (Nat.le_refl _) kk2 (by omega))
              obtain ⟨v0, v1, v2, v3⟩ := k3.c4
              obtain ⟨x0, x1, x2⟩ := k2.c3
              refine bodyPost_ret (v := .tuple #[cv (.slice a n m) pe ce qe, btagg 0 0 none 0 0, .bool false]) (by simp [results, Tryz.results25, go_sem, v0, v1, v2, v3, x0, x1, x2]) rfl ⟨0, 0, none, 0, 0, [], false, pe, ce, qe, rfl, HBD.out, ⟨rfl, Sq.nil _ _ _ _⟩, Nat.zero_le _, fun k => ⟨by simp [en0], fun s hs => by simp [en0] at hs, by simp [en0]⟩, HST.out, fun _ => rfl, fun h => absurd h HCE.out⟩
          · have e9 : ¬ (k : Int) < N := by omega
            go_upto_region 18 with (fail)
            clear c0 c1 c2 c3 hcb1
            obtain ⟨c0, c1, c2, c3⟩ := hRb.1.c4
            obtain ⟨c0, c1, c2, c3⟩ := hRb.1.c4
            cases sb
            · go_wp2_with fail
              clear c0 c1 c2 c3
              refine (rloose16_any a n m z 1048576 pb cb qb _ (HZ.out.below hRb.2.2.2) HA.out pb0 pb1 hm hn HBY.out (by omega) (fun h => absurd h HCB.out) (fun h => absurd h HCB.out)).mono ?_
              rintro e wx ⟨Ax, kx, mx, lx, pe, ce, qe, rfl, hbx, hsx, _, _, _⟩
              obtain ⟨_, hce, hqe⟩ := hsx.bad HCB.out
              have HCE : Hid (ce ≠ 0) := Lib.hid (by rw [hce]; exact HCB.out)
              have hcb3 : (ce == 0) = false := by simpa using HCE.out
              have hcb4 : (ce != 0) = true := by simpa using HCE.out
              have HST : Hid (St bt0 n (brd (RK false) z p) p c q bt0 pe ce qe) := Lib.hid (by rw [hce, hqe]; exact (HBB.out _ hsx.place.1 hsx.place.2))
              rw [decide_eq_false HCE.out, Bool.false_and]
              have hRx := hRb.below hbx
              clear hce hqe hsx
              obtain ⟨c0, c1, c2, c3⟩ := hRx.1.c4
              obtain ⟨k0, k1, k2, k3⟩ := hRx.1.f4
              obtain ⟨hRy, hkd⟩ := hRx.store (.slice a n m) pe ce qe _ rfl
              obtain ⟨d0, d1, d2, d3⟩ := hRy.1.c4
              clear hRx hkd hbx hRb
              go_upto_region 24 with (fail)
              clear c0 c1 c2 c3 k0 k1 k2 k3 d0 d1 d2 d3
              generalize (((wx.setCell ⟨w.heap.size, 0, none⟩ (.slice a n m)).setCell ⟨w.heap.size, 1, none⟩ (.int .i64 pe)).setCell ⟨w.heap.size, 2, none⟩ (.int .i64 ce)).setCell ⟨w.heap.size, 3, none⟩ (.int .i64 qe) = wy at *
              have hRe := hRy
              clear hRy
              obtain ⟨c0, c1, c2, c3⟩ := hRe.1.c4
              obtain ⟨d0, d1, d2, d3⟩ := hRe.2.1.c4
              obtain ⟨f0, f1, f2, f3⟩ := hRe.2.1.f4
              obtain ⟨t0, t1, t2⟩ := hRe.2.2.1.c3
              obtain ⟨u0, u1, u2⟩ := blk_f3 hRe.2.2.1
              have HRE := Lib.hid hRe
              clear hRe
              go_wp2
              obtain ⟨k1, kk1⟩ := set4 HRE.out.2.1 (.slice a n m) (.int .i64 pe) (.int .i64 ce) (.int .i64 qe)
              obtain ⟨k2, kk2⟩ := set3 (blk_kp HRE.out.2.2.1 kk1 (by omega)) (.int .u64 0) (.int .u64 0) (.slice none 0 0)
              have k3 := blk_kp k1 kk2 (by omega)
              have HBD := Lib.hid (Kp.below (Kp.below HRE.out.2.2.2 (Nat.le_refl _) kk1 (by omega)) (Nat.le_refl _) kk2 (by omega))
              obtain ⟨v0, v1, v2, v3⟩ := k3.c4
              obtain ⟨x0, x1, x2⟩ := k2.c3
              refine bodyPost_ret (v := .tuple #[cv (.slice a n m) pe ce qe, btagg 0 0 none 0 0, .bool false]) (by simp [results, Tryz.results25, go_sem, v0, v1, v2, v3, x0, x1, x2]) rfl ⟨0, 0, none, 0, 0, [], false, pe, ce, qe, rfl, HBD.out, ⟨rfl, Sq.nil _ _ _ _⟩, Nat.zero_le _, fun k => ⟨by simp [en0], fun s hs => by simp [en0] at hs, by simp [en0]⟩, HST.out, fun _ => rfl, fun h => absurd h HCE.out⟩
            · go_wp2_with fail
              clear c0 c1 c2 c3
              refine (rread16_any a n m z 1048576 pb cb qb _ (HZ.out.below hRb.2.2.2) HA.out pb0 pb1 hm hn HBY.out (by omega) (fun h => absurd h HCB.out) (fun h => absurd h HCB.out)).mono ?_
              rintro e wx ⟨Ax, kx, mx, lx, pe, ce, qe, rfl, hbx, hsx, _, _, _⟩
              obtain ⟨_, hce, hqe⟩ := hsx.bad HCB.out
              have HCE : Hid (ce ≠ 0) := Lib.hid (by rw [hce]; exact HCB.out)
              have hcb3 : (ce == 0) = false := by simpa using HCE.out
              have hcb4 : (ce != 0) = true := by simpa using HCE.out
              have HST : Hid (St bt0 n (brd (RK true) z p) p c q bt0 pe ce qe) := Lib.hid (by rw [hce, hqe]; exact (HBB.out _ hsx.place.1 hsx.place.2))
              have hRx := hRb.below hbx
              clear hce hqe hsx
              obtain ⟨c0, c1, c2, c3⟩ := hRx.1.c4
              obtain ⟨k0, k1, k2, k3⟩ := hRx.1.f4
              obtain ⟨hRy, hkd⟩ := hRx.store (.slice a n m) pe ce qe _ rfl
              obtain ⟨d0, d1, d2, d3⟩ := hRy.1.c4
              clear hRx hkd hbx hRb
              go_upto_region 24 with (fail)
              clear c0 c1 c2 c3 k0 k1 k2 k3 d0 d1 d2 d3
              generalize (((wx.setCell ⟨w.heap.size, 0, none⟩ (.slice a n m)).setCell ⟨w.heap.size, 1, none⟩ (.int .i64 pe)).setCell ⟨w.heap.size, 2, none⟩ (.int .i64 ce)).setCell ⟨w.heap.size, 3, none⟩ (.int .i64 qe) = wy at *
              have hRe := hRy
              clear hRy
              obtain ⟨c0, c1, c2, c3⟩ := hRe.1.c4
              obtain ⟨d0, d1, d2, d3⟩ := hRe.2.1.c4
              obtain ⟨f0, f1, f2, f3⟩ := hRe.2.1.f4
              obtain ⟨t0, t1, t2⟩ := hRe.2.2.1.c3
              obtain ⟨u0, u1, u2⟩ := blk_f3 hRe.2.2.1
              have HRE := Lib.hid hRe
              clear hRe
              go_wp2
              obtain ⟨k1, kk1⟩ := set4 HRE.out.2.1 (.slice a n m) (.int .i64 pe) (.int .i64 ce) (.int .i64 qe)
              obtain ⟨k2, kk2⟩ := set3 (blk_kp HRE.out.2.2.1 kk1 (by omega)) (.int .u64 0) (.int .u64 0) (.slice none 0 0)
              have k3 := blk_kp k1 kk2 (by omega)
              have HBD := Lib.hid (Kp.below (Kp.below HRE.out.2.2.2 (Nat.le_refl _) kk1 (by omega)) (Nat.le_refl _) kk2 (by omega))
              obtain ⟨v0, v1, v2, v3⟩ := k3.c4
              obtain ⟨x0, x1, x2⟩ := k2.c3
              refine bodyPost_ret (v := .tuple #[cv (.slice a n m) pe ce qe, btagg 0 0 none 0 0, .bool false]) (by simp [results, Tryz.results25, go_sem, v0, v1, v2, v3, x0, x1, x2]) rfl ⟨0, 0, none, 0, 0, [], false, pe, ce, qe, rfl, HBD.out, ⟨rfl, Sq.nil _ _ _ _⟩, Nat.zero_le _, fun k => ⟨by simp [en0], fun s hs => by simp [en0] at hs, by simp [en0]⟩, HST.out, fun _ => rfl, fun h => absurd h HCE.out⟩
        subst hck
        have hcb3 : ((0 : Int) == 0) = true := rfl
        by_cases hlt : k < N
        case neg =>
          obtain rfl : k = N := by omega
          have HFIN := Lib.hid (HST.out.fin (.inl rfl) pk0 pk1)
          rw [if_pos rfl] at HFIN
          have HQK : Hid (qk = 0) := Lib.hid (HFIN.out.q0 (fun _ => HQ3.out) rfl)
          have HBH : Hid (St bh0 n (bhd z p) p c q (if (0 : Int) = 0 then (E, b0, H) else bh0) pk 0 qk) := Lib.hid (bhd_st HS1.out HS3.out (rhd_st HS5.out (c2 := c3') (q2 := q3) (fun _ => ⟨rfl, rfl⟩) (fun h => by rw [HFS.out] at h; cases h) (by rw [Int.toNat_natCast]; exact HFIN.out)))
          have HBP : Hid ((bhd z p).2.2.1 = 0 ∧ pk = (bhd z p).2.1) := Lib.hid (by
            obtain ⟨_, g1, _, g2, _⟩ := HBH.out.good
            exact ⟨g1, g2⟩)
          have e9 : ¬ (k : Int) < k := by omega
          go_upto_region 21 with (fail)
          clear c0 c1 c2 c3
          obtain ⟨c0, c1, c2, c3⟩ := HRB.out.1.c4
          cases sb
          · go_wp2_with fail
            clear c0 c1 c2 c3
            refine (rloose16_any a n m z 1048576 pk 0 qk _ (HZ.out.below HRB.out.2.2.2) HA.out pk0 pk1 hm hn HBY.out (by omega) (fun _ => by rw [HBP.out.2]; exact HFW.out HBP.out.1) (fun _ => HQK.out)).mono ?_
            rintro e wx ⟨Ax, kx, mx, y, p5, c5, q5, rfl, hbx, hsx, hbs, hyb, hfr, hkm, hnn⟩
            obtain ⟨fl, hfl⟩ : ∃ fl, fl = (decide (c5 = 0) && decide (piece z pk.toNat p5.toNat = bkb y)) := ⟨_, rfl⟩
            rw [← hfl]
            have HFL : Hid (c5 = 0 → fl = RO false z pk p5 y) := Lib.hid (fun h => by rw [hfl, decide_eq_true h]; rfl)
            clear hfl
            clear HST
            have hRx := HRB.out.below hbx
            have hBXx := HBX.out.below hbx
            have hOx := HO.out.below hbx
            have hszx := hbx.size
            obtain ⟨p50, p51⟩ := hsx.place
            obtain ⟨c0, c1, c2, c3⟩ := hRx.1.c4
            obtain ⟨k0, k1, k2, k3⟩ := hRx.1.f4
            obtain ⟨hRy, hkd⟩ := hRx.store (.slice a n m) p5 c5 q5 _ rfl
            obtain ⟨d0, d1, d2, d3⟩ := hRy.1.c4
            have hBXy := blk_kp hBXx hkd (by omega)
            have hOy := hOx.kp hkd (by omega)
            have hbsy := hbs.ks (Ks.of_kp (S := fun j => j = w.heap.size) hkd rfl) (fun _ ad ha e => by have := hfr ad ha; have e2 : ad.block = w.heap.size := e; omega)
            have hszy := hkd.size
            clear hRx hBXx hOx hkd hbs
            go_upto_region 24 with (fail)
            clear c0 c1 c2 c3 k0 k1 k2 k3 d0 d1 d2 d3
            generalize (((wx.setCell ⟨w.heap.size, 0, none⟩ (.slice a n m)).setCell ⟨w.heap.size, 1, none⟩ (.int .i64 p5)).setCell ⟨w.heap.size, 2, none⟩ (.int .i64 c5)).setCell ⟨w.heap.size, 3, none⟩ (.int .i64 q5) = wy at *
            obtain ⟨c0, c1, c2, c3⟩ := hRy.1.c4
            by_cases hc5 : c5 = 0
            case neg =>
              have hcb3 : (c5 == 0) = false := by simpa using hc5
              have hcb4 : (c5 != 0) = true := by simpa using hc5
              have HCE : Hid (c5 ≠ 0) := Lib.hid hc5
              have HST : Hid (St bt0 n (brd (RK false) z p) p c q bt0 p5 c5 q5) := Lib.hid (by
                have h := brd_st (K := RK false) (e := E) (b := b0) (H := H) (c7 := c5) (q7 := q5) HBH.out hsx (fun _ => ⟨rfl, rfl⟩) (fun _ => .inr ⟨hc5, rfl, rfl⟩)
                rw [if_neg hc5] at h
                exact h)
              obtain ⟨pe, hpe⟩ : ∃ pe, pe = p5 := ⟨_, rfl⟩
              obtain ⟨ce, hce⟩ : ∃ ce, ce = c5 := ⟨_, rfl⟩
              obtain ⟨qe, hqe⟩ : ∃ qe, qe = q5 := ⟨_, rfl⟩
              rw [← hpe, ← hce, ← hqe] at hRy HST
              rw [← hce] at HCE hcb3 hcb4
              have hRe := hRy
              clear hRy hpe hce hqe hc5 c0 c1 c2 c3 hBXy hOy hbsy
              obtain ⟨c0, c1, c2, c3⟩ := hRe.1.c4
              obtain ⟨d0, d1, d2, d3⟩ := hRe.2.1.c4
              obtain ⟨f0, f1, f2, f3⟩ := hRe.2.1.f4
              obtain ⟨t0, t1, t2⟩ := hRe.2.2.1.c3
              obtain ⟨u0, u1, u2⟩ := blk_f3 hRe.2.2.1
              have HRE := Lib.hid hRe
              clear hRe
              go_wp2
              obtain ⟨k1, kk1⟩ := set4 HRE.out.2.1 (.slice a n m) (.int .i64 pe) (.int .i64 ce) (.int .i64 qe)
              obtain ⟨k2, kk2⟩ := set3 (blk_kp HRE.out.2.2.1 kk1 (by omega)) (.int .u64 0) (.int .u64 0) (.slice none 0 0)
              have k3 := blk_kp k1 kk2 (by omega)
              have HBD := Lib.hid (Kp.below (Kp.below HRE.out.2.2.2 (Nat.le_refl _) kk1 (by omega)) (Nat.le_refl _) kk2 (by omega))
              obtain ⟨v0, v1, v2, v3⟩ := k3.c4
              obtain ⟨x0, x1, x2⟩ := k2.c3
              refine bodyPost_ret (v := .tuple #[cv (.slice a n m) pe ce qe, btagg 0 0 none 0 0, .bool false]) (by simp [results, Tryz.results25, go_sem, v0, v1, v2, v3, x0, x1, x2]) rfl ⟨0, 0, none, 0, 0, [], false, pe, ce, qe, rfl, HBD.out, ⟨rfl, Sq.nil _ _ _ _⟩, Nat.zero_le _, fun k => ⟨by simp [en0], fun s hs => by simp [en0] at hs, by simp [en0]⟩, HST.out, fun _ => rfl, fun h => absurd h HCE.out⟩
            subst hc5
            have hq5 : q5 = 0 := hsx.q0 (fun _ => HQK.out) rfl
            subst hq5
            have hkl : (kx : Int) = (y.length : Int) := by rw [hbsy.1]
            by_cases hsm5 : T = (y.length : Int)
            case neg =>
              have hne : ((kx : Int) != T) = true := by simp; omega
              have HNS : Hid (hsum H ≠ (y.length : Int)) := Lib.hid (by rw [← HT.out]; exact hsm5)
              clear hsm5 hkl
              go_wp2_with fail
              refine (rfail_any _ _ _ _ _ _ _ _ _).mono ?_
              rintro e wf ⟨ce, qe, rfl, hbf, hff⟩
              have HCE : Hid (ce ≠ 0) := Lib.hid (by
                rcases hff with ⟨_, h, _⟩ | ⟨h, _⟩
                · rw [h]; decide
                · exact absurd rfl h)
              have hcb3 : (ce == 0) = false := by simpa using HCE.out
              have hcb4 : (ce != 0) = true := by simpa using HCE.out
              have HST : Hid (St bt0 n (brd (RK false) z p) p c q bt0 p5 ce qe) := Lib.hid (by
                have h := brd_st (K := RK false) (e := E) (b := b0) (H := H) (c7 := ce) (q7 := qe) HBH.out hsx (fun e => absurd e HNS.out) (fun _ => hff)
                rw [if_neg HCE.out] at h
                exact h)
              have hRf := hRy.below hbf
              clear hRy hbf hff c0 c1 c2 c3 hBXy hOy hbsy hne
              obtain ⟨c0, c1, c2, c3⟩ := hRf.1.c4
              obtain ⟨k0, k1, k2, k3⟩ := hRf.1.f4
              obtain ⟨hRg, hkg⟩ := hRf.store (.slice a n m) p5 ce qe _ rfl
              obtain ⟨d0, d1, d2, d3⟩ := hRg.1.c4
              clear hRf hkg
              go_upto_region 26 with (fail)
              clear c0 c1 c2 c3 k0 k1 k2 k3 d0 d1 d2 d3
              generalize (((wf.setCell ⟨w.heap.size, 0, none⟩ (.slice a n m)).setCell ⟨w.heap.size, 1, none⟩ (.int .i64 p5)).setCell ⟨w.heap.size, 2, none⟩ (.int .i64 ce)).setCell ⟨w.heap.size, 3, none⟩ (.int .i64 qe) = wg at *
              obtain ⟨pe, hpe⟩ : ∃ pe, pe = p5 := ⟨_, rfl⟩
              rw [← hpe] at hRg HST
              have hRe := hRg
              clear hRg hpe
              obtain ⟨c0, c1, c2, c3⟩ := hRe.1.c4
              obtain ⟨d0, d1, d2, d3⟩ := hRe.2.1.c4
              obtain ⟨f0, f1, f2, f3⟩ := hRe.2.1.f4
              obtain ⟨t0, t1, t2⟩ := hRe.2.2.1.c3
              obtain ⟨u0, u1, u2⟩ := blk_f3 hRe.2.2.1
              have HRE := Lib.hid hRe
              clear hRe
              go_wp2
              obtain ⟨k1, kk1⟩ := set4 HRE.out.2.1 (.slice a n m) (.int .i64 pe) (.int .i64 ce) (.int .i64 qe)
              obtain ⟨k2, kk2⟩ := set3 (blk_kp HRE.out.2.2.1 kk1 (by omega)) (.int .u64 0) (.int .u64 0) (.slice none 0 0)
              have k3 := blk_kp k1 kk2 (by omega)
              have HBD := Lib.hid (Kp.below (Kp.below HRE.out.2.2.2 (Nat.le_refl _) kk1 (by omega)) (Nat.le_refl _) kk2 (by omega))
              obtain ⟨v0, v1, v2, v3⟩ := k3.c4
              obtain ⟨x0, x1, x2⟩ := k2.c3
              refine bodyPost_ret (v := .tuple #[cv (.slice a n m) pe ce qe, btagg 0 0 none 0 0, .bool false]) (by simp [results, Tryz.results25, go_sem, v0, v1, v2, v3, x0, x1, x2]) rfl ⟨0, 0, none, 0, 0, [], false, pe, ce, qe, rfl, HBD.out, ⟨rfl, Sq.nil _ _ _ _⟩, Nat.zero_le _, fun k => ⟨by simp [en0], fun s hs => by simp [en0] at hs, by simp [en0]⟩, HST.out, fun _ => rfl, fun h => absurd h HCE.out⟩
            have hne : ((kx : Int) != T) = false := by simp; omega
            have HYS : Hid (hsum H = (y.length : Int)) := Lib.hid (by rw [← HT.out]; exact hsm5)
            have HST : Hid (St bt0 n (brd (RK false) z p) p c q (E, b0, hdl H y) p5 0 0) := Lib.hid (by
              have h := brd_st (K := RK false) (e := E) (b := b0) (H := H) (c7 := 0) (q7 := 0) HBH.out hsx (fun _ => ⟨rfl, rfl⟩) (fun e => absurd HYS.out e)
              rw [if_pos rfl] at h
              exact h)
            have HYL : Hid (y.length ≤ 500) := Lib.hid (hsx.pv (P := fun l => l.length ≤ 500) (by simp) (by rw [HBP.out.2]; exact HK5.out HBP.out.1))
            clear hsm5
            have hN0 : 0 < (hen H).length := by rw [hen_length, HLL.out]; omega
            obtain ⟨g, cap, cur0, rfl, hgB, hgl, hgS, hcsz, hcpe⟩ := hOy.blk hN0
            obtain ⟨A2, m2, hv2, his⟩ := hOy.2.1.is
            subst hv2
            have HGS : Hid (∀ ad, A2 = some ad → ad.block ≠ g) := Lib.hid (fun ad e e2 => hgS (by rw [e, ← e2]; rfl))
            rw [hen_length, HLL.out] at hcpe hBXy
            rw [List.length_map, HLL.out] at his ⊢
            have HFI : Hid (Fits (H.map (·.2)) k y.length) := Lib.hid (by
              have h := (fits_hsum (fun h hh => (HHS.out h hh).1.1) y.length).2 HYS.out
              rw [HLL.out] at h; exact h)
            have HCP0 : Hid (CpE wy (bb + 1) g k k (fun i => if i < 0 then dle (hen H) (H.map (·.2)) y i else (hen H).getD i en0) cur0) := Lib.hid (hcpe.cast fun i _ => (if_neg (by omega)).symm)
            have HBXY := Lib.hid hBXy
            have HRY := Lib.hid hRy
            have HIS := Lib.hid his
            have HBS := Lib.hid hbsy
            have HFR := Lib.hid hfr
            have HYB := Lib.hid hyb
            have hgwr : g < wr.heap.size := by
              obtain ⟨g', _, _, e', _, hl', _⟩ := HO.out.blk hN0
              injection e' with e1
              injection e1 with e1
              injection e1 with e1
              omega
            have hyl : kx = y.length := by omega
            have HYE := Lib.hid hyl
            have hk5 : kx ≤ 500 := by have := HYL.out; omega
            rw [← hyl] at HFI
            clear hyl hkl
            clear hcpe hBXy hRy his hbsy hfr hyb hgS hOy hgl
            go_wp2
            clear c0 c1 c2 c3
            generalize wr = wo at *
            go_loopw [20, 21] (fun t i wr => ∃ (j u : Nat) (cur : Array Value), j ≤ k ∧ t = .int .i64 u ∧ i = .int .i64 j ∧ Hid (u = ofs (H.map (·.2)) j) ∧ Hid (CpE wr (bb + 1) g k k (fun i => if i < j then dle (hen H) (H.map (·.2)) y i else (hen H).getD i en0) cur) ∧ Hid (Kp g wy wr)) (fun _ i _ => k - (intOf i).toNat)
            case atStart => exact ⟨0, 0, cur0, by omega, rfl, rfl, Lib.hid rfl, HCP0, Lib.hid (Kp.refl _ _)⟩
            case round =>
              clear HCP0
              obtain ⟨j, u, cur, hj, rfl, rfl, HU, HCP, HKP⟩ := hrel
              by_cases hlt : j < k
              · have ej : (j : Int) < k := by omega
                have e3 : IntKind.i64.wrap ((j : Int) + 1) = ((j + 1 : Nat) : Int) := IntWalk.i64_in _ (by omega)
                obtain ⟨q0, q1, q2⟩ := (blk_kp HBXY.out HKP.out (by omega)).c3
                obtain ⟨gs, os, e9, s0⟩ := (show Is wr A2 k (H.map (·.2)) from ⟨HIS.out.1, HIS.out.2.kp HKP.out (fun _ ad e => HGS.out ad e)⟩).at_ hlt
                have hgs : gs ≠ g := HGS.out ⟨gs, os, none⟩ e9
                subst e9
                obtain ⟨hsn, hfo⟩ := HFI.out.1 j hlt
                obtain ⟨x, hx⟩ := Int.eq_ofNat_of_zero_le hsn
                rw [hx] at s0
                have hof : ofs (H.map (·.2)) (j + 1) = u + x := by
                  have h9 : ofs (H.map (·.2)) (j + 1) = ofs (H.map (·.2)) j + (List.getD (H.map fun h : Hd => h.2) j 0).toNat := rfl
                  rw [h9, hx, ← HU.out]; rfl
                rw [hof] at hfo
                have hsl : ∀ w', (Instr.slice 28 (.slice Ax kx mx) (some (.int .i64 (u : Int))) (some (.int .i64 ((u + x : Nat) : Int))) none).run Tryz.prog w' = .ok (.slice (if mx = u then Ax else Ax.map (·.add u)) x (mx - u)) w' := fun w' => by
                  obtain ⟨A', c', r1, _, _, r2, r3⟩ := slice_lh8 Ax kx mx u x (by omega) hkm w'
                  rw [r1, r2, r3]
                simp only [Int.natCast_add] at hsl
                have e5 : IntKind.i64.wrap ((u : Int) + (x : Int)) = (u : Int) + x := IntWalk.i64_in _ (by omega)
                have hpc : Bs wr (if mx = u then Ax else Ax.map (·.add u)) x ((y.drop u).take x) := by
                  have hb2 := HBS.out.ks (Ks.of_kp (S := fun i => i = g) HKP.out rfl) (fun _ ad ha e => by have := HFR.out ad ha; have e2 : ad.block = g := e; omega)
                  by_cases h0 : x = 0
                  · subst h0
                    exact ⟨by simp, fun h => absurd h (by simp)⟩
                  · have h9 := hb2.mid u x (by omega)
                    rw [if_neg h0] at h9
                    rw [if_neg (by omega)]
                    exact h9
                have hpb : 0 < x → ∀ ad, (if mx = u then Ax else Ax.map (·.add u)) = some ad → bb + 1 ≤ ad.block ∧ ad.block ≠ g := fun h0 ad ha => by
                  have : ∃ a0, Ax = some a0 ∧ a0.block = ad.block := by
                    split at ha
                    · exact ⟨ad, ha, rfl⟩
                    · cases Ax with
                      | none => cases ha
                      | some a0 =>
                        refine ⟨a0, rfl, ?_⟩
                        simp at ha
                        subst ha
                        simp [Addr.add]
                        try split <;> rfl
                  obtain ⟨a0, ea, eb⟩ := this
                  have := HFR.out a0 ea
                  rw [eb] at this
                  omega
                have hpn : (if mx = u then Ax else Ax.map (·.add u)) = none → mx - u = 0 := fun e => by
                  split at e
                  · omega
                  · cases Ax with
                    | none =>
                      by_cases h0 : 0 < kx
                      · obtain ⟨_, _, e2, _⟩ := HBS.out.2 h0
                        cases e2
                      · have := hnn rfl
                        omega
                    | some a0 => cases e
                have hpz : ∀ v ∈ (y.drop u).take x, 0 ≤ v ∧ v < 256 := fun v hv => HYB.out v (List.mem_of_mem_drop (List.mem_of_mem_take hv))
                have hcl := HCP.out.setD hlt (A := (if mx = u then Ax else Ax.map (·.add u))) (r := x) (m := mx - u) (D := (y.drop u).take x) hpc.1 (by omega) hpn (Bs.sq hpc hpz hpb)
                have HU2 : Hid (u + x = ofs (H.map (·.2)) (j + 1)) := Lib.hid hof.symm
                have HDL : Hid (dle (hen H) (H.map (·.2)) y j = (((hen H).getD j en0).1, (y.drop u).take x)) := Lib.hid (by unfold dle; rw [hx, ← HU.out]; rfl)
                have p1 := HCP.out.1.cell (j * 2 + 1) (Array.getElem?_eq_getElem (by have := HCP.out.2.1; omega))
                have pf := HCP.out.1.free (j * 2 + 1)
                generalize (if mx = u then Ax else Ax.map (·.add u)) = A9 at *
                have hkp := (Kp.setCell wr g (j * 2 + 1) (.slice A9 x (mx - u)))
                have HKP2 := Lib.hid (HKP.out.trans hkp)
                have HCL := Lib.hid (hcl.cast (f' := fun i => if i < j + 1 then dle (hen H) (H.map (·.2)) y i else (hen H).getD i en0) (fun i _ => by
                  by_cases hij : i = j
                  · subst hij
                    rw [if_pos rfl, if_pos (Nat.lt_succ_self i), if_neg (Nat.lt_irrefl i), HDL.out]
                  · rw [if_neg hij]
                    by_cases h2 : i < j
                    · rw [if_pos h2, if_pos (show i < j + 1 by omega)]
                    · rw [if_neg h2, if_neg (show ¬ i < j + 1 by omega)]))
                have s1 : (wr.setCell ⟨g, j * 2 + 1, none⟩ (.slice A9 x (mx - u))).cell? ⟨gs, os + j, none⟩ = some (.int .i64 (x : Int)) := by rw [World.cell?_of_block (w := wr) (hkp.block gs (lt_of_cell s0) hgs)]; exact s0
                have s2 : (wr.setCell ⟨g, j * 2 + 1, none⟩ (.slice A9 x (mx - u))).drew.cell? ⟨gs, os + j, none⟩ = some (.int .i64 (x : Int)) := s1
                clear hcl hpc hpb hpz hpn hof hfo hx hsn hkp
                have HCD := Lib.hid (HCL.out.below (below_one' (wr.setCell ⟨g, j * 2 + 1, none⟩ (.slice A9 x (mx - u)))))
                have HKD := Lib.hid (HKP2.out.trans (Kp.of_below (b := g) (below_one' (wr.setCell ⟨g, j * 2 + 1, none⟩ (.slice A9 x (mx - u))))))
                go_wp2
                go_region
                go_wp2
                go_roundw
                case rel => exact ⟨j + 1, u + x, _, by omega, by go_num, by go_num, HU2, HCD, HKD⟩
                case measure => simp [intOf]; omega
              · obtain rfl : j = k := by omega
                have hks := HKP.out
                have HEN := Lib.hid ((HCP.out.cast (f' := fun i => dle (hen H) (H.map (·.2)) y i) (fun i hi => if_pos hi)).ens hgB)
                obtain ⟨q0, q1, q2⟩ := (blk_kp HBXY.out hks (by omega)).c3
                have hRz : RdS w (.slice a n m) p5 0 0 wr := HRY.out.ks (Ks.of_kp (S := fun i => i = g) hks rfl) (fun i e => by omega)
                obtain ⟨c0, c1, c2, c3⟩ := hRz.1.c4
                obtain ⟨d0, d1, d2, d3⟩ := hRz.2.1.c4
                obtain ⟨f0, f1, f2, f3⟩ := hRz.2.1.f4
                obtain ⟨t0, t1, t2⟩ := hRz.2.2.1.c3
                obtain ⟨u0, u1, u2⟩ := blk_f3 hRz.2.2.1
                have HRZ := Lib.hid hRz
                have hbbw : w.heap.size + 3 ≤ bb := HW6.out
                have HNJ : Hid (j ≤ 16) := Lib.hid (by omega)
                clear hRz hks
                go_wp2
                go_region
                go_wp2
                obtain ⟨k1, kk1⟩ := set4 HRZ.out.2.1 (.slice a n m) (.int .i64 p5) (.int .i64 0) (.int .i64 0)
                obtain ⟨k2, kk2⟩ := set3 (blk_kp HRZ.out.2.2.1 kk1 (by omega)) (.int .u64 E) (.int .u64 b0) (.slice (some ⟨g, 0, none⟩) j cap)
                have k3 := blk_kp k1 kk2 (by omega)
                have hbdE := Kp.below (Kp.below HRZ.out.2.2.2 (Nat.le_refl _) kk1 (by omega)) (Nat.le_refl _) kk2 (by omega)
                have hens := (HEN.out.keep (w' := _) fun i hi hl => kk1.block i hl (by have h9 : bb + 1 ≤ i := hi; omega)).keep (w' := _) fun i hi hl => kk2.block i hl (by have h9 : bb + 1 ≤ i := hi; omega)
                clear kk1 kk2 k1 c0 c1 c2 c3 d0 d1 d2 d3 f0 f1 f2 f3 t0 t1 t2 u0 u1 u2 q0 q1 q2
                generalize ((((((wr.setCell ⟨w.heap.size + 1, 0, none⟩ (.slice a n m)).setCell ⟨w.heap.size + 1, 1, none⟩ (.int .i64 p5)).setCell ⟨w.heap.size + 1, 2, none⟩ (.int .i64 0)).setCell ⟨w.heap.size + 1, 3, none⟩ (.int .i64 0)).setCell ⟨w.heap.size + 2, 0, none⟩ (.int .u64 E)).setCell ⟨w.heap.size + 2, 1, none⟩ (.int .u64 b0)).setCell ⟨w.heap.size + 2, 2, none⟩ (.slice (some ⟨g, 0, none⟩) j cap) = wd at *
                have hbdD := hbdE.trans ((below_one' wd).mono hbdE.size)
                have hensD := hens.below (below_one' wd)
                have k4 : Blk wd.drew (w.heap.size + 1) (cvs (.slice a n m) p5 0 0) 50 := k3
                have k5 : Blk wd.drew (w.heap.size + 2) (btenc E b0 (some ⟨g, 0, none⟩) j cap) 25 := k2
                obtain ⟨v0, v1, v2, v3⟩ := k4.c4
                obtain ⟨z0, z1, z2⟩ := k5.c3
                have hlist : (List.range j).map (fun i => dle (hen H) (H.map (·.2)) y i) = hdl H y := by rw [← HLL.out]; exact dealt_hdl H y
                rw [hlist] at hensD
                refine bodyPost_ret (v := .tuple #[cv (.slice a n m) p5 0 0, btagg E b0 (some ⟨g, 0, none⟩) j cap, .bool fl]) (by simp [results, Tryz.results25, go_sem, v0, v1, v2, v3, z0, z1, z2]) rfl ⟨E, b0, _, j, cap, hdl H y, fl, p5, 0, 0, rfl, hbdD, hensD.mono fun i hi _ => by have h9 : bb + 1 ≤ i := hi; show w.heap.size ≤ i; omega, HNJ.out, hdl_esm HHS.out HYL.out, HST.out, fun h => absurd rfl h, fun _ => ⟨HBP.out.1, ?_⟩⟩
                first | rfl | (rw [HFL.out trivial, HBP.out.2, (hds_hdl H y (fun h hh => (HHS.out h hh).1.1) HYS.out).2]) | (rw [HFL.out rfl, HBP.out.2, (hds_hdl H y (fun h hh => (HHS.out h hh).1.1) HYS.out).2])
          · go_wp2_with fail
            clear c0 c1 c2 c3
            refine (rread16_any a n m z 1048576 pk 0 qk _ (HZ.out.below HRB.out.2.2.2) HA.out pk0 pk1 hm hn HBY.out (by omega) (fun _ => by rw [HBP.out.2]; exact HFW.out HBP.out.1) (fun _ => HQK.out)).mono ?_
            rintro e wx ⟨Ax, kx, mx, y, p5, c5, q5, rfl, hbx, hsx, hbs, hyb, hfr, hkm, hnn⟩
            have HFL : Hid (c5 = 0 → true = RO true z pk p5 y) := Lib.hid (fun h => rfl)
            clear HST
            have hRx := HRB.out.below hbx
            have hBXx := HBX.out.below hbx
            have hOx := HO.out.below hbx
            have hszx := hbx.size
            obtain ⟨p50, p51⟩ := hsx.place
            obtain ⟨c0, c1, c2, c3⟩ := hRx.1.c4
            obtain ⟨k0, k1, k2, k3⟩ := hRx.1.f4
            obtain ⟨hRy, hkd⟩ := hRx.store (.slice a n m) p5 c5 q5 _ rfl
            obtain ⟨d0, d1, d2, d3⟩ := hRy.1.c4
            have hBXy := blk_kp hBXx hkd (by omega)
            have hOy := hOx.kp hkd (by omega)
            have hbsy := hbs.ks (Ks.of_kp (S := fun j => j = w.heap.size) hkd rfl) (fun _ ad ha e => by have := hfr ad ha; have e2 : ad.block = w.heap.size := e; omega)
            have hszy := hkd.size
            clear hRx hBXx hOx hkd hbs
            go_upto_region 24 with (fail)
            clear c0 c1 c2 c3 k0 k1 k2 k3 d0 d1 d2 d3
            generalize (((wx.setCell ⟨w.heap.size, 0, none⟩ (.slice a n m)).setCell ⟨w.heap.size, 1, none⟩ (.int .i64 p5)).setCell ⟨w.heap.size, 2, none⟩ (.int .i64 c5)).setCell ⟨w.heap.size, 3, none⟩ (.int .i64 q5) = wy at *
            obtain ⟨c0, c1, c2, c3⟩ := hRy.1.c4
            by_cases hc5 : c5 = 0
            case neg =>
              have hcb3 : (c5 == 0) = false := by simpa using hc5
              have hcb4 : (c5 != 0) = true := by simpa using hc5
              have HCE : Hid (c5 ≠ 0) := Lib.hid hc5
              have HST : Hid (St bt0 n (brd (RK true) z p) p c q bt0 p5 c5 q5) := Lib.hid (by
                have h := brd_st (K := RK true) (e := E) (b := b0) (H := H) (c7 := c5) (q7 := q5) HBH.out hsx (fun _ => ⟨rfl, rfl⟩) (fun _ => .inr ⟨hc5, rfl, rfl⟩)
                rw [if_neg hc5] at h
                exact h)
              obtain ⟨pe, hpe⟩ : ∃ pe, pe = p5 := ⟨_, rfl⟩
              obtain ⟨ce, hce⟩ : ∃ ce, ce = c5 := ⟨_, rfl⟩
              obtain ⟨qe, hqe⟩ : ∃ qe, qe = q5 := ⟨_, rfl⟩
              rw [← hpe, ← hce, ← hqe] at hRy HST
              rw [← hce] at HCE hcb3 hcb4
              have hRe := hRy
              clear hRy hpe hce hqe hc5 c0 c1 c2 c3 hBXy hOy hbsy
              obtain ⟨c0, c1, c2, c3⟩ := hRe.1.c4
              obtain ⟨d0, d1, d2, d3⟩ := hRe.2.1.c4
              obtain ⟨f0, f1, f2, f3⟩ := hRe.2.1.f4
              obtain ⟨t0, t1, t2⟩ := hRe.2.2.1.c3
              obtain ⟨u0, u1, u2⟩ := blk_f3 hRe.2.2.1
              have HRE := Lib.hid hRe
              clear hRe
              go_wp2
              obtain ⟨k1, kk1⟩ := set4 HRE.out.2.1 (.slice a n m) (.int .i64 pe) (.int .i64 ce) (.int .i64 qe)
              obtain ⟨k2, kk2⟩ := set3 (blk_kp HRE.out.2.2.1 kk1 (by omega)) (.int .u64 0) (.int .u64 0) (.slice none 0 0)
              have k3 := blk_kp k1 kk2 (by omega)
              have HBD := Lib.hid (Kp.below (Kp.below HRE.out.2.2.2 (Nat.le_refl _) kk1 (by omega)) (Nat.le_refl _) kk2 (by omega))
              obtain ⟨v0, v1, v2, v3⟩ := k3.c4
              obtain ⟨x0, x1, x2⟩ := k2.c3
              refine bodyPost_ret (v := .tuple #[cv (.slice a n m) pe ce qe, btagg 0 0 none 0 0, .bool false]) (by simp [results, Tryz.results25, go_sem, v0, v1, v2, v3, x0, x1, x2]) rfl ⟨0, 0, none, 0, 0, [], false, pe, ce, qe, rfl, HBD.out, ⟨rfl, Sq.nil _ _ _ _⟩, Nat.zero_le _, fun k => ⟨by simp [en0], fun s hs => by simp [en0] at hs, by simp [en0]⟩, HST.out, fun _ => rfl, fun h => absurd h HCE.out⟩
            subst hc5
            have hq5 : q5 = 0 := hsx.q0 (fun _ => HQK.out) rfl
            subst hq5
            have hkl : (kx : Int) = (y.length : Int) := by rw [hbsy.1]
            by_cases hsm5 : T = (y.length : Int)
            case neg =>
              have hne : ((kx : Int) != T) = true := by simp; omega
              have HNS : Hid (hsum H ≠ (y.length : Int)) := Lib.hid (by rw [← HT.out]; exact hsm5)
              clear hsm5 hkl
              go_wp2_with fail
              refine (rfail_any _ _ _ _ _ _ _ _ _).mono ?_
              rintro e wf ⟨ce, qe, rfl, hbf, hff⟩
              have HCE : Hid (ce ≠ 0) := Lib.hid (by
                rcases hff with ⟨_, h, _⟩ | ⟨h, _⟩
                · rw [h]; decide
                · exact absurd rfl h)
              have hcb3 : (ce == 0) = false := by simpa using HCE.out
              have hcb4 : (ce != 0) = true := by simpa using HCE.out
              have HST : Hid (St bt0 n (brd (RK true) z p) p c q bt0 p5 ce qe) := Lib.hid (by
                have h := brd_st (K := RK true) (e := E) (b := b0) (H := H) (c7 := ce) (q7 := qe) HBH.out hsx (fun e => absurd e HNS.out) (fun _ => hff)
                rw [if_neg HCE.out] at h
                exact h)
              have hRf := hRy.below hbf
              clear hRy hbf hff c0 c1 c2 c3 hBXy hOy hbsy hne
              obtain ⟨c0, c1, c2, c3⟩ := hRf.1.c4
              obtain ⟨k0, k1, k2, k3⟩ := hRf.1.f4
              obtain ⟨hRg, hkg⟩ := hRf.store (.slice a n m) p5 ce qe _ rfl
              obtain ⟨d0, d1, d2, d3⟩ := hRg.1.c4
              clear hRf hkg
              go_upto_region 26 with (fail)
              clear c0 c1 c2 c3 k0 k1 k2 k3 d0 d1 d2 d3
              generalize (((wf.setCell ⟨w.heap.size, 0, none⟩ (.slice a n m)).setCell ⟨w.heap.size, 1, none⟩ (.int .i64 p5)).setCell ⟨w.heap.size, 2, none⟩ (.int .i64 ce)).setCell ⟨w.heap.size, 3, none⟩ (.int .i64 qe) = wg at *
              obtain ⟨pe, hpe⟩ : ∃ pe, pe = p5 := ⟨_, rfl⟩
              rw [← hpe] at hRg HST
              have hRe := hRg
              clear hRg hpe
              obtain ⟨c0, c1, c2, c3⟩ := hRe.1.c4
              obtain ⟨d0, d1, d2, d3⟩ := hRe.2.1.c4
              obtain ⟨f0, f1, f2, f3⟩ := hRe.2.1.f4
              obtain ⟨t0, t1, t2⟩ := hRe.2.2.1.c3
              obtain ⟨u0, u1, u2⟩ := blk_f3 hRe.2.2.1
              have HRE := Lib.hid hRe
              clear hRe
              go_wp2
              obtain ⟨k1, kk1⟩ := set4 HRE.out.2.1 (.slice a n m) (.int .i64 pe) (.int .i64 ce) (.int .i64 qe)
              obtain ⟨k2, kk2⟩ := set3 (blk_kp HRE.out.2.2.1 kk1 (by omega)) (.int .u64 0) (.int .u64 0) (.slice none 0 0)
              have k3 := blk_kp k1 kk2 (by omega)
              have HBD := Lib.hid (Kp.below (Kp.below HRE.out.2.2.2 (Nat.le_refl _) kk1 (by omega)) (Nat.le_refl _) kk2 (by omega))
              obtain ⟨v0, v1, v2, v3⟩ := k3.c4
              obtain ⟨x0, x1, x2⟩ := k2.c3
              refine bodyPost_ret (v := .tuple #[cv (.slice a n m) pe ce qe, btagg 0 0 none 0 0, .bool false]) (by simp [results, Tryz.results25, go_sem, v0, v1, v2, v3, x0, x1, x2]) rfl ⟨0, 0, none, 0, 0, [], false, pe, ce, qe, rfl, HBD.out, ⟨rfl, Sq.nil _ _ _ _⟩, Nat.zero_le _, fun k => ⟨by simp [en0], fun s hs => by simp [en0] at hs, by simp [en0]⟩, HST.out, fun _ => rfl, fun h => absurd h HCE.out⟩
            have hne : ((kx : Int) != T) = false := by simp; omega
            have HYS : Hid (hsum H = (y.length : Int)) := Lib.hid (by rw [← HT.out]; exact hsm5)
            have HST : Hid (St bt0 n (brd (RK true) z p) p c q (E, b0, hdl H y) p5 0 0) := Lib.hid (by
              have h := brd_st (K := RK true) (e := E) (b := b0) (H := H) (c7 := 0) (q7 := 0) HBH.out hsx (fun _ => ⟨rfl, rfl⟩) (fun e => absurd HYS.out e)
              rw [if_pos rfl] at h
              exact h)
            have HYL : Hid (y.length ≤ 500) := Lib.hid (hsx.pv (P := fun l => l.length ≤ 500) (by simp) (by rw [HBP.out.2]; exact HK5.out HBP.out.1))
            clear hsm5
            have hN0 : 0 < (hen H).length := by rw [hen_length, HLL.out]; omega
            obtain ⟨g, cap, cur0, rfl, hgB, hgl, hgS, hcsz, hcpe⟩ := hOy.blk hN0
            obtain ⟨A2, m2, hv2, his⟩ := hOy.2.1.is
            subst hv2
            have HGS : Hid (∀ ad, A2 = some ad → ad.block ≠ g) := Lib.hid (fun ad e e2 => hgS (by rw [e, ← e2]; rfl))
            rw [hen_length, HLL.out] at hcpe hBXy
            rw [List.length_map, HLL.out] at his ⊢
            have HFI : Hid (Fits (H.map (·.2)) k y.length) := Lib.hid (by
              have h := (fits_hsum (fun h hh => (HHS.out h hh).1.1) y.length).2 HYS.out
              rw [HLL.out] at h; exact h)
            have HCP0 : Hid (CpE wy (bb + 1) g k k (fun i => if i < 0 then dle (hen H) (H.map (·.2)) y i else (hen H).getD i en0) cur0) := Lib.hid (hcpe.cast fun i _ => (if_neg (by omega)).symm)
            have HBXY := Lib.hid hBXy
            have HRY := Lib.hid hRy
            have HIS := Lib.hid his
            have HBS := Lib.hid hbsy
            have HFR := Lib.hid hfr
            have HYB := Lib.hid hyb
            have hgwr : g < wr.heap.size := by
              obtain ⟨g', _, _, e', _, hl', _⟩ := HO.out.blk hN0
              injection e' with e1
              injection e1 with e1
              injection e1 with e1
              omega
            have hyl : kx = y.length := by omega
            have HYE := Lib.hid hyl
            have hk5 : kx ≤ 500 := by have := HYL.out; omega
            rw [← hyl] at HFI
            clear hyl hkl
            clear hcpe hBXy hRy his hbsy hfr hyb hgS hOy hgl
            go_wp2
            clear c0 c1 c2 c3
            generalize wr = wo at *
            go_loopw [20, 21] (fun t i wr => ∃ (j u : Nat) (cur : Array Value), j ≤ k ∧ t = .int .i64 u ∧ i = .int .i64 j ∧ Hid (u = ofs (H.map (·.2)) j) ∧ Hid (CpE wr (bb + 1) g k k (fun i => if i < j then dle (hen H) (H.map (·.2)) y i else (hen H).getD i en0) cur) ∧ Hid (Kp g wy wr)) (fun _ i _ => k - (intOf i).toNat)
            case atStart => exact ⟨0, 0, cur0, by omega, rfl, rfl, Lib.hid rfl, HCP0, Lib.hid (Kp.refl _ _)⟩
            case round =>
              clear HCP0
              obtain ⟨j, u, cur, hj, rfl, rfl, HU, HCP, HKP⟩ := hrel
              by_cases hlt : j < k
              · have ej : (j : Int) < k := by omega
                have e3 : IntKind.i64.wrap ((j : Int) + 1) = ((j + 1 : Nat) : Int) := IntWalk.i64_in _ (by omega)
                obtain ⟨q0, q1, q2⟩ := (blk_kp HBXY.out HKP.out (by omega)).c3
                obtain ⟨gs, os, e9, s0⟩ := (show Is wr A2 k (H.map (·.2)) from ⟨HIS.out.1, HIS.out.2.kp HKP.out (fun _ ad e => HGS.out ad e)⟩).at_ hlt
                have hgs : gs ≠ g := HGS.out ⟨gs, os, none⟩ e9
                subst e9
                obtain ⟨hsn, hfo⟩ := HFI.out.1 j hlt
                obtain ⟨x, hx⟩ := Int.eq_ofNat_of_zero_le hsn
                rw [hx] at s0
                have hof : ofs (H.map (·.2)) (j + 1) = u + x := by
                  have h9 : ofs (H.map (·.2)) (j + 1) = ofs (H.map (·.2)) j + (List.getD (H.map fun h : Hd => h.2) j 0).toNat := rfl
                  rw [h9, hx, ← HU.out]; rfl
                rw [hof] at hfo
                have hsl : ∀ w', (Instr.slice 28 (.slice Ax kx mx) (some (.int .i64 (u : Int))) (some (.int .i64 ((u + x : Nat) : Int))) none).run Tryz.prog w' = .ok (.slice (if mx = u then Ax else Ax.map (·.add u)) x (mx - u)) w' := fun w' => by
                  obtain ⟨A', c', r1, _, _, r2, r3⟩ := slice_lh8 Ax kx mx u x (by omega) hkm w'
                  rw [r1, r2, r3]
                simp only [Int.natCast_add] at hsl
                have e5 : IntKind.i64.wrap ((u : Int) + (x : Int)) = (u : Int) + x := IntWalk.i64_in _ (by omega)
                have hpc : Bs wr (if mx = u then Ax else Ax.map (·.add u)) x ((y.drop u).take x) := by
                  have hb2 := HBS.out.ks (Ks.of_kp (S := fun i => i = g) HKP.out rfl) (fun _ ad ha e => by have := HFR.out ad ha; have e2 : ad.block = g := e; omega)
                  by_cases h0 : x = 0
                  · subst h0
                    exact ⟨by simp, fun h => absurd h (by simp)⟩
                  · have h9 := hb2.mid u x (by omega)
                    rw [if_neg h0] at h9
                    rw [if_neg (by omega)]
                    exact h9
                have hpb : 0 < x → ∀ ad, (if mx = u then Ax else Ax.map (·.add u)) = some ad → bb + 1 ≤ ad.block ∧ ad.block ≠ g := fun h0 ad ha => by
                  have : ∃ a0, Ax = some a0 ∧ a0.block = ad.block := by
                    split at ha
                    · exact ⟨ad, ha, rfl⟩
                    · cases Ax with
                      | none => cases ha
                      | some a0 =>
                        refine ⟨a0, rfl, ?_⟩
                        simp at ha
                        subst ha
                        simp [Addr.add]
                        try split <;> rfl
                  obtain ⟨a0, ea, eb⟩ := this
                  have := HFR.out a0 ea
                  rw [eb] at this
                  omega
                have hpn : (if mx = u then Ax else Ax.map (·.add u)) = none → mx - u = 0 := fun e => by
                  split at e
                  · omega
                  · cases Ax with
                    | none =>
                      by_cases h0 : 0 < kx
                      · obtain ⟨_, _, e2, _⟩ := HBS.out.2 h0
                        cases e2
                      · have := hnn rfl
                        omega
                    | some a0 => cases e
                have hpz : ∀ v ∈ (y.drop u).take x, 0 ≤ v ∧ v < 256 := fun v hv => HYB.out v (List.mem_of_mem_drop (List.mem_of_mem_take hv))
                have hcl := HCP.out.setD hlt (A := (if mx = u then Ax else Ax.map (·.add u))) (r := x) (m := mx - u) (D := (y.drop u).take x) hpc.1 (by omega) hpn (Bs.sq hpc hpz hpb)
                have HU2 : Hid (u + x = ofs (H.map (·.2)) (j + 1)) := Lib.hid hof.symm
                have HDL : Hid (dle (hen H) (H.map (·.2)) y j = (((hen H).getD j en0).1, (y.drop u).take x)) := Lib.hid (by unfold dle; rw [hx, ← HU.out]; rfl)
                have p1 := HCP.out.1.cell (j * 2 + 1) (Array.getElem?_eq_getElem (by have := HCP.out.2.1; omega))
                have pf := HCP.out.1.free (j * 2 + 1)
                generalize (if mx = u then Ax else Ax.map (·.add u)) = A9 at *
                have hkp := (Kp.setCell wr g (j * 2 + 1) (.slice A9 x (mx - u)))
                have HKP2 := Lib.hid (HKP.out.trans hkp)
                have HCL := Lib.hid (hcl.cast (f' := fun i => if i < j + 1 then dle (hen H) (H.map (·.2)) y i else (hen H).getD i en0) (fun i _ => by
                  by_cases hij : i = j
                  · subst hij
                    rw [if_pos rfl, if_pos (Nat.lt_succ_self i), if_neg (Nat.lt_irrefl i), HDL.out]
                  · rw [if_neg hij]
                    by_cases h2 : i < j
                    · rw [if_pos h2, if_pos (show i < j + 1 by omega)]
                    · rw [if_neg h2, if_neg (show ¬ i < j + 1 by omega)]))
                have s1 : (wr.setCell ⟨g, j * 2 + 1, none⟩ (.slice A9 x (mx - u))).cell? ⟨gs, os + j, none⟩ = some (.int .i64 (x : Int)) := by rw [World.cell?_of_block (w := wr) (hkp.block gs (lt_of_cell s0) hgs)]; exact s0
                have s2 : (wr.setCell ⟨g, j * 2 + 1, none⟩ (.slice A9 x (mx - u))).drew.cell? ⟨gs, os + j, none⟩ = some (.int .i64 (x : Int)) := s1
                clear hcl hpc hpb hpz hpn hof hfo hx hsn hkp
                have HCD := Lib.hid (HCL.out.below (below_one' (wr.setCell ⟨g, j * 2 + 1, none⟩ (.slice A9 x (mx - u)))))
                have HKD := Lib.hid (HKP2.out.trans (Kp.of_below (b := g) (below_one' (wr.setCell ⟨g, j * 2 + 1, none⟩ (.slice A9 x (mx - u))))))
                go_wp2
                go_region
                go_wp2
                go_roundw
                case rel => exact ⟨j + 1, u + x, _, by omega, by go_num, by go_num, HU2, HCD, HKD⟩
                case measure => simp [intOf]; omega
              · obtain rfl : j = k := by omega
                have hks := HKP.out
                have HEN := Lib.hid ((HCP.out.cast (f' := fun i => dle (hen H) (H.map (·.2)) y i) (fun i hi => if_pos hi)).ens hgB)
                obtain ⟨q0, q1, q2⟩ := (blk_kp HBXY.out hks (by omega)).c3
                have hRz : RdS w (.slice a n m) p5 0 0 wr := HRY.out.ks (Ks.of_kp (S := fun i => i = g) hks rfl) (fun i e => by omega)
                obtain ⟨c0, c1, c2, c3⟩ := hRz.1.c4
                obtain ⟨d0, d1, d2, d3⟩ := hRz.2.1.c4
                obtain ⟨f0, f1, f2, f3⟩ := hRz.2.1.f4
                obtain ⟨t0, t1, t2⟩ := hRz.2.2.1.c3
                obtain ⟨u0, u1, u2⟩ := blk_f3 hRz.2.2.1
                have HRZ := Lib.hid hRz
                have hbbw : w.heap.size + 3 ≤ bb := HW6.out
                have HNJ : Hid (j ≤ 16) := Lib.hid (by omega)
                clear hRz hks
                go_wp2
                go_region
                go_wp2
                obtain ⟨k1, kk1⟩ := set4 HRZ.out.2.1 (.slice a n m) (.int .i64 p5) (.int .i64 0) (.int .i64 0)
                obtain ⟨k2, kk2⟩ := set3 (blk_kp HRZ.out.2.2.1 kk1 (by omega)) (.int .u64 E) (.int .u64 b0) (.slice (some ⟨g, 0, none⟩) j cap)
                have k3 := blk_kp k1 kk2 (by omega)
                have hbdE := Kp.below (Kp.below HRZ.out.2.2.2 (Nat.le_refl _) kk1 (by omega)) (Nat.le_refl _) kk2 (by omega)
                have hens := (HEN.out.keep (w' := _) fun i hi hl => kk1.block i hl (by have h9 : bb + 1 ≤ i := hi; omega)).keep (w' := _) fun i hi hl => kk2.block i hl (by have h9 : bb + 1 ≤ i := hi; omega)
                clear kk1 kk2 k1 c0 c1 c2 c3 d0 d1 d2 d3 f0 f1 f2 f3 t0 t1 t2 u0 u1 u2 q0 q1 q2
                generalize ((((((wr.setCell ⟨w.heap.size + 1, 0, none⟩ (.slice a n m)).setCell ⟨w.heap.size + 1, 1, none⟩ (.int .i64 p5)).setCell ⟨w.heap.size + 1, 2, none⟩ (.int .i64 0)).setCell ⟨w.heap.size + 1, 3, none⟩ (.int .i64 0)).setCell ⟨w.heap.size + 2, 0, none⟩ (.int .u64 E)).setCell ⟨w.heap.size + 2, 1, none⟩ (.int .u64 b0)).setCell ⟨w.heap.size + 2, 2, none⟩ (.slice (some ⟨g, 0, none⟩) j cap) = wd at *
                have hbdD := hbdE.trans ((below_one' wd).mono hbdE.size)
                have hensD := hens.below (below_one' wd)
                have k4 : Blk wd.drew (w.heap.size + 1) (cvs (.slice a n m) p5 0 0) 50 := k3
                have k5 : Blk wd.drew (w.heap.size + 2) (btenc E b0 (some ⟨g, 0, none⟩) j cap) 25 := k2
                obtain ⟨v0, v1, v2, v3⟩ := k4.c4
                obtain ⟨z0, z1, z2⟩ := k5.c3
                have hlist : (List.range j).map (fun i => dle (hen H) (H.map (·.2)) y i) = hdl H y := by rw [← HLL.out]; exact dealt_hdl H y
                rw [hlist] at hensD
                refine bodyPost_ret (v := .tuple #[cv (.slice a n m) p5 0 0, btagg E b0 (some ⟨g, 0, none⟩) j cap, .bool true]) (by simp [results, Tryz.results25, go_sem, v0, v1, v2, v3, z0, z1, z2]) rfl ⟨E, b0, _, j, cap, hdl H y, true, p5, 0, 0, rfl, hbdD, hensD.mono fun i hi _ => by have h9 : bb + 1 ≤ i := hi; show w.heap.size ≤ i; omega, HNJ.out, hdl_esm HHS.out HYL.out, HST.out, fun h => absurd rfl h, fun _ => ⟨HBP.out.1, ?_⟩⟩
                first | rfl | (rw [HFL.out trivial, HBP.out.2, (hds_hdl H y (fun h hh => (HHS.out h hh).1.1) HYS.out).2]) | (rw [HFL.out rfl, HBP.out.2, (hds_hdl H y (fun h hh => (HHS.out h hh).1.1) HYS.out).2])
        have e2 : (k : Int) < N := by omega
        have e3 : IntKind.i64.wrap ((k : Int) + 1) = ((k + 1 : Nat) : Int) := IntWalk.i64_in _ (by omega)
        have e4 : IntKind.u64.wrap (k : Int) = k := IntWalk.u64_in _ (by omega)
        have e5 : IntKind.u64.wrap (b0 + k) = b0 + k := IntWalk.u64_in _ (by omega)
        have e6 : IntKind.i64.wrap (1048576 - T) = 1048576 - T := IntWalk.i64_in _ (by omega)
        have hcon := rreadhead_any a n m z (b0 + k) (1048576 - T) pk 0 qk wr (HZ.out.below HRB.out.2.2.2) pk0 pk1 hm (by omega) HBY.out (by omega) (by omega) (by omega)
        go_wp2_with fail
        clear c0 c1 c2 c3
        refine hcon.mono ?_
        rintro en w3 ⟨v1, L1, x1, p4, c4, q4, rfl, hb3, hoL, hL16, hbl4, hs4⟩
        have hvb := hs4.pv (P := fun x => 0 ≤ x.2 ∧ x.2 ≤ 1048576 - T) ⟨Int.le_refl _, by show (0 : Int) ≤ _; omega⟩ (hrd_bd HBY.out (b0 + k) (1048576 - T) pk (by omega))
        replace hvb : 0 ≤ x1 ∧ x1 ≤ 1048576 - T := hvb
        have HVB : Hid ((0 ≤ x1 ∧ x1 ≤ 1048576) ∧ 0 ≤ T + x1 ∧ T + x1 ≤ 1048576) := Lib.hid (by omega)
        obtain ⟨p40, p41⟩ := hs4.place
        have HNX := Lib.hid (HST.out.next (s2 := (L1, x1)) hlt (by rw [← HT.out]; exact hs4) (fun _ => rfl))
        obtain ⟨A1, m1, rfl, hN1, hnl1, hlk3⟩ := hoL.lks
        have hbA := below_one w3 (.cells (cvs (.slice a n m) p4 c4 q4) 50)
        have hbX := hb3.trans (hbA.mono hb3.size)
        have hEb := Blk.new w3 (cvs (.slice a n m) p4 c4 q4) 50
        have hR4 := HRB.out.below hbX
        have hO4 := HO.out.below hbX
        have hB4 := HBX.out.below hbX
        have hlk4 := hlk3.below hbA
        have hs34 : wr.heap.size ≤ w3.heap.size := hb3.size
        have hltS : ∀ g, Value.ownBlock _ = some g → g < wr.heap.size := fun g hg => (World.ownsRow.lt HO.out.2.1 g hg).2
        have hltH : ∀ g, vH.ownBlock = some g → g < wr.heap.size := fun g hg => by
          obtain ⟨⟨_, _, k2, _⟩, _, _⟩ := HO.out
          exact (World.ownsRow.lt k2 g hg).2
        have HLT := Lib.hid (And.intro hltS hltH)
        have HB4' := Lib.hid (And.intro hL16 hbl4)
        obtain ⟨l1, hl1⟩ : ∃ l1, l1 = L1.length := ⟨_, rfl⟩
        rw [← hl1] at hlk4 hN1 ⊢
        have HL1 := Lib.hid hl1
        clear hcon hb3 hoL hs4 hlk3 hbA hbX hltS hltH hL16 hbl4 hl1
        obtain ⟨y0, y1, y2, y3⟩ := hEb.c4
        obtain ⟨c0, c1, c2, c3⟩ := hR4.1.c4
        obtain ⟨k0, k1, k2, k3⟩ := hR4.1.f4
        obtain ⟨hR5, hkd⟩ := hR4.store (.slice a n m) p4 c4 q4 _ rfl
        have hO5 := hO4.kp hkd (by omega)
        have hB5 := blk_kp hB4 hkd (by omega)
        have hlk5 := hlk4.keep fun g hg hl => hkd.block g hl (by have h9 : wr.heap.size ≤ g := hg; omega)
        have hs45 := hkd.size
        have hs33 : (w3.alloc (.cells (cvs (.slice a n m) p4 c4 q4) 50)).heap.size = w3.heap.size + 1 := by simp
        clear hR4 hO4 hB4 hlk4 hEb hkd
        have e7 : IntKind.i64.wrap (T + x1) = T + x1 := IntWalk.i64_in _ (by omega)
        go_upto_region 16 with (fail)
        clear y0 y1 y2 y3 c0 c1 c2 c3 k0 k1 k2 k3
        generalize ((((w3.alloc (.cells (cvs (.slice a n m) p4 c4 q4) 50)).setCell ⟨w.heap.size, 0, none⟩ (.slice a n m)).setCell ⟨w.heap.size, 1, none⟩ (.int .i64 p4)).setCell ⟨w.heap.size, 2, none⟩ (.int .i64 c4)).setCell ⟨w.heap.size, 3, none⟩ (.int .i64 q4) = w5 at *
        have hw35 : wr.heap.size < w5.heap.size := by omega
        have hA6 := below_one w5 (.cells #[.int .i64 x1] 3)
        have hrw6 := rw_new24 w5 (iv [x1]) 3
        have hO6 := hO5.below hA6
        have HB6 := Lib.hid (hB5.below hA6)
        have HR6 := Lib.hid (hR5.below hA6)
        have hlk6 := (hlk5.mono (Q := fun g => wr.heap.size ≤ g ∧ g < w5.heap.size) (fun g hg hl => ⟨hg, hl⟩)).below hA6
        have hB56 := hA6.size
        have gS : (w5.alloc (.cells #[.int .i64 x1] 3)).ownsRow (bb + 1) 3 1 _ (H.map (·.2)).length (iv (H.map (·.2))) := hO6.2.1
        have hgeS := own_ge gS
        have HLS : Hid ((H.map (·.2)).length + 1 ≤ 1000000) := Lib.hid (by rw [List.length_map, HLL.out]; omega)
        have hBB : bb + 1 ≤ (w5.alloc (.cells #[.int .i64 x1] 3)).heap.size := by omega
        clear hO5 hB5 hR5 hlk5 hA6 hs33
        go_upto_region 17 with (at_builtin; go_must (refine list_append_rw kindI24 rfl (.tmp 82) (.tmp 84) rfl (bb + 1) _ _ _ rfl gS _ 1 _ (iv [x1]) rfl rfl hrw6 (by simp) (fun u hu => by simp at hu; subst hu; rfl) HLS.out (by omega) hBB ?_; intro v7 w7' ho7 hg7 hgr7; have hkS := Ks.of_grown (S := fun g => (Value.ownBlock _ : Option Nat) = some g) hg7 (fun k e => e); have hO7 := hO6.pushS ho7 hg7 hgr7; have HB7 := Lib.hid (HB6.out.ks hkS (fun e => by have := hgeS bb e; omega)); have HR7 := Lib.hid (HR6.out.ks hkS (fun g e => by have := hgeS g e; have := HW6.out; omega)); have hlk7 := hlk6.keep (fun g hg hl => hkS.block g hl (fun e => by have := HLT.out.1 g e; omega)); have hs67 := hg7.size; have HGR7 := Lib.hid hgr7; clear ho7 hg7 hgr7 hO6 hlk6 gS hgeS hkS hrw6))
        have hA8 := below_one w7' (.cells (enc' A1 l1 m1 none 0 0) 62)
        have hrw8 := rw_new w7' [.slice A1 l1 m1, .slice none 0 0] 62
        obtain ⟨x0, x1', x2⟩ := HB7.out.c3
        have hO8 := hO7.below hA8
        have HB8 := Lib.hid (HB7.out.below hA8)
        have HR8 := Lib.hid (HR7.out.below hA8)
        have hlk8 := hlk7.below hA8
        obtain ⟨⟨cs, g1, g2', g3⟩, gN, gne⟩ := hO8
        have g2 : (w7'.alloc (.cells (enc' A1 l1 m1 none 0 0) 62)).ownsRow (bb + 1) 62 2 vH (hen H).length cs.flatten := g2'
        clear g2' hO7
        have hge2 := own_ge g2
        have hel := EnE.mk (hlk8.mono (Q := fun i => bb + 1 ≤ i ∧ vH.ownBlock ≠ some i ∧ v7.ownBlock ≠ some i) (fun g hg _ => ⟨by omega, fun e => by have := HLT.out.2 g e; omega, fun e => by
          rcases HGR7.out with e2 | ⟨g', e2, hg'⟩
          · rw [e2] at e; have := HLT.out.1 g e; omega
          · rw [e2] at e; injection e with e; omega⟩)) hN1 hnl1 (D := []) (r := 0) (k := 0) (B := none) rfl (Nat.le_refl _) (fun _ => rfl) (Sq.nil _ _ _ _)
        have HLN : Hid ((hen H).length + 1 ≤ 1000000) := Lib.hid (by rw [hen_length, HLL.out]; omega)
        have hB8 : bb + 1 ≤ (w7'.alloc (.cells (enc' A1 l1 m1 none 0 0) 62)).heap.size := by have := hA8.size; omega
        clear hlk7 hlk8 hA8
        go_wp2_with (at_builtin; go_must (refine list_append_rw kindEN rfl (.tmp 87) (.tmp 90) rfl (bb + 1) _ _ _ rfl g2 _ 1 _ [.slice A1 l1 m1, .slice none 0 0] rfl rfl hrw8 (by simp) (by simp [Value.oneCell']) HLN.out (by omega) hB8 ?_; intro v9 w9 ho9 hg9 hgr9; have hkH := Ks.of_grown (S := fun g => vH.ownBlock = some g) hg9 (fun k e => e); have hO9 := Hs2.pushH g1 g3 gN gne hel ho9 hg9 hgr9; obtain ⟨A9, c9, hv9, _⟩ := hO9.1.slice; obtain ⟨l9, hl9⟩ : ∃ l9, l9 = (hen H ++ [((L1, []) : En)]).length := ⟨_, rfl⟩; rw [← hl9] at hv9; clear hl9; subst hv9; have hB9 := HB8.out.ks hkH (fun e => by have := hge2 bb e; omega); have hR9 := HR8.out.ks hkH (fun g e => by have := hge2 g e; have := HW6.out; omega); have HS9 : Hid (bb + 1 ≤ w9.heap.size) := Lib.hid (Nat.le_trans hB8 hg9.size); obtain ⟨z0, z1, z2⟩ := hB9.c3; have zf := hB9.free 2; have HO10 := Lib.hid (hO9.kp (Kp.setCell w9 bb 2 (.slice A9 l9 c9)) (Nat.lt_succ_self bb)); have HB10 := Lib.hid (hB9.set 2 (.slice A9 l9 c9)); have HR10 := Lib.hid (hR9.ks (Ks.setCell (S := fun g => g = bb) w9 bb 2 (.slice A9 l9 c9) rfl) (fun g e => by have := HW6.out; omega)); have hs10 : (w9.setCell ⟨bb, 2, none⟩ (.slice A9 l9 c9)).heap.size = w9.heap.size := (by simp); clear g1 g2 g3 gN gne hel ho9 hg9 hgr9 hkH hO9 hB9 hR9 hrw8 hge2))
        go_roundw
        case rel => exact ⟨k + 1, H ++ [(L1, x1)], p4, c4, q4, T + x1, _, by omega, by go_num, by go_num, Lib.hid (by rw [show hen (H ++ [(L1, x1)]) = hen H ++ [(L1, [])] by simp [hen], List.map_append]; exact HO10.out), Lib.hid HB10.out, HR10, Lib.hid (by rw [List.length_append, HLL.out]; rfl), Lib.hid (fun h hh => by
          rcases List.mem_append.1 hh with hh | hh
          · exact HHS.out h hh
          · rw [List.mem_singleton] at hh; subst hh
            exact ⟨HVB.out.1, HB4'.out.1, HB4'.out.2⟩), p40, p41, by rw [hs10]; exact HS9.out, HVB.out.2.1, HVB.out.2.2, Lib.hid (by rw [hsum_snoc, HT.out]), HNX⟩
        case measure => simp [intOf]; omega
  · have hcb1 : (c3' == 0) = false := by simpa using hc3
    have HCB : Hid (c3' ≠ 0) := Lib.hid hc3
    obtain ⟨cb, hcb⟩ : ∃ cb, cb = c3' := ⟨_, rfl⟩
    obtain ⟨pb, hpb⟩ : ∃ pb, pb = p3 := ⟨_, rfl⟩
    obtain ⟨qb, hqb⟩ : ∃ qb, qb = q3 := ⟨_, rfl⟩
    have HBB : Hid (∀ px : Int, 0 ≤ px → px ≤ n → St bt0 n (brd (RK sb) z p) p c q bt0 px cb qb) := Lib.hid (fun (px : Int) i0 i1 => by
      have h9 : St [] n (rhd z b0 p2) p2 c2' q2 [] px c3' q3 := rhd_st HS5.out (c2 := c3') (q2 := q3) (fun _ => ⟨rfl, rfl⟩) (fun _ => .inr ⟨HCB.out, rfl, rfl⟩) (St.stay i0 i1 HCB.out)
      have h8 := bhd_st HS1.out HS3.out h9
      rw [hcb, hqb, brd_bhd]
      rw [if_neg HCB.out] at h8
      exact h8.bind (St.stay i0 i1 HCB.out))
    have pb0 : 0 ≤ pb := by omega
    have pb1 : pb ≤ n := by omega
    rw [← hcb] at HCB hcb1
    rw [← hcb, ← hpb, ← hqb] at hR6
    rw [← hpb] at d1
    rw [← hcb] at d2
    rw [← hqb] at d3
    clear hcb hpb hqb hc3
    have hbN := below_one w6 (.cells (btenc E b0 none 0 0) 25)
    have hRb := hR6.below hbN
    obtain ⟨e0, e1, e2, e3⟩ := hRb.1.c4
    clear hR6 hbN
    go_wp2
    clear d0 d1 d2 d3 e0 e1 e2 e3
    generalize w6.alloc (.cells (btenc E b0 none 0 0) 25) = w7 at *
    go_loopw [14] (fun i wr => i = .int .i64 0 ∧ wr = w7) (fun _ _ => 0)
    case atStart => exact ⟨rfl, rfl⟩
    case round =>
      obtain ⟨rfl, rfl⟩ := hrel
      obtain ⟨e0, e1, e2, e3⟩ := hRb.1.c4
      by_cases hN0 : 0 < N
      · have e9 : (0 : Int) < N := by omega
        go_upto_region 18 with (fail)
        clear e0 e1 e2 e3
        obtain ⟨c0, c1, c2, c3⟩ := hRb.1.c4
        cases sb
        · go_wp2_with fail
          clear c0 c1 c2 c3
          refine (rloose16_any a n m z 1048576 pb cb qb _ (HZ.out.below hRb.2.2.2) HA.out pb0 pb1 hm hn HBY.out (by omega) (fun h => absurd h HCB.out) (fun h => absurd h HCB.out)).mono ?_
          rintro e wx ⟨Ax, kx, mx, lx, pe, ce, qe, rfl, hbx, hsx, _, _, _⟩
          obtain ⟨_, hce, hqe⟩ := hsx.bad HCB.out
          have HCE : Hid (ce ≠ 0) := Lib.hid (by rw [hce]; exact HCB.out)
          have hcb3 : (ce == 0) = false := by simpa using HCE.out
          have hcb4 : (ce != 0) = true := by simpa using HCE.out
          have HST : Hid (St bt0 n (brd (RK false) z p) p c q bt0 pe ce qe) := Lib.hid (by rw [hce, hqe]; exact (HBB.out _ hsx.place.1 hsx.place.2))
          rw [decide_eq_false HCE.out, Bool.false_and]
          have hRx := hRb.below hbx
          clear hce hqe hsx
          obtain ⟨c0, c1, c2, c3⟩ := hRx.1.c4
          obtain ⟨k0, k1, k2, k3⟩ := hRx.1.f4
          obtain ⟨hRy, hkd⟩ := hRx.store (.slice a n m) pe ce qe _ rfl
          obtain ⟨d0, d1, d2, d3⟩ := hRy.1.c4
          clear hRx hkd hbx hRb
          go_upto_region 24 with (fail)
          clear c0 c1 c2 c3 k0 k1 k2 k3 d0 d1 d2 d3
          generalize (((wx.setCell ⟨w.heap.size, 0, none⟩ (.slice a n m)).setCell ⟨w.heap.size, 1, none⟩ (.int .i64 pe)).setCell ⟨w.heap.size, 2, none⟩ (.int .i64 ce)).setCell ⟨w.heap.size, 3, none⟩ (.int .i64 qe) = wy at *
          have hRe := hRy
          clear hRy
          obtain ⟨c0, c1, c2, c3⟩ := hRe.1.c4
          obtain ⟨d0, d1, d2, d3⟩ := hRe.2.1.c4
          obtain ⟨f0, f1, f2, f3⟩ := hRe.2.1.f4
          obtain ⟨t0, t1, t2⟩ := hRe.2.2.1.c3
          obtain ⟨u0, u1, u2⟩ := blk_f3 hRe.2.2.1
          have HRE := Lib.hid hRe
          clear hRe
          go_wp2
          obtain ⟨k1, kk1⟩ := set4 HRE.out.2.1 (.slice a n m) (.int .i64 pe) (.int .i64 ce) (.int .i64 qe)
          obtain ⟨k2, kk2⟩ := set3 (blk_kp HRE.out.2.2.1 kk1 (by omega)) (.int .u64 0) (.int .u64 0) (.slice none 0 0)
          have k3 := blk_kp k1 kk2 (by omega)
          have HBD := Lib.hid (Kp.below (Kp.below HRE.out.2.2.2 (Nat.le_refl _) kk1 (by omega)) (Nat.le_refl _) kk2 (by omega))
          obtain ⟨v0, v1, v2, v3⟩ := k3.c4
          obtain ⟨x0, x1, x2⟩ := k2.c3
          refine bodyPost_ret (v := .tuple #[cv (.slice a n m) pe ce qe, btagg 0 0 none 0 0, .bool false]) (by simp [results, Tryz.results25, go_sem, v0, v1, v2, v3, x0, x1, x2]) rfl ⟨0, 0, none, 0, 0, [], false, pe, ce, qe, rfl, HBD.out, ⟨rfl, Sq.nil _ _ _ _⟩, Nat.zero_le _, fun k => ⟨by simp [en0], fun s hs => by simp [en0] at hs, by simp [en0]⟩, HST.out, fun _ => rfl, fun h => absurd h HCE.out⟩
        · go_wp2_with fail
          clear c0 c1 c2 c3
          refine (rread16_any a n m z 1048576 pb cb qb _ (HZ.out.below hRb.2.2.2) HA.out pb0 pb1 hm hn HBY.out (by omega) (fun h => absurd h HCB.out) (fun h => absurd h HCB.out)).mono ?_
          rintro e wx ⟨Ax, kx, mx, lx, pe, ce, qe, rfl, hbx, hsx, _, _, _⟩
          obtain ⟨_, hce, hqe⟩ := hsx.bad HCB.out
          have HCE : Hid (ce ≠ 0) := Lib.hid (by rw [hce]; exact HCB.out)
          have hcb3 : (ce == 0) = false := by simpa using HCE.out
          have hcb4 : (ce != 0) = true := by simpa using HCE.out
          have HST : Hid (St bt0 n (brd (RK true) z p) p c q bt0 pe ce qe) := Lib.hid (by rw [hce, hqe]; exact (HBB.out _ hsx.place.1 hsx.place.2))
          have hRx := hRb.below hbx
          clear hce hqe hsx
          obtain ⟨c0, c1, c2, c3⟩ := hRx.1.c4
          obtain ⟨k0, k1, k2, k3⟩ := hRx.1.f4
          obtain ⟨hRy, hkd⟩ := hRx.store (.slice a n m) pe ce qe _ rfl
          obtain ⟨d0, d1, d2, d3⟩ := hRy.1.c4
          clear hRx hkd hbx hRb
          go_upto_region 24 with (fail)
          clear c0 c1 c2 c3 k0 k1 k2 k3 d0 d1 d2 d3
          generalize (((wx.setCell ⟨w.heap.size, 0, none⟩ (.slice a n m)).setCell ⟨w.heap.size, 1, none⟩ (.int .i64 pe)).setCell ⟨w.heap.size, 2, none⟩ (.int .i64 ce)).setCell ⟨w.heap.size, 3, none⟩ (.int .i64 qe) = wy at *
          have hRe := hRy
          clear hRy
          obtain ⟨c0, c1, c2, c3⟩ := hRe.1.c4
          obtain ⟨d0, d1, d2, d3⟩ := hRe.2.1.c4
          obtain ⟨f0, f1, f2, f3⟩ := hRe.2.1.f4
          obtain ⟨t0, t1, t2⟩ := hRe.2.2.1.c3
          obtain ⟨u0, u1, u2⟩ := blk_f3 hRe.2.2.1
          have HRE := Lib.hid hRe
          clear hRe
          go_wp2
          obtain ⟨k1, kk1⟩ := set4 HRE.out.2.1 (.slice a n m) (.int .i64 pe) (.int .i64 ce) (.int .i64 qe)
          obtain ⟨k2, kk2⟩ := set3 (blk_kp HRE.out.2.2.1 kk1 (by omega)) (.int .u64 0) (.int .u64 0) (.slice none 0 0)
          have k3 := blk_kp k1 kk2 (by omega)
          have HBD := Lib.hid (Kp.below (Kp.below HRE.out.2.2.2 (Nat.le_refl _) kk1 (by omega)) (Nat.le_refl _) kk2 (by omega))
          obtain ⟨v0, v1, v2, v3⟩ := k3.c4
          obtain ⟨x0, x1, x2⟩ := k2.c3
          refine bodyPost_ret (v := .tuple #[cv (.slice a n m) pe ce qe, btagg 0 0 none 0 0, .bool false]) (by simp [results, Tryz.results25, go_sem, v0, v1, v2, v3, x0, x1, x2]) rfl ⟨0, 0, none, 0, 0, [], false, pe, ce, qe, rfl, HBD.out, ⟨rfl, Sq.nil _ _ _ _⟩, Nat.zero_le _, fun k => ⟨by simp [en0], fun s hs => by simp [en0] at hs, by simp [en0]⟩, HST.out, fun _ => rfl, fun h => absurd h HCE.out⟩
      · have e9 : ¬ (0 : Int) < N := by omega
        go_upto_region 18 with (fail)
        clear e0 e1 e2 e3
        obtain ⟨c0, c1, c2, c3⟩ := hRb.1.c4
        cases sb
        · go_wp2_with fail
          clear c0 c1 c2 c3
          refine (rloose16_any a n m z 1048576 pb cb qb _ (HZ.out.below hRb.2.2.2) HA.out pb0 pb1 hm hn HBY.out (by omega) (fun h => absurd h HCB.out) (fun h => absurd h HCB.out)).mono ?_
          rintro e wx ⟨Ax, kx, mx, lx, pe, ce, qe, rfl, hbx, hsx, _, _, _⟩
          obtain ⟨_, hce, hqe⟩ := hsx.bad HCB.out
          have HCE : Hid (ce ≠ 0) := Lib.hid (by rw [hce]; exact HCB.out)
          have hcb3 : (ce == 0) = false := by simpa using HCE.out
          have hcb4 : (ce != 0) = true := by simpa using HCE.out
          have HST : Hid (St bt0 n (brd (RK false) z p) p c q bt0 pe ce qe) := Lib.hid (by rw [hce, hqe]; exact (HBB.out _ hsx.place.1 hsx.place.2))
          rw [decide_eq_false HCE.out, Bool.false_and]
          have hRx := hRb.below hbx
          clear hce hqe hsx
          obtain ⟨c0, c1, c2, c3⟩ := hRx.1.c4
          obtain ⟨k0, k1, k2, k3⟩ := hRx.1.f4
          obtain ⟨hRy, hkd⟩ := hRx.store (.slice a n m) pe ce qe _ rfl
          obtain ⟨d0, d1, d2, d3⟩ := hRy.1.c4
          clear hRx hkd hbx hRb
          go_upto_region 24 with (fail)
          clear c0 c1 c2 c3 k0 k1 k2 k3 d0 d1 d2 d3
          generalize (((wx.setCell ⟨w.heap.size, 0, none⟩ (.slice a n m)).setCell ⟨w.heap.size, 1, none⟩ (.int .i64 pe)).setCell ⟨w.heap.size, 2, none⟩ (.int .i64 ce)).setCell ⟨w.heap.size, 3, none⟩ (.int .i64 qe) = wy at *
          have hRe := hRy
          clear hRy
          obtain ⟨c0, c1, c2, c3⟩ := hRe.1.c4
          obtain ⟨d0, d1, d2, d3⟩ := hRe.2.1.c4
          obtain ⟨f0, f1, f2, f3⟩ := hRe.2.1.f4
          obtain ⟨t0, t1, t2⟩ := hRe.2.2.1.c3
          obtain ⟨u0, u1, u2⟩ := blk_f3 hRe.2.2.1
          have HRE := Lib.hid hRe
          clear hRe
          go_wp2
          obtain ⟨k1, kk1⟩ := set4 HRE.out.2.1 (.slice a n m) (.int .i64 pe) (.int .i64 ce) (.int .i64 qe)
          obtain ⟨k2, kk2⟩ := set3 (blk_kp HRE.out.2.2.1 kk1 (by omega)) (.int .u64 0) (.int .u64 0) (.slice none 0 0)
          have k3 := blk_kp k1 kk2 (by omega)
          have HBD := Lib.hid (Kp.below (Kp.below HRE.out.2.2.2 (Nat.le_refl _) kk1 (by omega)) (Nat.le_refl _) kk2 (by omega))
          obtain ⟨v0, v1, v2, v3⟩ := k3.c4
          obtain ⟨x0, x1, x2⟩ := k2.c3
          refine bodyPost_ret (v := .tuple #[cv (.slice a n m) pe ce qe, btagg 0 0 none 0 0, .bool false]) (by simp [results, Tryz.results25, go_sem, v0, v1, v2, v3, x0, x1, x2]) rfl ⟨0, 0, none, 0, 0, [], false, pe, ce, qe, rfl, HBD.out, ⟨rfl, Sq.nil _ _ _ _⟩, Nat.zero_le _, fun k => ⟨by simp [en0], fun s hs => by simp [en0] at hs, by simp [en0]⟩, HST.out, fun _ => rfl, fun h => absurd h HCE.out⟩
        · go_wp2_with fail
          clear c0 c1 c2 c3
          refine (rread16_any a n m z 1048576 pb cb qb _ (HZ.out.below hRb.2.2.2) HA.out pb0 pb1 hm hn HBY.out (by omega) (fun h => absurd h HCB.out) (fun h => absurd h HCB.out)).mono ?_
          rintro e wx ⟨Ax, kx, mx, lx, pe, ce, qe, rfl, hbx, hsx, _, _, _⟩
          obtain ⟨_, hce, hqe⟩ := hsx.bad HCB.out
          have HCE : Hid (ce ≠ 0) := Lib.hid (by rw [hce]; exact HCB.out)
          have hcb3 : (ce == 0) = false := by simpa using HCE.out
          have hcb4 : (ce != 0) = true := by simpa using HCE.out
          have HST : Hid (St bt0 n (brd (RK true) z p) p c q bt0 pe ce qe) := Lib.hid (by rw [hce, hqe]; exact (HBB.out _ hsx.place.1 hsx.place.2))
          have hRx := hRb.below hbx
          clear hce hqe hsx
          obtain ⟨c0, c1, c2, c3⟩ := hRx.1.c4
          obtain ⟨k0, k1, k2, k3⟩ := hRx.1.f4
          obtain ⟨hRy, hkd⟩ := hRx.store (.slice a n m) pe ce qe _ rfl
          obtain ⟨d0, d1, d2, d3⟩ := hRy.1.c4
          clear hRx hkd hbx hRb
          go_upto_region 24 with (fail)
          clear c0 c1 c2 c3 k0 k1 k2 k3 d0 d1 d2 d3
          generalize (((wx.setCell ⟨w.heap.size, 0, none⟩ (.slice a n m)).setCell ⟨w.heap.size, 1, none⟩ (.int .i64 pe)).setCell ⟨w.heap.size, 2, none⟩ (.int .i64 ce)).setCell ⟨w.heap.size, 3, none⟩ (.int .i64 qe) = wy at *
          have hRe := hRy
          clear hRy
          obtain ⟨c0, c1, c2, c3⟩ := hRe.1.c4
          obtain ⟨d0, d1, d2, d3⟩ := hRe.2.1.c4
          obtain ⟨f0, f1, f2, f3⟩ := hRe.2.1.f4
          obtain ⟨t0, t1, t2⟩ := hRe.2.2.1.c3
          obtain ⟨u0, u1, u2⟩ := blk_f3 hRe.2.2.1
          have HRE := Lib.hid hRe
          clear hRe
          go_wp2
          obtain ⟨k1, kk1⟩ := set4 HRE.out.2.1 (.slice a n m) (.int .i64 pe) (.int .i64 ce) (.int .i64 qe)
          obtain ⟨k2, kk2⟩ := set3 (blk_kp HRE.out.2.2.1 kk1 (by omega)) (.int .u64 0) (.int .u64 0) (.slice none 0 0)
          have k3 := blk_kp k1 kk2 (by omega)
          have HBD := Lib.hid (Kp.below (Kp.below HRE.out.2.2.2 (Nat.le_refl _) kk1 (by omega)) (Nat.le_refl _) kk2 (by omega))
          obtain ⟨v0, v1, v2, v3⟩ := k3.c4
          obtain ⟨x0, x1, x2⟩ := k2.c3
          refine bodyPost_ret (v := .tuple #[cv (.slice a n m) pe ce qe, btagg 0 0 none 0 0, .bool false]) (by simp [results, Tryz.results25, go_sem, v0, v1, v2, v3, x0, x1, x2]) rfl ⟨0, 0, none, 0, 0, [], false, pe, ce, qe, rfl, HBD.out, ⟨rfl, Sq.nil _ _ _ _⟩, Nat.zero_le _, fun k => ⟨by simp [en0], fun s hs => by simp [en0] at hs, by simp [en0]⟩, HST.out, fun _ => rfl, fun h => absurd h HCE.out⟩
end Go.Proofs.YtlealkfkddhnnaaGreat.Cur
