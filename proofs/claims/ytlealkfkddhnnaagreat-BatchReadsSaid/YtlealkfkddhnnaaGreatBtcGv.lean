/- As the seat's text, without what nothing here names. -/
import Derived.Test.YtlealkfkddhnnaaGreatBtcFv
import Derived.Test.YtlealkfkddhnnaaGreatK18v
namespace Go.Proofs.YtlealkfkddhnnaaGreat.Cur
open Go.RowKit Mem
set_option linter.unusedVariables false
set_option maxRecDepth 100000
def KS (z : List Int) (p : Int) : Rs (List Int) := bks z 1048576 p
def KL (z : List Int) (p : Int) : Rs (List Int) := bk z 1048576 p
def owS (_ _ : Int) (_ : List Int) : Bool := true
def owL (z : List Int) (p p' : Int) (l : List Int) : Bool := decide (piece z p.toNat p'.toNat = bkb l)
theorem strict1_any (bx b : Nat) (a : Option Addr) (k m : Nat) (z : List Int) (p c q : Int) (w : World) (hx : w.cell? ⟨bx, 0, none⟩ = some (.pointer (some ⟨b, 0, none⟩))) (h : IsRd w b (.slice a k m) p c q) (hz : Bs w a k z) (h0 : 0 ≤ p) (h1 : p ≤ k) (hm : k ≤ m) (hk : k ≤ 100000) (hby : ∀ x ∈ z, 0 ≤ x ∧ x < 256) (hfw : c = 0 → Few z 1048576 p) (hq : c = 0 → q = 0) :
    Calls Tryz.prog 85 #[.int .i64 1048576, .pointer (some ⟨bx, 0, none⟩)] w (ClPost KS owS b (.slice a k m) k z p c q w) := by
  have hR := kRead_any b a k m z p c q 1048576 w h hz h0 h1 hm hk hby (by omega) hfw hq
  unfold KrdPost at hR
  clear h hz hby hq hfw
  go_enter Tryz.func85, Tryz.ntmps85
  go_wp2_with fail
  with_reducible refine hR.mono ?_
  rintro e w1 ⟨v, l, p', c', q', rfl, ho, hlb, hll, hk1, hr1, hs1⟩
  obtain ⟨Av, cv, rfl⟩ := ho.slice
  have HO := Lib.hid (And.intro ho (And.intro hlb (And.intro hll (And.intro hk1 (And.intro hr1 hs1)))))
  clear hR ho hlb hll hk1 hr1 hs1
  go_wp2
  go_ret2
  obtain ⟨g1, g2, g3, g4, g5, g6⟩ := HO.out
  exact ⟨_, l, p', c', q', true, rfl, g1, g2, g3, g4, g5, g6, fun _ => rfl⟩
theorem loose1_any (bx b : Nat) (a : Option Addr) (k m : Nat) (z : List Int) (p c q : Int) (w : World) (hx : w.cell? ⟨bx, 0, none⟩ = some (.pointer (some ⟨b, 0, none⟩))) (h : IsRd w b (.slice a k m) p c q) (hz : Bs w a k z) (h0 : 0 ≤ p) (h1 : p ≤ k) (hm : k ≤ m) (hk : k ≤ 100000) (hby : ∀ x ∈ z, 0 ≤ x ∧ x < 256) (hfw : c = 0 → Few z 1048576 p) (hq : c = 0 → q = 0) :
    Calls Tryz.prog 54 #[.int .i64 1048576, .pointer (some ⟨bx, 0, none⟩)] w (ClPost KL (owL z) b (.slice a k m) k z p c q w) := by
  have hR := kReadLoose_any b a k m z p c q 1048576 w h hz h0 h1 hm hk hby (by omega) hfw hq
  unfold KRlPost at hR
  clear h hz hby hq hfw
  go_enter Tryz.func54, Tryz.ntmps54
  go_wp2_with fail
  with_reducible refine hR.mono ?_
  rintro e w1 ⟨v, l, p', c', q', rfl, ho, hlb, hll, hk1, hr1, hs1⟩
  obtain ⟨Av, cv, rfl⟩ := ho.slice
  obtain ⟨o, hoe⟩ : ∃ o, o = (decide (c' = 0) && decide (piece z p.toNat p'.toNat = bkb l)) := ⟨_, rfl⟩
  rw [← hoe]
  have HOW : Hid (c' = 0 → o = owL z p p' l) := Lib.hid (fun hc => by rw [hoe, decide_eq_true hc]; rfl)
  have HO := Lib.hid (And.intro ho (And.intro hlb (And.intro hll (And.intro hk1 (And.intro hr1 hs1)))))
  clear hR ho hlb hll hk1 hr1 hs1 hoe
  go_wp2
  go_ret2
  obtain ⟨g1, g2, g3, g4, g5, g6⟩ := HO.out
  exact ⟨_, l, p', c', q', o, rfl, g1, g2, g3, g4, g5, g6, HOW.out⟩
set_option maxHeartbeats 4000000 in
theorem bread_strict (bx b : Nat) (a : Option Addr) (n m : Nat) (z : List Int) (p c q : Int) (w : World) (h : IsRd w b (.slice a n m) p c q) (hz : Bs w a n z) (h0 : 0 ≤ p) (h1 : p ≤ n) (hm : n ≤ m) (hn : n ≤ 100000) (hby : ∀ x ∈ z, 0 ≤ x ∧ x < 256) (hq : c = 0 → q = 0) (hK5 : (bhd z p).2.2.1 = 0 → (KS z (bhd z p).2.1).1.length ≤ 500)
    (hcl : ∀ W p' c' q', Kp b w W → IsRd W b (.slice a n m) p' c' q' → 0 ≤ p' → p' ≤ n → (c' = 0 → q' = 0) → (c' = 0 → (bhd z p).2.2.1 = 0 ∧ p' = (bhd z p).2.1) → Calls Tryz.prog 85 #[.int .i64 1048576, .pointer (some ⟨bx, 0, none⟩)] W (ClPost KS owS b (.slice a n m) n z p' c' q' W)) :
    Calls Tryz.prog 53 #[.pointer (some ⟨b, 0, none⟩), .func (.func 85) #[] #[.pointer (some ⟨bx, 0, none⟩)]] w (BrPost KS owS b (.slice a n m) n z p c q w) := by
  have HBY := Lib.hid hby
  have hbw := h.lt
  have hzl := hz.1
  have HZ : Hid (∀ w', Kp b w w' → Bs w' a n z) := Lib.hid fun w' hk => hz.kp h (by simp) hk
  have HQ := Lib.hid hq
  have HCL := Lib.hid hcl
  have HK5 := Lib.hid hK5
  have hF := Blk.new w (btenc 0 0 none 0 0) 25
  have hbF := below_one w (.cells (btenc 0 0 none 0 0) 25)
  have hr0 := h.below hbF
  have hz0 := hz.below hbF
  have HKF := Lib.hid (Kp.of_below (b := b) hbF)
  clear hby hq hcl hK5 h hz hbF
  go_enter Tryz.func53, Tryz.ntmps53
  go_wp2_with fail
  refine (eread_any _ _ _ _ _ _ _ _ _ hr0 hz0 h0 h1 (by omega) HBY.out).mono ?_
  rintro e w1 ⟨E, p1, c1, q1, rfl, hk1, hr1, hs1⟩
  obtain ⟨p10, p11⟩ := hs1.place
  have HF1 := Lib.hid (blk_kp hF hk1 (by omega))
  have HK1 := Lib.hid (HKF.out.trans hk1)
  have hsz1 := hk1.size
  rw [World.size_alloc] at hsz1
  have HS1 := Lib.hid hs1
  clear hr0 hz0 hF hk1 hs1
  go_wp2_with fail
  refine (ereadpos_any _ _ _ _ _ _ _ _ _ hr1 (HZ.out _ HK1.out) p10 p11 (by omega) HBY.out).mono ?_
  rintro e w2 ⟨b0, p2, c2, q2, rfl, hk2, hr2, hs2⟩
  obtain ⟨p20, p21⟩ := hs2.place
  have hb0 := hs2.pv (P := fun x => 0 ≤ x ∧ x ≤ 4611686018427387904) (by decide) (ve_bd HBY.out psk_le p1)
  have HF2 := Lib.hid (blk_kp HF1.out hk2 (by omega))
  have HK2 := Lib.hid (HK1.out.trans hk2)
  have hsz2 := Nat.le_trans hsz1 hk2.size
  have HS2 := Lib.hid hs2
  clear hr1 HF1 HK1 hk2 hs2
  go_wp2_with fail
  refine (rheads_any b a n m z b0 p2 c2 q2 w2 hr2 (HZ.out _ HK2.out) p20 p21 (by omega) HBY.out hb0.1 (by omega)).mono ?_
  rintro e w3 ⟨A1, N1, m1, A2, m2, H, p4, c4, q4, rfl, hk3, hr3, hen3, his3, hge3, hN1, hN16, hhs, hs3⟩
  obtain ⟨p40, p41⟩ := hs3.place
  have HF3 := Lib.hid (blk_kp HF2.out hk3 (by omega))
  have HK3 := Lib.hid (HK2.out.trans hk3)
  have hsz3 := Nat.le_trans hsz2 hk3.size
  have HHS := Lib.hid hhs
  have HN1 := Lib.hid hN1
  have HQ4 := Lib.hid (fun hc => hs3.q0 (fun hc => HS2.out.q0 (fun hc => HS1.out.q0 HQ.out hc) hc) hc)
  have HBH := Lib.hid (bhd_st HS1.out HS2.out hs3)
  have hk23 := hk3.size
  clear hr2 HF2 HK2 hk3 hs3 hhs hN1 hb0
  go_wp2_with fail
  refine (at_any _ _ _ _ _ _ hr3).mono ?_
  rintro e w4 ⟨rfl, rfl⟩
  have HPL4 : Hid (c4 = 0 → (bhd z p).2.2.1 = 0 ∧ p4 = (bhd z p).2.1) := Lib.hid (fun hc => by
    have h := HBH.out
    rw [hc] at h
    obtain ⟨_, g1, _, g2, _⟩ := h.good
    exact ⟨g1, g2⟩)
  have hC := HCL.out w3 p4 c4 q4 HK3.out hr3 p40 p41 HQ4.out HPL4.out
  unfold ClPost at hC
  clear hr3
  go_wp2_with fail
  with_reducible refine hC.mono ?_
  rintro e w5 ⟨v5, y, p5, c5, q5, o, rfl, ho5, hyb, hyl, hk5, hr5, hs5, how⟩
  obtain ⟨p50, p51⟩ := hs5.place
  obtain ⟨Av, cv, rfl, hbv, hnv, hcv⟩ := ho5.parts
  have HF5 := Lib.hid (blk_kp HF3.out hk5 (by omega))
  have HK5' := Lib.hid (HK3.out.trans hk5)
  have hsz5 := Nat.le_trans hsz3 hk5.size
  have hen5 : Ens w5 (fun k => w2.heap.size ≤ k) A1 N1 (hen H) := hen3.keep fun g hg hlt => hk5.block g hlt (by omega)
  have his5 : Is w5 A2 N1 (H.map (·.2)) := ⟨his3.1, his3.2.kp hk5 (fun _ ad e => by have := hge3 ad e; omega)⟩
  have HYB := Lib.hid hyb
  have HOW := Lib.hid how
  have HS5 := Lib.hid hs5
  have HYL : Hid (y.length ≤ 500) := Lib.hid (by
    by_cases hc : c4 = 0
    · obtain ⟨g1, g2⟩ := HPL4.out hc
      exact hs5.pv (P := fun l => l.length ≤ 500) (by simp) (by rw [g2]; exact HK5.out g1)
    · rw [(hs5.bad hc).1]; simp)
  obtain ⟨r, hr⟩ : ∃ r, r = y.length := ⟨_, rfl⟩
  rw [← hr] at hbv hyl hcv
  rw [← hr]
  have HR := Lib.hid hr
  have hD := deal_any _ A1 A2 Av N1 m1 N1 m2 r cv (hen H) (H.map (·.2)) y w5 hen5 his5 hbv (by omega) (by omega) (by omega) (hen_esm HHS.out) (map2_bd HHS.out) hyb
  clear hC hk5 hs5 ho5 hyb hyl how hbv hnv hen3 his3 hge3 hen5 his5 hr HF3 HK3
  go_wp2_with fail
  refine hD.mono ?_
  rintro e w6 hdp
  obtain ⟨A6, m6, k6, ok6, rfl, hb6, halt⟩ := dealt_post hdp
  have hr6 := hr5.below hb6
  have HF6 := Lib.hid (HF5.out.below hb6)
  have HK6 := Lib.hid (HK5'.out.trans (Kp.of_below (b := b) hb6))
  have hsz6 := Nat.le_trans hsz5 hb6.size
  have HS56 := Lib.hid hb6.size
  clear hD hdp hb6 hr5 HF5 HK5'
  rcases halt with ⟨rfl, rfl, hnf⟩ | ⟨rfl, rfl, _, hft, hE6⟩
  · have hns : hsum H ≠ (y.length : Int) := fun e => hnf ⟨rfl, by rw [HN1.out]; exact (fits_hsum (fun h hh => (HHS.out h hh).1.1) _).2 (by rw [e, HR.out])⟩
    have HNS := Lib.hid hns
    clear hnf hns
    go_wp2_with fail
    refine (fail_any _ _ _ _ _ _ _ _ hr6).mono ?_
    rintro e w7 ⟨c7, q7, rfl, hk7, hr7, hf7⟩
    have hc7 : c7 ≠ 0 := by
      rcases hf7 with ⟨_, h, _⟩ | ⟨h, h2, _⟩
      · rw [h]; decide
      · rw [h2]; exact h
    have HST := Lib.hid (brd_st HBH.out HS5.out (fun e => absurd e HNS.out) (fun _ => hf7))
    rw [if_neg hc7] at HST
    have HF7 := Lib.hid (blk_kp HF6.out hk7 (by omega))
    have HK7 := Lib.hid (HK6.out.trans hk7)
    have hcb : (c7 == 0) = false := by simpa using hc7
    have HC7 := Lib.hid hc7
    clear hr6 HF6 HK6 hk7 hf7 hc7
    go_wp2_with fail
    refine (good_any _ _ _ _ _ _ hr7).mono ?_
    rintro e w8 ⟨rfl, hb8⟩
    rw [hcb]
    have hr8 := hr7.below hb8
    have hF8 := HF7.out.below hb8
    have HK8 := Lib.hid (HK7.out.trans (Kp.of_below (b := b) hb8))
    clear hr7 HF7 HK7 hb8
    obtain ⟨f0, f1, f2⟩ := hF8.c3
    obtain ⟨k0, k1, k2⟩ := blk_f3 hF8
    have HF8 := Lib.hid hF8
    clear hF8
    go_wp2
    obtain ⟨hFd, hkd⟩ := set3 HF8.out (.int .u64 0) (.int .u64 0) (.slice none 0 0)
    have HKd := Lib.hid (HK8.out.new hkd (Nat.le_refl _))
    have hrd := hr8.kp hkd (by omega)
    clear hkd f0 f1 f2 k0 k1 k2
    generalize ((w8.setCell ⟨w.heap.size, 0, none⟩ (.int .u64 0)).setCell ⟨w.heap.size, 1, none⟩ (.int .u64 0)).setCell ⟨w.heap.size, 2, none⟩ (.slice none 0 0) = wd at *
    obtain ⟨d0, d1, d2⟩ := hFd.c3
    refine bodyPost_ret (v := .tuple #[btagg 0 0 none 0 0, .bool false]) (by simp [results, Tryz.results53, go_sem, d0, d1, d2]) rfl ⟨0, 0, none, 0, 0, [], false, _, _, _, rfl, HKd.out, hrd, ⟨rfl, Sq.nil _ _ _ _⟩, Nat.zero_le _, fun k => ⟨by simp [en0], fun s hs => by simp [en0] at hs, by simp [en0]⟩, HST.out, fun _ => rfl, fun h => absurd h HC7.out⟩
  · have hys : hsum H = (y.length : Int) := by
      rw [HN1.out] at hft
      rw [← HR.out]
      exact (fits_hsum (fun h hh => (HHS.out h hh).1.1) _).1 hft
    have HST := Lib.hid (brd_st (c7 := c5) (q7 := q5) HBH.out HS5.out (fun _ => ⟨rfl, rfl⟩) (fun e => absurd hys e))
    have HYS := Lib.hid hys
    rw [HN1.out, dealt_hdl] at hE6
    rw [← HN1.out] at hE6
    have HE6 := Lib.hid hE6
    clear hft hys hE6
    go_wp2_with fail
    refine (good_any _ _ _ _ _ _ hr6).mono ?_
    rintro e w8 ⟨rfl, hb8⟩
    have hr8 := hr6.below hb8
    have hF8 := HF6.out.below hb8
    have HK8 := Lib.hid (HK6.out.trans (Kp.of_below (b := b) hb8))
    have HE8 := Lib.hid (HE6.out.below hb8)
    have hsz8 := Nat.le_trans hsz6 hb8.size
    have hs58 : w5.heap.size ≤ w6.heap.size := HS56.out
    clear hr6 HF6 HK6 HE6 hb8
    by_cases hc : c5 = 0
    · subst hc
      rw [if_pos rfl] at HST
      have HBG : Hid ((bhd z p).2.2.1 = 0 ∧ o = owS (bhd z p).2.1 p5 (jn (hdl H y))) := Lib.hid (by
        obtain ⟨g1, _⟩ := HS5.out.good
        have g2 := HBH.out
        rw [g1] at g2
        obtain ⟨_, g3, _, g4, _⟩ := g2.good
        exact ⟨g3, by rw [HOW.out rfl, (hds_hdl H y (fun h hh => (HHS.out h hh).1.1) HYS.out).2, ← g4]⟩)
      have HSM := Lib.hid (hdl_esm HHS.out HYL.out)
      obtain ⟨f0, f1, f2⟩ := hF8.c3
      obtain ⟨k0, k1, k2⟩ := blk_f3 hF8
      have HF8 := Lib.hid hF8
      clear hF8
      go_wp2
      obtain ⟨hFd, hkd⟩ := set3 HF8.out (.int .u64 E) (.int .u64 b0) (.slice A6 k6 m6)
      have HKd := Lib.hid (HK8.out.new hkd (Nat.le_refl _))
      have hrd := hr8.kp hkd (by omega)
      have hEd := HE8.out.keep (w' := _) fun g hg hlt => hkd.block g hlt (by have hg2 : w5.heap.size ≤ g := hg; omega)
      clear hkd f0 f1 f2 k0 k1 k2
      generalize ((w8.setCell ⟨w.heap.size, 0, none⟩ (.int .u64 E)).setCell ⟨w.heap.size, 1, none⟩ (.int .u64 b0)).setCell ⟨w.heap.size, 2, none⟩ (.slice A6 k6 m6) = wd at *
      obtain ⟨d0, d1, d2⟩ := hFd.c3
      refine bodyPost_ret (v := .tuple #[btagg E b0 A6 k6 m6, .bool o]) (by simp [results, Tryz.results53, go_sem, d0, d1, d2]) rfl ⟨E, b0, A6, k6, m6, hdl H y, o, _, _, _, rfl, HKd.out, hrd, hEd.mono fun g hg _ => by have hg2 : w5.heap.size ≤ g := hg; show w.heap.size ≤ g; omega, hN16, HSM.out, HST.out, fun h => absurd rfl h, fun _ => HBG.out⟩
    · have hcb : (c5 == 0) = false := by simpa using hc
      have HC7 := Lib.hid hc
      rw [if_neg hc] at HST
      clear hc
      obtain ⟨f0, f1, f2⟩ := hF8.c3
      obtain ⟨k0, k1, k2⟩ := blk_f3 hF8
      have HF8 := Lib.hid hF8
      clear hF8
      go_wp2
      obtain ⟨hFd, hkd⟩ := set3 HF8.out (.int .u64 0) (.int .u64 0) (.slice none 0 0)
      have HKd := Lib.hid (HK8.out.new hkd (Nat.le_refl _))
      have hrd := hr8.kp hkd (by omega)
      clear hkd f0 f1 f2 k0 k1 k2
      generalize ((w8.setCell ⟨w.heap.size, 0, none⟩ (.int .u64 0)).setCell ⟨w.heap.size, 1, none⟩ (.int .u64 0)).setCell ⟨w.heap.size, 2, none⟩ (.slice none 0 0) = wd at *
      obtain ⟨d0, d1, d2⟩ := hFd.c3
      refine bodyPost_ret (v := .tuple #[btagg 0 0 none 0 0, .bool false]) (by simp [results, Tryz.results53, go_sem, d0, d1, d2]) rfl ⟨0, 0, none, 0, 0, [], false, _, _, _, rfl, HKd.out, hrd, ⟨rfl, Sq.nil _ _ _ _⟩, Nat.zero_le _, fun k => ⟨by simp [en0], fun s hs => by simp [en0] at hs, by simp [en0]⟩, HST.out, fun _ => rfl, fun h => absurd h HC7.out⟩
set_option maxHeartbeats 4000000 in
theorem bread_loose (bx b : Nat) (a : Option Addr) (n m : Nat) (z : List Int) (p c q : Int) (w : World) (h : IsRd w b (.slice a n m) p c q) (hz : Bs w a n z) (h0 : 0 ≤ p) (h1 : p ≤ n) (hm : n ≤ m) (hn : n ≤ 100000) (hby : ∀ x ∈ z, 0 ≤ x ∧ x < 256) (hq : c = 0 → q = 0) (hK5 : (bhd z p).2.2.1 = 0 → (KL z (bhd z p).2.1).1.length ≤ 500)
    (hcl : ∀ W p' c' q', Kp b w W → IsRd W b (.slice a n m) p' c' q' → 0 ≤ p' → p' ≤ n → (c' = 0 → q' = 0) → (c' = 0 → (bhd z p).2.2.1 = 0 ∧ p' = (bhd z p).2.1) → Calls Tryz.prog 54 #[.int .i64 1048576, .pointer (some ⟨bx, 0, none⟩)] W (ClPost KL (owL z) b (.slice a n m) n z p' c' q' W)) :
    Calls Tryz.prog 53 #[.pointer (some ⟨b, 0, none⟩), .func (.func 54) #[] #[.pointer (some ⟨bx, 0, none⟩)]] w (BrPost KL (owL z) b (.slice a n m) n z p c q w) := by
  have HBY := Lib.hid hby
  have hbw := h.lt
  have hzl := hz.1
  have HZ : Hid (∀ w', Kp b w w' → Bs w' a n z) := Lib.hid fun w' hk => hz.kp h (by simp) hk
  have HQ := Lib.hid hq
  have HCL := Lib.hid hcl
  have HK5 := Lib.hid hK5
  have hF := Blk.new w (btenc 0 0 none 0 0) 25
  have hbF := below_one w (.cells (btenc 0 0 none 0 0) 25)
  have hr0 := h.below hbF
  have hz0 := hz.below hbF
  have HKF := Lib.hid (Kp.of_below (b := b) hbF)
  clear hby hq hcl hK5 h hz hbF
  go_enter Tryz.func53, Tryz.ntmps53
  go_wp2_with fail
  refine (eread_any _ _ _ _ _ _ _ _ _ hr0 hz0 h0 h1 (by omega) HBY.out).mono ?_
  rintro e w1 ⟨E, p1, c1, q1, rfl, hk1, hr1, hs1⟩
  obtain ⟨p10, p11⟩ := hs1.place
  have HF1 := Lib.hid (blk_kp hF hk1 (by omega))
  have HK1 := Lib.hid (HKF.out.trans hk1)
  have hsz1 := hk1.size
  rw [World.size_alloc] at hsz1
  have HS1 := Lib.hid hs1
  clear hr0 hz0 hF hk1 hs1
  go_wp2_with fail
  refine (ereadpos_any _ _ _ _ _ _ _ _ _ hr1 (HZ.out _ HK1.out) p10 p11 (by omega) HBY.out).mono ?_
  rintro e w2 ⟨b0, p2, c2, q2, rfl, hk2, hr2, hs2⟩
  obtain ⟨p20, p21⟩ := hs2.place
  have hb0 := hs2.pv (P := fun x => 0 ≤ x ∧ x ≤ 4611686018427387904) (by decide) (ve_bd HBY.out psk_le p1)
  have HF2 := Lib.hid (blk_kp HF1.out hk2 (by omega))
  have HK2 := Lib.hid (HK1.out.trans hk2)
  have hsz2 := Nat.le_trans hsz1 hk2.size
  have HS2 := Lib.hid hs2
  clear hr1 HF1 HK1 hk2 hs2
  go_wp2_with fail
  refine (rheads_any b a n m z b0 p2 c2 q2 w2 hr2 (HZ.out _ HK2.out) p20 p21 (by omega) HBY.out hb0.1 (by omega)).mono ?_
  rintro e w3 ⟨A1, N1, m1, A2, m2, H, p4, c4, q4, rfl, hk3, hr3, hen3, his3, hge3, hN1, hN16, hhs, hs3⟩
  obtain ⟨p40, p41⟩ := hs3.place
  have HF3 := Lib.hid (blk_kp HF2.out hk3 (by omega))
  have HK3 := Lib.hid (HK2.out.trans hk3)
  have hsz3 := Nat.le_trans hsz2 hk3.size
  have HHS := Lib.hid hhs
  have HN1 := Lib.hid hN1
  have HQ4 := Lib.hid (fun hc => hs3.q0 (fun hc => HS2.out.q0 (fun hc => HS1.out.q0 HQ.out hc) hc) hc)
  have HBH := Lib.hid (bhd_st HS1.out HS2.out hs3)
  have hk23 := hk3.size
  clear hr2 HF2 HK2 hk3 hs3 hhs hN1 hb0
  go_wp2_with fail
  refine (at_any _ _ _ _ _ _ hr3).mono ?_
  rintro e w4 ⟨rfl, rfl⟩
  have HPL4 : Hid (c4 = 0 → (bhd z p).2.2.1 = 0 ∧ p4 = (bhd z p).2.1) := Lib.hid (fun hc => by
    have h := HBH.out
    rw [hc] at h
    obtain ⟨_, g1, _, g2, _⟩ := h.good
    exact ⟨g1, g2⟩)
  have hC := HCL.out w3 p4 c4 q4 HK3.out hr3 p40 p41 HQ4.out HPL4.out
  unfold ClPost at hC
  clear hr3
  go_wp2_with fail
  with_reducible refine hC.mono ?_
  rintro e w5 ⟨v5, y, p5, c5, q5, o, rfl, ho5, hyb, hyl, hk5, hr5, hs5, how⟩
  obtain ⟨p50, p51⟩ := hs5.place
  obtain ⟨Av, cv, rfl, hbv, hnv, hcv⟩ := ho5.parts
  have HF5 := Lib.hid (blk_kp HF3.out hk5 (by omega))
  have HK5' := Lib.hid (HK3.out.trans hk5)
  have hsz5 := Nat.le_trans hsz3 hk5.size
  have hen5 : Ens w5 (fun k => w2.heap.size ≤ k) A1 N1 (hen H) := hen3.keep fun g hg hlt => hk5.block g hlt (by omega)
  have his5 : Is w5 A2 N1 (H.map (·.2)) := ⟨his3.1, his3.2.kp hk5 (fun _ ad e => by have := hge3 ad e; omega)⟩
  have HYB := Lib.hid hyb
  have HOW := Lib.hid how
  have HS5 := Lib.hid hs5
  have HYL : Hid (y.length ≤ 500) := Lib.hid (by
    by_cases hc : c4 = 0
    · obtain ⟨g1, g2⟩ := HPL4.out hc
      exact hs5.pv (P := fun l => l.length ≤ 500) (by simp) (by rw [g2]; exact HK5.out g1)
    · rw [(hs5.bad hc).1]; simp)
  obtain ⟨r, hr⟩ : ∃ r, r = y.length := ⟨_, rfl⟩
  rw [← hr] at hbv hyl hcv
  rw [← hr]
  have HR := Lib.hid hr
  have hD := deal_any _ A1 A2 Av N1 m1 N1 m2 r cv (hen H) (H.map (·.2)) y w5 hen5 his5 hbv (by omega) (by omega) (by omega) (hen_esm HHS.out) (map2_bd HHS.out) hyb
  clear hC hk5 hs5 ho5 hyb hyl how hbv hnv hen3 his3 hge3 hen5 his5 hr HF3 HK3
  go_wp2_with fail
  refine hD.mono ?_
  rintro e w6 hdp
  obtain ⟨A6, m6, k6, ok6, rfl, hb6, halt⟩ := dealt_post hdp
  have hr6 := hr5.below hb6
  have HF6 := Lib.hid (HF5.out.below hb6)
  have HK6 := Lib.hid (HK5'.out.trans (Kp.of_below (b := b) hb6))
  have hsz6 := Nat.le_trans hsz5 hb6.size
  have HS56 := Lib.hid hb6.size
  clear hD hdp hb6 hr5 HF5 HK5'
  rcases halt with ⟨rfl, rfl, hnf⟩ | ⟨rfl, rfl, _, hft, hE6⟩
  · have hns : hsum H ≠ (y.length : Int) := fun e => hnf ⟨rfl, by rw [HN1.out]; exact (fits_hsum (fun h hh => (HHS.out h hh).1.1) _).2 (by rw [e, HR.out])⟩
    have HNS := Lib.hid hns
    clear hnf hns
    go_wp2_with fail
    refine (fail_any _ _ _ _ _ _ _ _ hr6).mono ?_
    rintro e w7 ⟨c7, q7, rfl, hk7, hr7, hf7⟩
    have hc7 : c7 ≠ 0 := by
      rcases hf7 with ⟨_, h, _⟩ | ⟨h, h2, _⟩
      · rw [h]; decide
      · rw [h2]; exact h
    have HST := Lib.hid (brd_st HBH.out HS5.out (fun e => absurd e HNS.out) (fun _ => hf7))
    rw [if_neg hc7] at HST
    have HF7 := Lib.hid (blk_kp HF6.out hk7 (by omega))
    have HK7 := Lib.hid (HK6.out.trans hk7)
    have hcb : (c7 == 0) = false := by simpa using hc7
    have HC7 := Lib.hid hc7
    clear hr6 HF6 HK6 hk7 hf7 hc7
    go_wp2_with fail
    refine (good_any _ _ _ _ _ _ hr7).mono ?_
    rintro e w8 ⟨rfl, hb8⟩
    rw [hcb]
    have hr8 := hr7.below hb8
    have hF8 := HF7.out.below hb8
    have HK8 := Lib.hid (HK7.out.trans (Kp.of_below (b := b) hb8))
    clear hr7 HF7 HK7 hb8
    obtain ⟨f0, f1, f2⟩ := hF8.c3
    obtain ⟨k0, k1, k2⟩ := blk_f3 hF8
    have HF8 := Lib.hid hF8
    clear hF8
    go_wp2
    obtain ⟨hFd, hkd⟩ := set3 HF8.out (.int .u64 0) (.int .u64 0) (.slice none 0 0)
    have HKd := Lib.hid (HK8.out.new hkd (Nat.le_refl _))
    have hrd := hr8.kp hkd (by omega)
    clear hkd f0 f1 f2 k0 k1 k2
    generalize ((w8.setCell ⟨w.heap.size, 0, none⟩ (.int .u64 0)).setCell ⟨w.heap.size, 1, none⟩ (.int .u64 0)).setCell ⟨w.heap.size, 2, none⟩ (.slice none 0 0) = wd at *
    obtain ⟨d0, d1, d2⟩ := hFd.c3
    refine bodyPost_ret (v := .tuple #[btagg 0 0 none 0 0, .bool false]) (by simp [results, Tryz.results53, go_sem, d0, d1, d2]) rfl ⟨0, 0, none, 0, 0, [], false, _, _, _, rfl, HKd.out, hrd, ⟨rfl, Sq.nil _ _ _ _⟩, Nat.zero_le _, fun k => ⟨by simp [en0], fun s hs => by simp [en0] at hs, by simp [en0]⟩, HST.out, fun _ => rfl, fun h => absurd h HC7.out⟩
  · have hys : hsum H = (y.length : Int) := by
      rw [HN1.out] at hft
      rw [← HR.out]
      exact (fits_hsum (fun h hh => (HHS.out h hh).1.1) _).1 hft
    have HST := Lib.hid (brd_st (c7 := c5) (q7 := q5) HBH.out HS5.out (fun _ => ⟨rfl, rfl⟩) (fun e => absurd hys e))
    have HYS := Lib.hid hys
    rw [HN1.out, dealt_hdl] at hE6
    rw [← HN1.out] at hE6
    have HE6 := Lib.hid hE6
    clear hft hys hE6
    go_wp2_with fail
    refine (good_any _ _ _ _ _ _ hr6).mono ?_
    rintro e w8 ⟨rfl, hb8⟩
    have hr8 := hr6.below hb8
    have hF8 := HF6.out.below hb8
    have HK8 := Lib.hid (HK6.out.trans (Kp.of_below (b := b) hb8))
    have HE8 := Lib.hid (HE6.out.below hb8)
    have hsz8 := Nat.le_trans hsz6 hb8.size
    have hs58 : w5.heap.size ≤ w6.heap.size := HS56.out
    clear hr6 HF6 HK6 HE6 hb8
    by_cases hc : c5 = 0
    · subst hc
      rw [if_pos rfl] at HST
      have HBG : Hid ((bhd z p).2.2.1 = 0 ∧ o = owL z (bhd z p).2.1 p5 (jn (hdl H y))) := Lib.hid (by
        obtain ⟨g1, _⟩ := HS5.out.good
        have g2 := HBH.out
        rw [g1] at g2
        obtain ⟨_, g3, _, g4, _⟩ := g2.good
        exact ⟨g3, by rw [HOW.out rfl, (hds_hdl H y (fun h hh => (HHS.out h hh).1.1) HYS.out).2, ← g4]⟩)
      have HSM := Lib.hid (hdl_esm HHS.out HYL.out)
      obtain ⟨f0, f1, f2⟩ := hF8.c3
      obtain ⟨k0, k1, k2⟩ := blk_f3 hF8
      have HF8 := Lib.hid hF8
      clear hF8
      go_wp2
      obtain ⟨hFd, hkd⟩ := set3 HF8.out (.int .u64 E) (.int .u64 b0) (.slice A6 k6 m6)
      have HKd := Lib.hid (HK8.out.new hkd (Nat.le_refl _))
      have hrd := hr8.kp hkd (by omega)
      have hEd := HE8.out.keep (w' := _) fun g hg hlt => hkd.block g hlt (by have hg2 : w5.heap.size ≤ g := hg; omega)
      clear hkd f0 f1 f2 k0 k1 k2
      generalize ((w8.setCell ⟨w.heap.size, 0, none⟩ (.int .u64 E)).setCell ⟨w.heap.size, 1, none⟩ (.int .u64 b0)).setCell ⟨w.heap.size, 2, none⟩ (.slice A6 k6 m6) = wd at *
      obtain ⟨d0, d1, d2⟩ := hFd.c3
      refine bodyPost_ret (v := .tuple #[btagg E b0 A6 k6 m6, .bool o]) (by simp [results, Tryz.results53, go_sem, d0, d1, d2]) rfl ⟨E, b0, A6, k6, m6, hdl H y, o, _, _, _, rfl, HKd.out, hrd, hEd.mono fun g hg _ => by have hg2 : w5.heap.size ≤ g := hg; show w.heap.size ≤ g; omega, hN16, HSM.out, HST.out, fun h => absurd rfl h, fun _ => HBG.out⟩
    · have hcb : (c5 == 0) = false := by simpa using hc
      have HC7 := Lib.hid hc
      rw [if_neg hc] at HST
      clear hc
      obtain ⟨f0, f1, f2⟩ := hF8.c3
      obtain ⟨k0, k1, k2⟩ := blk_f3 hF8
      have HF8 := Lib.hid hF8
      clear hF8
      go_wp2
      obtain ⟨hFd, hkd⟩ := set3 HF8.out (.int .u64 0) (.int .u64 0) (.slice none 0 0)
      have HKd := Lib.hid (HK8.out.new hkd (Nat.le_refl _))
      have hrd := hr8.kp hkd (by omega)
      clear hkd f0 f1 f2 k0 k1 k2
      generalize ((w8.setCell ⟨w.heap.size, 0, none⟩ (.int .u64 0)).setCell ⟨w.heap.size, 1, none⟩ (.int .u64 0)).setCell ⟨w.heap.size, 2, none⟩ (.slice none 0 0) = wd at *
      obtain ⟨d0, d1, d2⟩ := hFd.c3
      refine bodyPost_ret (v := .tuple #[btagg 0 0 none 0 0, .bool false]) (by simp [results, Tryz.results53, go_sem, d0, d1, d2]) rfl ⟨0, 0, none, 0, 0, [], false, _, _, _, rfl, HKd.out, hrd, ⟨rfl, Sq.nil _ _ _ _⟩, Nat.zero_le _, fun k => ⟨by simp [en0], fun s hs => by simp [en0] at hs, by simp [en0]⟩, HST.out, fun _ => rfl, fun h => absurd h HC7.out⟩
set_option maxHeartbeats 2000000 in
theorem bstrict_any (b : Nat) (a : Option Addr) (n m : Nat) (z : List Int) (p c q : Int) (w : World) (h : IsRd w b (.slice a n m) p c q) (hz : Bs w a n z) (h0 : 0 ≤ p) (h1 : p ≤ n) (hm : n ≤ m) (hn : n ≤ 100000) (hby : ∀ x ∈ z, 0 ≤ x ∧ x < 256) (hfw : (bhd z p).2.2.1 = 0 → Few z 1048576 (bhd z p).2.1) (hq : c = 0 → q = 0) (hK5 : (bhd z p).2.2.1 = 0 → (KS z (bhd z p).2.1).1.length ≤ 500) :
    Calls Tryz.prog 52 #[.pointer (some ⟨b, 0, none⟩)] w (BrPost KS owS b (.slice a n m) n z p c q w) := by
  have hb2 := below_two w (.cells #[.pointer (some ⟨b, 0, none⟩)] 42) (.cells (btenc 0 0 none 0 0) 25)
  have hX := (Blk.new w #[.pointer (some ⟨b, 0, none⟩)] 42).alloc (.cells (btenc 0 0 none 0 0) 25)
  have hF := Blk.new (w.alloc (.cells #[.pointer (some ⟨b, 0, none⟩)] 42)) (btenc 0 0 none 0 0) 25
  rw [World.size_alloc] at hF
  have hbw := h.lt
  have h2 := h.below hb2
  have hz2 := hz.below hb2
  have xc := hX.cell 0 rfl
  have hsz : ((w.alloc (.cells #[.pointer (some ⟨b, 0, none⟩)] 42)).alloc (.cells (btenc 0 0 none 0 0) 25)).heap.size = w.heap.size + 2 := by simp
  have HX := Lib.hid hX
  have HBY := Lib.hid hby
  have HFW := Lib.hid hfw
  have hcl : ∀ W p' c' q', Kp b ((w.alloc (.cells #[.pointer (some ⟨b, 0, none⟩)] 42)).alloc (.cells (btenc 0 0 none 0 0) 25)) W → IsRd W b (.slice a n m) p' c' q' → 0 ≤ p' → p' ≤ n → (c' = 0 → q' = 0) → (c' = 0 → (bhd z p).2.2.1 = 0 ∧ p' = (bhd z p).2.1) → Calls Tryz.prog 85 #[.int .i64 1048576, .pointer (some ⟨w.heap.size, 0, none⟩)] W (ClPost KS owS b (.slice a n m) n z p' c' q' W) := fun W p' c' q' hk hr g0 g1 gq gp =>
    strict1_any w.heap.size b a n m z p' c' q' W ((blk_kp HX.out hk (by omega)).cell 0 rfl) hr (hz2.kp h2 (by simp) hk) g0 g1 hm hn HBY.out (fun hc => by rw [(gp hc).2]; exact HFW.out (gp hc).1) gq
  have hcon := bread_strict w.heap.size b a n m z p c q _ h2 hz2 h0 h1 hm hn hby hq hK5 hcl
  unfold BrPost at hcon
  clear h hz hby hfw hq hK5 hcl h2 hz2 hX
  go_enter Tryz.func52, Tryz.ntmps52
  go_wp2_with fail
  clear xc HX
  generalize (w.alloc (.cells #[.pointer (some ⟨b, 0, none⟩)] 42)).alloc (.cells (btenc 0 0 none 0 0) 25) = w0 at *
  refine hcon.mono ?_
  rintro e w1 ⟨E, b0, A, N, m', L, f, p', c', q', rfl, hk1, hr1, hE1, hN16, hsm, hs1, hf1, hf2⟩
  have hF1 := blk_kp hF hk1 (by omega)
  have HK1 := Lib.hid ((Kp.of_below (b := b) hb2).trans hk1)
  have HE1 := Lib.hid hE1
  have HSM := Lib.hid hsm
  have HS1 := Lib.hid hs1
  have HG1 := Lib.hid hf1
  have HG2 := Lib.hid hf2
  obtain ⟨f0, f1, f2⟩ := hF1.c3
  obtain ⟨k0, k1, k2⟩ := blk_f3 hF1
  have HF1 := Lib.hid hF1
  have hs9 := hk1.size
  clear hcon hF hk1 hE1 hsm hs1 hf1 hf2 hF1 hb2
  go_wp2
  obtain ⟨hFd, hkd⟩ := set3 HF1.out (.int .u64 E) (.int .u64 b0) (.slice A N m')
  have HKd := Lib.hid (HK1.out.new hkd (Nat.le_succ _))
  have hrd := hr1.kp hkd (by omega)
  have hEd := HE1.out.keep (w' := _) fun g hg hlt => hkd.block g hlt (by have hg2 : w0.heap.size ≤ g := hg; omega)
  clear hkd f0 f1 f2 k0 k1 k2
  generalize ((w1.setCell ⟨w.heap.size + 1, 0, none⟩ (.int .u64 E)).setCell ⟨w.heap.size + 1, 1, none⟩ (.int .u64 b0)).setCell ⟨w.heap.size + 1, 2, none⟩ (.slice A N m') = wd at *
  obtain ⟨d0, d1, d2⟩ := hFd.c3
  refine bodyPost_ret (v := .tuple #[btagg E b0 A N m', .bool f]) (by simp [results, Tryz.results52, go_sem, d0, d1, d2]) rfl ⟨E, b0, A, N, m', L, f, _, _, _, rfl, HKd.out, hrd, hEd.mono fun g hg _ => by have hg2 : w0.heap.size ≤ g := hg; show w.heap.size ≤ g; omega, hN16, HSM.out, HS1.out, HG1.out, HG2.out⟩
set_option maxHeartbeats 2000000 in
theorem breadloose_any (b : Nat) (a : Option Addr) (n m : Nat) (z : List Int) (p c q : Int) (w : World) (h : IsRd w b (.slice a n m) p c q) (hz : Bs w a n z) (h0 : 0 ≤ p) (h1 : p ≤ n) (hm : n ≤ m) (hn : n ≤ 100000) (hby : ∀ x ∈ z, 0 ≤ x ∧ x < 256) (hfw : (bhd z p).2.2.1 = 0 → Few z 1048576 (bhd z p).2.1) (hq : c = 0 → q = 0) (hK5 : (bhd z p).2.2.1 = 0 → (KL z (bhd z p).2.1).1.length ≤ 500) :
    Calls Tryz.prog 24 #[.pointer (some ⟨b, 0, none⟩)] w (BrPost KL (owL z) b (.slice a n m) n z p c q w) := by
  have hb2 := below_two w (.cells #[.pointer (some ⟨b, 0, none⟩)] 42) (.cells (btenc 0 0 none 0 0) 25)
  have hX := (Blk.new w #[.pointer (some ⟨b, 0, none⟩)] 42).alloc (.cells (btenc 0 0 none 0 0) 25)
  have hF := Blk.new (w.alloc (.cells #[.pointer (some ⟨b, 0, none⟩)] 42)) (btenc 0 0 none 0 0) 25
  rw [World.size_alloc] at hF
  have hbw := h.lt
  have h2 := h.below hb2
  have hz2 := hz.below hb2
  have xc := hX.cell 0 rfl
  have hsz : ((w.alloc (.cells #[.pointer (some ⟨b, 0, none⟩)] 42)).alloc (.cells (btenc 0 0 none 0 0) 25)).heap.size = w.heap.size + 2 := by simp
  have HX := Lib.hid hX
  have HBY := Lib.hid hby
  have HFW := Lib.hid hfw
  have hcl : ∀ W p' c' q', Kp b ((w.alloc (.cells #[.pointer (some ⟨b, 0, none⟩)] 42)).alloc (.cells (btenc 0 0 none 0 0) 25)) W → IsRd W b (.slice a n m) p' c' q' → 0 ≤ p' → p' ≤ n → (c' = 0 → q' = 0) → (c' = 0 → (bhd z p).2.2.1 = 0 ∧ p' = (bhd z p).2.1) → Calls Tryz.prog 54 #[.int .i64 1048576, .pointer (some ⟨w.heap.size, 0, none⟩)] W (ClPost KL (owL z) b (.slice a n m) n z p' c' q' W) := fun W p' c' q' hk hr g0 g1 gq gp =>
    loose1_any w.heap.size b a n m z p' c' q' W ((blk_kp HX.out hk (by omega)).cell 0 rfl) hr (hz2.kp h2 (by simp) hk) g0 g1 hm hn HBY.out (fun hc => by rw [(gp hc).2]; exact HFW.out (gp hc).1) gq
  have hcon := bread_loose w.heap.size b a n m z p c q _ h2 hz2 h0 h1 hm hn hby hq hK5 hcl
  unfold BrPost at hcon
  clear h hz hby hfw hq hK5 hcl h2 hz2 hX
  go_enter Tryz.func24, Tryz.ntmps24
  go_wp2_with fail
  clear xc HX
  generalize (w.alloc (.cells #[.pointer (some ⟨b, 0, none⟩)] 42)).alloc (.cells (btenc 0 0 none 0 0) 25) = w0 at *
  refine hcon.mono ?_
  rintro e w1 ⟨E, b0, A, N, m', L, f, p', c', q', rfl, hk1, hr1, hE1, hN16, hsm, hs1, hf1, hf2⟩
  have hF1 := blk_kp hF hk1 (by omega)
  have HK1 := Lib.hid ((Kp.of_below (b := b) hb2).trans hk1)
  have HE1 := Lib.hid hE1
  have HSM := Lib.hid hsm
  have HS1 := Lib.hid hs1
  have HG1 := Lib.hid hf1
  have HG2 := Lib.hid hf2
  obtain ⟨f0, f1, f2⟩ := hF1.c3
  obtain ⟨k0, k1, k2⟩ := blk_f3 hF1
  have HF1 := Lib.hid hF1
  have hs9 := hk1.size
  clear hcon hF hk1 hE1 hsm hs1 hf1 hf2 hF1 hb2
  go_wp2
  obtain ⟨hFd, hkd⟩ := set3 HF1.out (.int .u64 E) (.int .u64 b0) (.slice A N m')
  have HKd := Lib.hid (HK1.out.new hkd (Nat.le_succ _))
  have hrd := hr1.kp hkd (by omega)
  have hEd := HE1.out.keep (w' := _) fun g hg hlt => hkd.block g hlt (by have hg2 : w0.heap.size ≤ g := hg; omega)
  clear hkd f0 f1 f2 k0 k1 k2
  generalize ((w1.setCell ⟨w.heap.size + 1, 0, none⟩ (.int .u64 E)).setCell ⟨w.heap.size + 1, 1, none⟩ (.int .u64 b0)).setCell ⟨w.heap.size + 1, 2, none⟩ (.slice A N m') = wd at *
  obtain ⟨d0, d1, d2⟩ := hFd.c3
  refine bodyPost_ret (v := .tuple #[btagg E b0 A N m', .bool f]) (by simp [results, Tryz.results24, go_sem, d0, d1, d2]) rfl ⟨E, b0, A, N, m', L, f, _, _, _, rfl, HKd.out, hrd, hEd.mono fun g hg _ => by have hg2 : w0.heap.size ≤ g := hg; show w.heap.size ≤ g; omega, hN16, HSM.out, HS1.out, HG1.out, HG2.out⟩
end Go.Proofs.YtlealkfkddhnnaaGreat.Cur
