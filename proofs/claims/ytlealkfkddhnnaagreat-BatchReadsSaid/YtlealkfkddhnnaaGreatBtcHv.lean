/- As the seat's text, without what nothing here names. -/
import Derived.Test.YtlealkfkddhnnaaGreatBtcGv
namespace Go.Proofs.YtlealkfkddhnnaaGreat.Cur
open Go.RowKit Mem
set_option linter.unusedVariables false
set_option maxRecDepth 100000
def BqPost (b : Nat) (s : Value) (n : Nat) (z : List Int) (p c q : Int) (w : World) (e : Ending) (w' : World) : Prop :=
  ∃ E b0 A N m L p' c' q', e = .returned (btagg E b0 A N m) ∧ Kp b w w' ∧ IsRd w' b s p' c' q' ∧ Ens w' (fun k => w.heap.size ≤ k) A N L ∧ N ≤ 16 ∧ esm L ∧ St bt0 n (brd KS z p) p c q (E, b0, L) p' c' q'
set_option maxHeartbeats 2000000 in
theorem btread_any (b : Nat) (a : Option Addr) (n m : Nat) (z : List Int) (p c q : Int) (w : World) (h : IsRd w b (.slice a n m) p c q) (hz : Bs w a n z) (h0 : 0 ≤ p) (h1 : p ≤ n) (hm : n ≤ m) (hn : n ≤ 100000) (hby : ∀ x ∈ z, 0 ≤ x ∧ x < 256) (hfw : (bhd z p).2.2.1 = 0 → Few z 1048576 (bhd z p).2.1) (hq : c = 0 → q = 0) (hK5 : (bhd z p).2.2.1 = 0 → (KS z (bhd z p).2.1).1.length ≤ 500) :
    Calls Tryz.prog 23 #[.pointer (some ⟨b, 0, none⟩)] w (BqPost b (.slice a n m) n z p c q w) := by
  have hb1 := below_one w (.cells (btenc 0 0 none 0 0) 25)
  have hF := Blk.new w (btenc 0 0 none 0 0) 25
  have hbw := h.lt
  have hcon := bstrict_any b a n m z p c q _ (h.below hb1) (hz.below hb1) h0 h1 hm hn hby hfw hq hK5
  unfold BrPost at hcon
  have hsz : (w.alloc (.cells (btenc 0 0 none 0 0) 25)).heap.size = w.heap.size + 1 := by simp
  clear h hz hby hfw hq hK5
  go_enter Tryz.func23, Tryz.ntmps23
  go_wp2_with fail
  generalize w.alloc (.cells (btenc 0 0 none 0 0) 25) = w0 at *
  refine hcon.mono ?_
  rintro e w1 ⟨E, b0, A, N, m', L, f, p', c', q', rfl, hk1, hr1, hE1, hN16, hsm, hs1, hf1, hf2⟩
  have hA := below_one w1 (.cells (btenc E b0 A N m') 25)
  have hX := Blk.new w1 (btenc E b0 A N m') 25
  have hF1 := (blk_kp hF hk1 (by omega)).below hA
  have hr2 := hr1.below hA
  have HK1 := Lib.hid (((Kp.of_below (b := b) hb1).trans hk1).trans (Kp.of_below (b := b) hA))
  have HE1 := Lib.hid (hE1.below hA)
  have HSM := Lib.hid hsm
  have HS1 := Lib.hid hs1
  have hs9 := hk1.size
  obtain ⟨x0, x1, x2⟩ := hX.c3
  obtain ⟨f0, f1, f2⟩ := hF1.c3
  obtain ⟨k0, k1, k2⟩ := blk_f3 hF1
  have HF1 := Lib.hid hF1
  clear hcon hF hk1 hE1 hsm hs1 hf1 hf2 hF1 hb1 hX hr1 hA
  go_wp2
  obtain ⟨hFd, hkd⟩ := set3 HF1.out (.int .u64 E) (.int .u64 b0) (.slice A N m')
  have HKd := Lib.hid (HK1.out.new hkd (Nat.le_refl _))
  have hrd := hr2.kp hkd (by omega)
  have hEd := HE1.out.keep (w' := _) fun g hg hlt => hkd.block g hlt (by have hg2 : w0.heap.size ≤ g := hg; omega)
  clear hkd f0 f1 f2 k0 k1 k2 x0 x1 x2
  generalize (((w1.alloc (.cells (btenc E b0 A N m') 25)).setCell ⟨w.heap.size, 0, none⟩ (.int .u64 E)).setCell ⟨w.heap.size, 1, none⟩ (.int .u64 b0)).setCell ⟨w.heap.size, 2, none⟩ (.slice A N m') = wd at *
  obtain ⟨d0, d1, d2⟩ := hFd.c3
  refine bodyPost_ret (v := btagg E b0 A N m') (by simp [results, Tryz.results23, go_sem, d0, d1, d2]) rfl ⟨E, b0, A, N, m', L, _, _, _, rfl, HKd.out, hrd, hEd.mono fun g hg _ => by have hg2 : w0.heap.size ≤ g := hg; show w.heap.size ≤ g; omega, hN16, HSM.out, HS1.out⟩
def BwPost (K : List Int → Int → Rs (List Int)) (ow : Int → Int → List Int → Bool) (n : Nat) (z : List Int) (w : World) (e : Ending) (w' : World) : Prop :=
  ∃ E b0 A N m L f p' c' q', St bt0 n (brd K z 0) 0 0 0 (E, b0, L) p' c' q' ∧ Below w.heap.size w w' ∧ Ens w' (fun k => w.heap.size ≤ k) A N L ∧ N ≤ 16 ∧ esm L ∧ (c' ≠ 0 → f = false) ∧ (c' = 0 → (bhd z 0).2.2.1 = 0 ∧ f = ow (bhd z 0).2.1 p' (jn L)) ∧
    ((c' = 0 ∧ p' < n ∧ e = .returned (.tuple #[btagg 0 0 none 0 0, .bool false, .agg #[.int .i64 9, .int .i64 p']])) ∨ (¬ (c' = 0 ∧ p' < n) ∧ e = .returned (.tuple #[btagg E b0 A N m, .bool f, .agg #[.int .i64 c', .int .i64 q']])))
theorem ens_nil (w : World) (P : Nat → Prop) : Ens w P none 0 [] := ⟨rfl, Sq.nil _ _ _ _⟩
theorem esm_nil : esm [] := fun k => ⟨by simp [en0], fun s hs => by simp [en0] at hs, by simp [en0]⟩
theorem set2 {w : World} {b : Nat} {v0 v1 : Value} {t : Nat} (h : Blk w b #[v0, v1] t) (u0 u1 : Value) :
    Blk ((w.setCell ⟨b, 0, Option.none⟩ u0).setCell ⟨b, 1, Option.none⟩ u1) b #[u0, u1] t ∧ Kp b w ((w.setCell ⟨b, 0, Option.none⟩ u0).setCell ⟨b, 1, Option.none⟩ u1) :=
  ⟨(h.set 0 u0).set 1 u1, (Kp.setCell _ _ _ _).trans (Kp.setCell _ _ _ _)⟩
theorem five_set {w wr : World} {B : Nat} {v0 v1 v2 u0 u1 : Value} {t t' : Nat} {P : Nat → Prop} {A : Option Addr} {N : Nat} {L : List En} (hb : Below B w wr) (hA : Blk wr B #[v0, v1, v2] t) (hF : Blk wr (B + 1) #[u0, u1] t') (he : Ens wr P A N L) (hP : ∀ g, P g → B + 2 ≤ g) (a0 a1 a2 f0 f1 : Value) :
    ∀ W, W = ((((wr.setCell ⟨B, 0, none⟩ a0).setCell ⟨B, 1, none⟩ a1).setCell ⟨B, 2, none⟩ a2).setCell ⟨B + 1, 0, none⟩ f0).setCell ⟨B + 1, 1, none⟩ f1 →
      Blk W B #[a0, a1, a2] t ∧ Blk W (B + 1) #[f0, f1] t' ∧ Below B w W ∧ Ens W P A N L := by
  rintro W rfl
  obtain ⟨h1, k1⟩ := set3 hA a0 a1 a2
  have hF1 := blk_kp hF k1 (by omega)
  obtain ⟨h2, k2⟩ := set2 hF1 f0 f1
  refine ⟨blk_kp h1 k2 (by omega), h2, ?_, ?_⟩
  · exact ((((hb.setCell (p := ⟨B, 0, none⟩) (Nat.le_refl _) _).setCell (p := ⟨B, 1, none⟩) (Nat.le_refl _) _).setCell (p := ⟨B, 2, none⟩) (Nat.le_refl _) _).setCell (p := ⟨B + 1, 0, none⟩) (Nat.le_succ _) _).setCell (p := ⟨B + 1, 1, none⟩) (Nat.le_succ _) _
  · exact (he.keep fun g hg hlt => k1.block g hlt (by have := hP g hg; omega)).keep fun g hg hlt => k2.block g hlt (by have := hP g hg; omega)
set_option maxHeartbeats 4000000 in
theorem bwhole_strict (a : Option Addr) (n m : Nat) (z : List Int) (w : World) (hz : Bs w a n z) (hm : n ≤ m) (hn : n ≤ 100000) (hby : ∀ x ∈ z, 0 ≤ x ∧ x < 256) (hfw : (bhd z 0).2.2.1 = 0 → Few z 1048576 (bhd z 0).2.1) (hK5 : (bhd z 0).2.2.1 = 0 → (KS z (bhd z 0).2.1).1.length ≤ 500) :
    Calls Tryz.prog 63 #[.slice a n m, .func (.func 52) #[] #[]] w (BwPost KS owS n z w) := by
  have hb2 := below_two w (.cells (btenc 0 0 none 0 0) 25) (.cells #[.int .i64 0, .int .i64 0] 48)
  have hA := (Blk.new w (btenc 0 0 none 0 0) 25).alloc (.cells #[.int .i64 0, .int .i64 0] 48)
  have hF := Blk.new (w.alloc (.cells (btenc 0 0 none 0 0) 25)) #[.int .i64 0, .int .i64 0] 48
  rw [World.size_alloc] at hF
  have hsz : ((w.alloc (.cells (btenc 0 0 none 0 0) 25)).alloc (.cells #[.int .i64 0, .int .i64 0] 48)).heap.size = w.heap.size + 2 := by simp
  have HZ := Lib.hid hz
  have HBY := Lib.hid hby
  have HFW := Lib.hid hfw
  have HK5 := Lib.hid hK5
  clear hz hby hfw hK5
  go_enter Tryz.func63, Tryz.ntmps63
  go_wp2_with fail
  generalize (w.alloc (.cells (btenc 0 0 none 0 0) 25)).alloc (.cells #[.int .i64 0, .int .i64 0] 48) = w0 at *
  refine (new_any a n m _ hm).mono ?_
  rintro e w1 ⟨rfl, hb1, hsz1, hr1⟩
  rw [hsz] at hr1 hsz1 ⊢
  replace hA := hA.below hb1
  replace hF := hF.below hb1
  have hbd := hb2.trans (hb1.mono hb2.size)
  have hcon := bstrict_any (w.heap.size + 2) a n n z 0 0 0 w1 hr1 (HZ.out.below hbd) (Int.le_refl _) (by omega) (Nat.le_refl _) hn HBY.out HFW.out (fun _ => rfl) HK5.out
  unfold BrPost at hcon
  clear hb1 hb2 hsz
  go_wp2_with fail
  refine hcon.mono ?_
  rintro e w2 ⟨E, b0, A, N, m', L, f, p', c', q', rfl, hk2, hr2, hE2, hN16, hsm, hs2, hf1, hf2⟩
  obtain ⟨p20, p21⟩ := hs2.place
  have hbd2 := Kp.below hbd (Nat.le_refl _) hk2 (by omega)
  have hX := below_one w2 (.cells (btenc E b0 A N m') 25)
  have hB := Blk.new w2 (btenc E b0 A N m') 25
  replace hA := (blk_kp hA hk2 (by omega)).below hX
  replace hF := (blk_kp hF hk2 (by omega)).below hX
  have hr3 := hr2.below hX
  have HE3 := Lib.hid (hE2.below hX)
  have HSM := Lib.hid hsm
  have HS2 := Lib.hid hs2
  have HG1 := Lib.hid hf1
  have HG2 := Lib.hid hf2
  have hbd3 := hbd2.trans (hX.mono hbd2.size)
  have hs12 : w.heap.size + 3 ≤ w2.heap.size := by have := hk2.size; omega
  have hsx : w2.heap.size < (w2.alloc (.cells (btenc E b0 A N m') 25)).heap.size := by simp
  clear hcon hk2 hr1 hr2 hE2 hsm hs2 hf1 hf2 hbd hbd2 hX
  go_wp2_with fail
  generalize w2.alloc (.cells (btenc E b0 A N m') 25) = w3 at *
  generalize w2.heap.size = xb at *
  refine (end_any _ _ _ _ _ _ _ _ hr3 p20 p21 (by omega)).mono ?_
  rintro e w4 ⟨c9, q9, rfl, hk4, hr4, h9⟩
  have hs4 : w.heap.size + 3 ≤ w4.heap.size := by have := hk4.size; omega
  have hbd4 := Kp.below hbd3 (Nat.le_refl _) hk4 (by omega)
  replace hA := blk_kp hA hk4 (by omega)
  replace hF := blk_kp hF hk4 (by omega)
  replace hB := blk_kp hB hk4 (by omega)
  have HE4 : Hid (Ens w4 (fun k => w.heap.size + 3 ≤ k) A N L) := Lib.hid ((HE3.out.mono (Q := fun k => w.heap.size + 3 ≤ k) (fun g hg _ => by have h2 : w1.heap.size ≤ g := hg; omega)).keep fun g hg hlt => hk4.block g hlt (by omega))
  have H9 := Lib.hid h9
  clear hk4 hr3 HE3 hbd3 h9 hsx
  go_wp2_with fail
  refine (fault_any _ _ _ _ _ _ hr4).mono ?_
  rintro e w5 ⟨rfl, hb5⟩
  have hs5 : w.heap.size + 3 ≤ w5.heap.size := by have := hb5.size; omega
  have hY := below_one w5 (.cells #[.int .i64 c9, .int .i64 q9] 48)
  have hG := Blk.new w5 #[.int .i64 c9, .int .i64 q9] 48
  replace hA := (hA.below hb5).below hY
  replace hF := (hF.below hb5).below hY
  replace hB := (hB.below hb5).below hY
  have HE5 := Lib.hid ((HE4.out.below hb5).below hY)
  have hbd5 := hbd4.trans (hb5.mono hbd4.size)
  replace hbd5 := hbd5.trans (hY.mono hbd5.size)
  obtain ⟨y0, y1⟩ := hG.c2
  clear hr4 HE4 hbd4 hb5 hY
  go_wp2_with fail
  clear y0 y1
  generalize w5.alloc (.cells #[.int .i64 c9, .int .i64 q9] 48) = w6 at *
  generalize w5.heap.size = yb at *
  refine (fgood_any _ _ _).mono ?_
  rintro e w7 ⟨rfl, hb7⟩
  replace hA := hA.below hb7
  replace hF := hF.below hb7
  replace hB := hB.below hb7
  replace hG := hG.below hb7
  have HE7 := Lib.hid (HE5.out.below hb7)
  have hbd7 := hbd5.trans (hb7.mono hbd5.size)
  clear HE5 hbd5 hb7
  obtain ⟨a0, a1, a2⟩ := hA.c3
  obtain ⟨k0, k1, k2⟩ := blk_f3 hA
  obtain ⟨f0, f1⟩ := hF.c2
  obtain ⟨j0, j1⟩ := hF.f2
  obtain ⟨x0, x1, x2⟩ := hB.c3
  obtain ⟨y0, y1⟩ := hG.c2
  have HA := Lib.hid hA
  have HF := Lib.hid hF
  have HBD := Lib.hid hbd7
  clear hA hF hB hG hbd7
  by_cases hc : c9 = 0
  · have HC := Lib.hid hc
    subst hc
    have H0 : Hid (c' = 0 ∧ ¬ (c' = 0 ∧ p' < n) ∧ q' = 0) := Lib.hid (by
      have h := H9.out
      split at h
      · exact absurd h.1 (by decide)
      · rename_i hn
        have hc0 : c' = 0 := h.1.symm
        exact ⟨hc0, hn, HS2.out.q0 (fun _ => rfl) hc0⟩)
    go_wp2
    obtain ⟨hA9, hF9, hbd9, hE9⟩ := five_set HBD.out HA.out HF.out HE7.out (fun g hg => by omega) (.int .u64 E) (.int .u64 b0) (.slice A N m') (.int .i64 0) (.int .i64 0) _ rfl
    clear a0 a1 a2 k0 k1 k2 f0 f1 j0 j1 x0 x1 x2 y0 y1
    generalize ((((w7.setCell ⟨w.heap.size, 0, none⟩ (.int .u64 E)).setCell ⟨w.heap.size, 1, none⟩ (.int .u64 b0)).setCell ⟨w.heap.size, 2, none⟩ (.slice A N m')).setCell ⟨w.heap.size + 1, 0, none⟩ (.int .i64 0)).setCell ⟨w.heap.size + 1, 1, none⟩ (.int .i64 0) = wd at *
    obtain ⟨d0, d1, d2⟩ := hA9.c3
    obtain ⟨e0, e1⟩ := hF9.c2
    refine bodyPost_ret (v := .tuple #[btagg E b0 A N m', .bool f, .agg #[.int .i64 0, .int .i64 0]]) (by simp [results, Tryz.results63, go_sem, d0, d1, d2, e0, e1]) rfl ⟨E, b0, A, N, m', L, f, p', c', q', HS2.out, hbd9, hE9.mono fun g hg _ => by omega, hN16, HSM.out, HG1.out, HG2.out, .inr ⟨H0.out.2.1, by rw [H0.out.1, H0.out.2.2]⟩⟩
  · have hcb : (c9 == 0) = false := by simpa using hc
    have HC := Lib.hid hc
    clear hc
    have HO : Hid ((c' = 0 ∧ p' < n ∧ c9 = 9 ∧ q9 = p') ∨ (c' ≠ 0 ∧ ¬ (c' = 0 ∧ p' < n) ∧ c9 = c' ∧ q9 = q')) := Lib.hid (by
      have h := H9.out
      split at h
      · rename_i hn; exact .inl ⟨hn.1, hn.2, h.1, h.2⟩
      · rename_i hn; exact .inr ⟨fun e => HC.out (by rw [h.1]; exact e), hn, h.1, h.2⟩)
    go_wp2
    go_region
    go_wp2
    obtain ⟨hA9, hF9, hbd9, hE9⟩ := five_set HBD.out HA.out HF.out HE7.out (fun g hg => by omega) (.int .u64 0) (.int .u64 0) (.slice none 0 0) (.int .i64 c9) (.int .i64 q9) _ rfl
    clear a0 a1 a2 k0 k1 k2 f0 f1 j0 j1 x0 x1 x2 y0 y1
    generalize ((((w7.setCell ⟨w.heap.size, 0, none⟩ (.int .u64 0)).setCell ⟨w.heap.size, 1, none⟩ (.int .u64 0)).setCell ⟨w.heap.size, 2, none⟩ (.slice none 0 0)).setCell ⟨w.heap.size + 1, 0, none⟩ (.int .i64 c9)).setCell ⟨w.heap.size + 1, 1, none⟩ (.int .i64 q9) = wd at *
    have hbd10 := hbd9.trans ((below_one' wd).mono hbd9.size)
    have hE10 := hE9.below (below_one' wd)
    replace hA9 : Blk wd.drew w.heap.size (btenc 0 0 none 0 0) 25 := hA9
    replace hF9 : Blk wd.drew (w.heap.size + 1) #[.int .i64 c9, .int .i64 q9] 48 := hF9
    obtain ⟨d0, d1, d2⟩ := hA9.c3
    obtain ⟨e0, e1⟩ := hF9.c2
    refine bodyPost_ret (v := .tuple #[btagg 0 0 none 0 0, .bool false, .agg #[.int .i64 c9, .int .i64 q9]]) (by simp [results, Tryz.results63, go_sem, d0, d1, d2, e0, e1]) rfl ?_
    rcases HO.out with ⟨r1, r2, r3, r4⟩ | ⟨r1, r2, r3, r4⟩
    · exact ⟨E, b0, A, N, m', L, f, p', c', q', HS2.out, hbd10, hE10.mono fun g hg _ => by omega, hN16, HSM.out, HG1.out, HG2.out, .inl ⟨r1, r2, by rw [r3, r4]⟩⟩
    · have hnil := HS2.out.nil r1
      exact ⟨0, 0, none, 0, 0, [], false, p', c', q', by have h := HS2.out; rw [hnil] at h; exact h, hbd10, ens_nil _ _, Nat.zero_le _, esm_nil, fun _ => rfl, fun h => absurd h r1, .inr ⟨r2, by rw [r3, r4]⟩⟩
set_option maxHeartbeats 4000000 in
theorem bwhole_loose (a : Option Addr) (n m : Nat) (z : List Int) (w : World) (hz : Bs w a n z) (hm : n ≤ m) (hn : n ≤ 100000) (hby : ∀ x ∈ z, 0 ≤ x ∧ x < 256) (hfw : (bhd z 0).2.2.1 = 0 → Few z 1048576 (bhd z 0).2.1) (hK5 : (bhd z 0).2.2.1 = 0 → (KL z (bhd z 0).2.1).1.length ≤ 500) :
    Calls Tryz.prog 63 #[.slice a n m, .func (.func 24) #[] #[]] w (BwPost KL (owL z) n z w) := by
  have hb2 := below_two w (.cells (btenc 0 0 none 0 0) 25) (.cells #[.int .i64 0, .int .i64 0] 48)
  have hA := (Blk.new w (btenc 0 0 none 0 0) 25).alloc (.cells #[.int .i64 0, .int .i64 0] 48)
  have hF := Blk.new (w.alloc (.cells (btenc 0 0 none 0 0) 25)) #[.int .i64 0, .int .i64 0] 48
  rw [World.size_alloc] at hF
  have hsz : ((w.alloc (.cells (btenc 0 0 none 0 0) 25)).alloc (.cells #[.int .i64 0, .int .i64 0] 48)).heap.size = w.heap.size + 2 := by simp
  have HZ := Lib.hid hz
  have HBY := Lib.hid hby
  have HFW := Lib.hid hfw
  have HK5 := Lib.hid hK5
  clear hz hby hfw hK5
  go_enter Tryz.func63, Tryz.ntmps63
  go_wp2_with fail
  generalize (w.alloc (.cells (btenc 0 0 none 0 0) 25)).alloc (.cells #[.int .i64 0, .int .i64 0] 48) = w0 at *
  refine (new_any a n m _ hm).mono ?_
  rintro e w1 ⟨rfl, hb1, hsz1, hr1⟩
  rw [hsz] at hr1 hsz1 ⊢
  replace hA := hA.below hb1
  replace hF := hF.below hb1
  have hbd := hb2.trans (hb1.mono hb2.size)
  have hcon := breadloose_any (w.heap.size + 2) a n n z 0 0 0 w1 hr1 (HZ.out.below hbd) (Int.le_refl _) (by omega) (Nat.le_refl _) hn HBY.out HFW.out (fun _ => rfl) HK5.out
  unfold BrPost at hcon
  clear hb1 hb2 hsz
  go_wp2_with fail
  refine hcon.mono ?_
  rintro e w2 ⟨E, b0, A, N, m', L, f, p', c', q', rfl, hk2, hr2, hE2, hN16, hsm, hs2, hf1, hf2⟩
  obtain ⟨p20, p21⟩ := hs2.place
  have hbd2 := Kp.below hbd (Nat.le_refl _) hk2 (by omega)
  have hX := below_one w2 (.cells (btenc E b0 A N m') 25)
  have hB := Blk.new w2 (btenc E b0 A N m') 25
  replace hA := (blk_kp hA hk2 (by omega)).below hX
  replace hF := (blk_kp hF hk2 (by omega)).below hX
  have hr3 := hr2.below hX
  have HE3 := Lib.hid (hE2.below hX)
  have HSM := Lib.hid hsm
  have HS2 := Lib.hid hs2
  have HG1 := Lib.hid hf1
  have HG2 := Lib.hid hf2
  have hbd3 := hbd2.trans (hX.mono hbd2.size)
  have hs12 : w.heap.size + 3 ≤ w2.heap.size := by have := hk2.size; omega
  have hsx : w2.heap.size < (w2.alloc (.cells (btenc E b0 A N m') 25)).heap.size := by simp
  clear hcon hk2 hr1 hr2 hE2 hsm hs2 hf1 hf2 hbd hbd2 hX
  go_wp2_with fail
  generalize w2.alloc (.cells (btenc E b0 A N m') 25) = w3 at *
  generalize w2.heap.size = xb at *
  refine (end_any _ _ _ _ _ _ _ _ hr3 p20 p21 (by omega)).mono ?_
  rintro e w4 ⟨c9, q9, rfl, hk4, hr4, h9⟩
  have hs4 : w.heap.size + 3 ≤ w4.heap.size := by have := hk4.size; omega
  have hbd4 := Kp.below hbd3 (Nat.le_refl _) hk4 (by omega)
  replace hA := blk_kp hA hk4 (by omega)
  replace hF := blk_kp hF hk4 (by omega)
  replace hB := blk_kp hB hk4 (by omega)
  have HE4 : Hid (Ens w4 (fun k => w.heap.size + 3 ≤ k) A N L) := Lib.hid ((HE3.out.mono (Q := fun k => w.heap.size + 3 ≤ k) (fun g hg _ => by have h2 : w1.heap.size ≤ g := hg; omega)).keep fun g hg hlt => hk4.block g hlt (by omega))
  have H9 := Lib.hid h9
  clear hk4 hr3 HE3 hbd3 h9 hsx
  go_wp2_with fail
  refine (fault_any _ _ _ _ _ _ hr4).mono ?_
  rintro e w5 ⟨rfl, hb5⟩
  have hs5 : w.heap.size + 3 ≤ w5.heap.size := by have := hb5.size; omega
  have hY := below_one w5 (.cells #[.int .i64 c9, .int .i64 q9] 48)
  have hG := Blk.new w5 #[.int .i64 c9, .int .i64 q9] 48
  replace hA := (hA.below hb5).below hY
  replace hF := (hF.below hb5).below hY
  replace hB := (hB.below hb5).below hY
  have HE5 := Lib.hid ((HE4.out.below hb5).below hY)
  have hbd5 := hbd4.trans (hb5.mono hbd4.size)
  replace hbd5 := hbd5.trans (hY.mono hbd5.size)
  obtain ⟨y0, y1⟩ := hG.c2
  clear hr4 HE4 hbd4 hb5 hY
  go_wp2_with fail
  clear y0 y1
  generalize w5.alloc (.cells #[.int .i64 c9, .int .i64 q9] 48) = w6 at *
  generalize w5.heap.size = yb at *
  refine (fgood_any _ _ _).mono ?_
  rintro e w7 ⟨rfl, hb7⟩
  replace hA := hA.below hb7
  replace hF := hF.below hb7
  replace hB := hB.below hb7
  replace hG := hG.below hb7
  have HE7 := Lib.hid (HE5.out.below hb7)
  have hbd7 := hbd5.trans (hb7.mono hbd5.size)
  clear HE5 hbd5 hb7
  obtain ⟨a0, a1, a2⟩ := hA.c3
  obtain ⟨k0, k1, k2⟩ := blk_f3 hA
  obtain ⟨f0, f1⟩ := hF.c2
  obtain ⟨j0, j1⟩ := hF.f2
  obtain ⟨x0, x1, x2⟩ := hB.c3
  obtain ⟨y0, y1⟩ := hG.c2
  have HA := Lib.hid hA
  have HF := Lib.hid hF
  have HBD := Lib.hid hbd7
  clear hA hF hB hG hbd7
  by_cases hc : c9 = 0
  · have HC := Lib.hid hc
    subst hc
    have H0 : Hid (c' = 0 ∧ ¬ (c' = 0 ∧ p' < n) ∧ q' = 0) := Lib.hid (by
      have h := H9.out
      split at h
      · exact absurd h.1 (by decide)
      · rename_i hn
        have hc0 : c' = 0 := h.1.symm
        exact ⟨hc0, hn, HS2.out.q0 (fun _ => rfl) hc0⟩)
    go_wp2
    obtain ⟨hA9, hF9, hbd9, hE9⟩ := five_set HBD.out HA.out HF.out HE7.out (fun g hg => by omega) (.int .u64 E) (.int .u64 b0) (.slice A N m') (.int .i64 0) (.int .i64 0) _ rfl
    clear a0 a1 a2 k0 k1 k2 f0 f1 j0 j1 x0 x1 x2 y0 y1
    generalize ((((w7.setCell ⟨w.heap.size, 0, none⟩ (.int .u64 E)).setCell ⟨w.heap.size, 1, none⟩ (.int .u64 b0)).setCell ⟨w.heap.size, 2, none⟩ (.slice A N m')).setCell ⟨w.heap.size + 1, 0, none⟩ (.int .i64 0)).setCell ⟨w.heap.size + 1, 1, none⟩ (.int .i64 0) = wd at *
    obtain ⟨d0, d1, d2⟩ := hA9.c3
    obtain ⟨e0, e1⟩ := hF9.c2
    refine bodyPost_ret (v := .tuple #[btagg E b0 A N m', .bool f, .agg #[.int .i64 0, .int .i64 0]]) (by simp [results, Tryz.results63, go_sem, d0, d1, d2, e0, e1]) rfl ⟨E, b0, A, N, m', L, f, p', c', q', HS2.out, hbd9, hE9.mono fun g hg _ => by omega, hN16, HSM.out, HG1.out, HG2.out, .inr ⟨H0.out.2.1, by rw [H0.out.1, H0.out.2.2]⟩⟩
  · have hcb : (c9 == 0) = false := by simpa using hc
    have HC := Lib.hid hc
    clear hc
    have HO : Hid ((c' = 0 ∧ p' < n ∧ c9 = 9 ∧ q9 = p') ∨ (c' ≠ 0 ∧ ¬ (c' = 0 ∧ p' < n) ∧ c9 = c' ∧ q9 = q')) := Lib.hid (by
      have h := H9.out
      split at h
      · rename_i hn; exact .inl ⟨hn.1, hn.2, h.1, h.2⟩
      · rename_i hn; exact .inr ⟨fun e => HC.out (by rw [h.1]; exact e), hn, h.1, h.2⟩)
    go_wp2
    go_region
    go_wp2
    obtain ⟨hA9, hF9, hbd9, hE9⟩ := five_set HBD.out HA.out HF.out HE7.out (fun g hg => by omega) (.int .u64 0) (.int .u64 0) (.slice none 0 0) (.int .i64 c9) (.int .i64 q9) _ rfl
    clear a0 a1 a2 k0 k1 k2 f0 f1 j0 j1 x0 x1 x2 y0 y1
    generalize ((((w7.setCell ⟨w.heap.size, 0, none⟩ (.int .u64 0)).setCell ⟨w.heap.size, 1, none⟩ (.int .u64 0)).setCell ⟨w.heap.size, 2, none⟩ (.slice none 0 0)).setCell ⟨w.heap.size + 1, 0, none⟩ (.int .i64 c9)).setCell ⟨w.heap.size + 1, 1, none⟩ (.int .i64 q9) = wd at *
    have hbd10 := hbd9.trans ((below_one' wd).mono hbd9.size)
    have hE10 := hE9.below (below_one' wd)
    replace hA9 : Blk wd.drew w.heap.size (btenc 0 0 none 0 0) 25 := hA9
    replace hF9 : Blk wd.drew (w.heap.size + 1) #[.int .i64 c9, .int .i64 q9] 48 := hF9
    obtain ⟨d0, d1, d2⟩ := hA9.c3
    obtain ⟨e0, e1⟩ := hF9.c2
    refine bodyPost_ret (v := .tuple #[btagg 0 0 none 0 0, .bool false, .agg #[.int .i64 c9, .int .i64 q9]]) (by simp [results, Tryz.results63, go_sem, d0, d1, d2, e0, e1]) rfl ?_
    rcases HO.out with ⟨r1, r2, r3, r4⟩ | ⟨r1, r2, r3, r4⟩
    · exact ⟨E, b0, A, N, m', L, f, p', c', q', HS2.out, hbd10, hE10.mono fun g hg _ => by omega, hN16, HSM.out, HG1.out, HG2.out, .inl ⟨r1, r2, by rw [r3, r4]⟩⟩
    · have hnil := HS2.out.nil r1
      exact ⟨0, 0, none, 0, 0, [], false, p', c', q', by have h := HS2.out; rw [hnil] at h; exact h, hbd10, ens_nil _ _, Nat.zero_le _, esm_nil, fun _ => rfl, fun h => absurd h r1, .inr ⟨r2, by rw [r3, r4]⟩⟩
end Go.Proofs.YtlealkfkddhnnaaGreat.Cur
