/- As the seat's text, without what nothing here names. -/
import Derived.Test.YtoemmppoejaapaaPekLf
import Derived.Test.YtoemmppoejaapaaK25f
namespace Go.Proofs.Ytoemmppoejaapaa.Cur
open Go.RowKit Mem
set_option linter.unusedVariables false
set_option linter.unusedSimpArgs false
set_option maxRecDepth 100000
def ex26 : List En := [([(5, [])], []), ([(5, [])], [])]
theorem ex26_btk : btk (1, 10, thEn 10 ex26 (fl [])) = true := by decide +kernel
theorem ex26_th : thEn 10 ex26 (fl []) = [([(5, [])], []), ([(5, [10])], [])] := by rfl
theorem ex26_te (s : Int) : TE 10 (lksOf ex26) (fl []) 2 s = if s = 5 then some [11, 10] else none := by
  show (if s = 5 then some ((10 + ((1 : Nat) : Int)) :: ((if (5 : Int) = 5 then some ((10 + ((0 : Nat) : Int)) :: (((fl [] (5 : Int)).getD []).take 3)) else fl [] 5).getD []).take 3) else if s = 5 then some ((10 + ((0 : Nat) : Int)) :: (((fl [] (5 : Int)).getD []).take 3)) else fl [] s) = _
  by_cases h : s = 5
  · rw [if_pos h, if_pos h]; rfl
  · rw [if_neg h, if_neg h, if_neg h]; rfl
theorem only5 {ss : List Int} (h : ss.Pairwise (· < ·)) (hm : ∀ s, s ∈ ss ↔ s = 5) : ss = [5] := by
  match ss, h, hm with
  | [], _, hm => exact absurd ((hm 5).2 rfl) (by simp)
  | [x], _, hm => rw [(hm x).1 (by simp)]
  | x :: y :: l, h, hm =>
    have h1 := (hm x).1 (by simp)
    have h2 := (hm y).1 (by simp)
    have := (List.pairwise_cons.1 h).1 y (by simp)
    omega
set_option maxHeartbeats 8000000 in
theorem live26_any (w : World) : Calls Try.prog 6 #[] w (BPost (.bool true) w) := by
  have hF := (Blk.new w (lkc 5 none 0 0) 51).alloc (.cells #[.slice (some ⟨w.heap.size, 0, none⟩) 1 1, .slice none 0 0, .slice (some ⟨w.heap.size, 0, none⟩) 1 1, .slice none 0 0] 31)
  have hG := Blk.new (w.alloc (.cells (lkc 5 none 0 0) 51)) #[.slice (some ⟨w.heap.size, 0, none⟩) 1 1, .slice none 0 0, .slice (some ⟨w.heap.size, 0, none⟩) 1 1, .slice none 0 0] 31
  rw [World.size_alloc] at hG
  have hb := below_two w (.cells (lkc 5 none 0 0) 51) (.cells #[.slice (some ⟨w.heap.size, 0, none⟩) 1 1, .slice none 0 0, .slice (some ⟨w.heap.size, 0, none⟩) 1 1, .slice none 0 0] 31)
  have hlk : Lks ((w.alloc (.cells (lkc 5 none 0 0) 51)).alloc (.cells #[.slice (some ⟨w.heap.size, 0, none⟩) 1 1, .slice none 0 0, .slice (some ⟨w.heap.size, 0, none⟩) 1 1, .slice none 0 0] 31)) (fun _ => True) (some ⟨w.heap.size, 0, none⟩) 1 [(5, [])] :=
    lks_of_cells rfl trivial fun i hi => by
      obtain rfl : i = 0 := by omega
      exact ⟨_, _, hF.c2, LkE.mk (by decide) rfl (Nat.le_refl _) (fun _ => rfl) (Sq.nil _ _ _ _)⟩
  have hen : EnE.R ((w.alloc (.cells (lkc 5 none 0 0) 51)).alloc (.cells #[.slice (some ⟨w.heap.size, 0, none⟩) 1 1, .slice none 0 0, .slice (some ⟨w.heap.size, 0, none⟩) 1 1, .slice none 0 0] 31)) (fun _ => True) [.slice (some ⟨w.heap.size, 0, none⟩) 1 1, .slice none 0 0] ([(5, [])], []) :=
    EnE.mk hlk (Nat.le_refl _) (fun h => by cases h) rfl (Nat.le_refl _) (fun _ => rfl) (Sq.nil _ _ _ _)
  have hz : Ens ((w.alloc (.cells (lkc 5 none 0 0) 51)).alloc (.cells #[.slice (some ⟨w.heap.size, 0, none⟩) 1 1, .slice none 0 0, .slice (some ⟨w.heap.size, 0, none⟩) 1 1, .slice none 0 0] 31)) (fun _ => True) (some ⟨w.heap.size + 1, 0, none⟩) 2 ex26 :=
    ens_of_cells rfl trivial fun i hi => by
      obtain rfl | rfl : i = 0 ∨ i = 1 := by omega
      · exact ⟨_, _, ⟨hG.cell 0 rfl, hG.cell 1 rfl⟩, hen⟩
      · exact ⟨_, _, ⟨hG.cell 2 rfl, hG.cell 3 rfl⟩, hen⟩
  have hth := thread_any (fun _ => True) (fun _ => True) 1 10 (some ⟨w.heap.size + 1, 0, none⟩) 2 2 ex26 none 0 0 [] _ hz (by omega) (fun k => by
    match k with
    | 0 => exact ⟨by decide, (fun s hs => by simp [ex26] at hs; subst hs; decide), by decide⟩
    | 1 => exact ⟨by decide, (fun s hs => by simp [ex26] at hs; subst hs; decide), by decide⟩
    | k + 2 => exact ⟨Nat.zero_le _, (fun s hs => nomatch hs), Nat.zero_le _⟩) (by decide) (by decide) ⟨rfl, Sq.nil _ _ _ _⟩ (by omega) (fun _ => rfl) (fun s hs => nomatch hs)
  unfold ThPost at hth
  unfold BPost
  have HB := Lib.hid hb
  clear hF hG hlk hen hz hb
  go_enter Try.func6, Try.ntmps6
  go_wp2_with fail
  generalize (w.alloc (.cells (lkc 5 none 0 0) 51)).alloc (.cells #[.slice (some ⟨w.heap.size, 0, none⟩) 1 1, .slice none 0 0, .slice (some ⟨w.heap.size, 0, none⟩) 1 1, .slice none 0 0] 31) = w0 at *
  refine hth.mono ?_
  rintro en w1 ⟨hb1, ⟨hno, _⟩ | ⟨_, g, A2, m2, ss, rfl, hE, hm, hnl, hL, hp, _, hin⟩⟩
  · exact absurd ⟨trivial, ex26_btk⟩ hno
  have hss := only5 hp (fun s => by
    rw [hin s]
    show TE 10 (lksOf ex26) (fl []) 2 s ≠ none ↔ _
    rw [ex26_te]
    by_cases h : s = 5
    · rw [if_pos h]; simp [h]
    · rw [if_neg h]; simp [h])
  subst hss
  have hlk : lkOf (TE 10 (lksOf ex26) (fl []) ex26.length) [5] = [(5, [11, 10])] := by
    show [((5 : Int), (TE 10 (lksOf ex26) (fl []) 2 5).getD [])] = _
    rw [ex26_te]; rfl
  rw [hlk] at hL hm ⊢
  rw [ex26_th] at hE
  have hbw := HB.out.trans (hb1.mono HB.out.size)
  have hA := below_one w1 (.cells (btenc 1 10 (some ⟨g, 0, none⟩) 2 2) 25)
  have hO := Blk.new w1 (btenc 1 10 (some ⟨g, 0, none⟩) 2 2) 25
  have hE2 := hE.below hA
  have hL2 := hL.below hA
  have hbw2 := hbw.trans (hA.mono hbw.size)
  clear hth hlk hp hin hb1 hE hL hA hbw hm hnl
  simp only [show ex26.length = 2 from rfl, List.length_cons, List.length_nil, Nat.zero_add] at *
  go_upto_region 3 with (fail)
  generalize w1.alloc (.cells (btenc 1 10 (some ⟨g, 0, none⟩) 2 2) 25) = w2 at *
  generalize w1.heap.size = ob at *
  obtain ⟨g1, o1, e1, _, _, hc⟩ := hE2.cells (by decide)
  injection e1 with e1
  injection e1 with e1 e2 _
  subst e1 e2
  obtain ⟨K0, D0, a0, l0, m0, b0, r0, k0, f0, _, _, hk0, _, _, _, _, _, hcc0⟩ := hc 0 (by decide)
  obtain ⟨K1, D1, a1, l1, m1, b1, r1, k1, f1, _, _, hk1, _, _, _, _, _, hcc1⟩ := hc 1 (by decide)
  obtain ⟨rfl, rfl⟩ : K0 = [(5, [])] ∧ D0 = [] := by injection f0 with q1 q2; exact ⟨q1.symm, q2.symm⟩
  obtain ⟨rfl, rfl⟩ : K1 = [(5, [10])] ∧ D1 = [] := by injection f1 with q1 q2; exact ⟨q1.symm, q2.symm⟩
  obtain rfl : l0 = 1 := hk0.1.symm
  obtain rfl : l1 = 1 := hk1.1.symm
  obtain ⟨h0, p0, rfl, _, _, hd0⟩ := hk0.cells (by decide)
  obtain ⟨h1, p1, rfl, _, _, hd1⟩ := hk1.cells (by decide)
  obtain ⟨x0, z0, c0, n0, q0, t0, _, z0l, _, _, u0, _, _, _, v0⟩ := hd0 0 (by decide)
  obtain ⟨x1, z1, c1, n1, q1, t1, _, z1l, _, _, u1, _, _, _, v1⟩ := hd1 0 (by decide)
  obtain ⟨h2, p2, rfl, _, _, hd2⟩ := hL2.cells (by decide)
  obtain ⟨x2, z2, c2, n2, q2, t2, _, z2l, _, _, u2, _, _, _, v2⟩ := hd2 0 (by decide)
  obtain ⟨rfl, rfl⟩ : x0 = 5 ∧ z0 = [] := by injection t0 with q1 q2; exact ⟨q1.symm, q2.symm⟩
  obtain ⟨rfl, rfl⟩ : x1 = 5 ∧ z1 = [10] := by injection t1 with q1 q2; exact ⟨q1.symm, q2.symm⟩
  obtain ⟨rfl, rfl⟩ : x2 = 5 ∧ z2 = [11, 10] := by injection t2 with q1 q2; exact ⟨q1.symm, q2.symm⟩
  obtain rfl : n0 = 0 := z0l.symm
  obtain rfl : n1 = 1 := z1l.symm
  obtain rfl : n2 = 2 := z2l.symm
  obtain ⟨y0, y1, y2⟩ := hO.c3
  have s0 := (hcc0 w2 (Below.refl _ _)).1
  have s1 := (hcc1 w2 (Below.refl _ _)).1
  have s2 := (v0 w2 (Below.refl _ _)).2
  have s3 := (v1 w2 (Below.refl _ _)).2
  simp only [Nat.zero_mul, Nat.zero_add, Nat.add_zero, Nat.one_mul] at s0 s1 s2 s3
  have HV2 := Lib.hid v2
  have HU1 := Lib.hid u1
  have HU2 := Lib.hid u2
  have HBW := Lib.hid hbw2
  clear hc hcc0 hcc1 hd0 hd1 hd2 v0 v1 v2 u0 u1 u2 hk0 hk1 hE2 hL2 hbw2 hO f0 f1 t0 t1 t2 z0l z1l z2l
  go_wp2_with fail
  have hA3 := below_one w2 (.cells #[.int .u64 10] 22)
  refine (rsame5_gen c1 (some ⟨w2.heap.size, 0, none⟩) 1 1 q1 1 [10] [10] _ (HU1.out.below hA3) ⟨rfl, rw_new w2 [.int .u64 10] 22⟩ (by omega) (by omega)).mono ?_
  rintro en w4 ⟨rfl, hb4⟩
  rw [decide_eq_true rfl]
  have hb24 := hA3.trans (hb4.mono hA3.size)
  have s4 := (HV2.out w4 hb24).2
  simp only [Nat.zero_mul, Nat.zero_add, Nat.add_zero] at s4
  have HB24 := Lib.hid hb24
  clear hA3 hb4 hb24 y0 y1 y2 s0 s1 s2 s3
  go_wp2_with fail
  have hA5 := below_one w4 (.cells #[.int .u64 11, .int .u64 10] 22)
  refine (rsame5_gen c2 (some ⟨w4.heap.size, 0, none⟩) 2 2 q2 2 [11, 10] [11, 10] _ ((HU2.out.below HB24.out).below hA5) ⟨rfl, rw_new w4 [.int .u64 11, .int .u64 10] 22⟩ (by omega) (by omega)).mono ?_
  rintro en w6 ⟨rfl, hb6⟩
  rw [decide_eq_true rfl]
  have hb46 := hA5.trans (hb6.mono hA5.size)
  have hfin := HBW.out.trans ((HB24.out.trans (hb46.mono HB24.out.size)).mono HBW.out.size)
  clear hA5 hb6 hb46 s4
  go_wp2
  go_ret
  exact ⟨rfl, hfin⟩
end Go.Proofs.Ytoemmppoejaapaa.Cur
