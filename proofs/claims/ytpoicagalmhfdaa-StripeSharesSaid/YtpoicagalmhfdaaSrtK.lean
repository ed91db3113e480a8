/- slices.Sort at numbers of 64 digits: the patterns are broken. -/
import Derived.Test.YtpoicagalmhfdaaSrtJ
namespace Go.Proofs.Ytpoicagalmhfdaa.Cur
open Go.RowKit Mem Go.Sort
set_option linter.unusedVariables false
set_option maxRecDepth 100000



set_option maxHeartbeats 8000000 in
theorem sbreak_any (B g n cap a b : Nat) (d : Array Int) (w : World) (h : OwnA w B g n cap d) (hn : n ≤ 1000) (hab : a ≤ b) (hb : b ≤ n) :
    Calls Try.prog 84 #[.slice (some ⟨g, 0, none⟩) n cap, .int .i64 a, .int .i64 b] w (SrP B g n cap (breakPatterns d a b) w) := by
  obtain ⟨L, hL⟩ : ∃ L, L = b - a := ⟨_, rfl⟩
  have e0 : IntKind.i64.wrap ((b : Int) - a) = (L : Int) := by rw [IntWalk.i64_in _ (by omega)]; omega
  by_cases h8 : 8 ≤ L
  · have p8 : (8 : Int) ≤ L := by omega
    rw [bpr_eq d a b L hL h8]
    obtain ⟨M, hM⟩ : ∃ M : Nat, M = 1 <<< bitsLen L := ⟨_, rfl⟩
    have hM1 : 1 ≤ M := by rw [hM, Nat.one_shiftLeft]; exact Nat.two_pow_pos _
    have hM2 : M ≤ 2 * L := by rw [hM, Nat.one_shiftLeft]; exact two_pow_bitsLen_le (by omega)
    have hNP : ∀ w, Calls Try.prog 97 #[.int .i64 (L : Int)] w fun e w' => e = .returned (.int .u64 (M : Int)) ∧ w = w' := by rw [hM]; exact fun w => snpow_any L (by omega) w
    rw [← hM]
    clear hM
    obtain ⟨i0, hi0⟩ : ∃ x, x = a + L / 4 * 2 - 1 := ⟨_, rfl⟩
    obtain ⟨F, hF⟩ : ∃ F, F = bpR a L M (a + L / 4 * 2 - 1) 3 0 (UInt64.ofNat L, d) := ⟨_, rfl⟩
    rw [← hF]
    rw [← hi0] at hF
    obtain ⟨q, hq⟩ : ∃ x, x = L / 4 := ⟨_, rfl⟩
    rw [← hq] at hi0
    obtain ⟨m1, hm1⟩ : ∃ x, x = M - 1 := ⟨_, rfl⟩
    have e1 : (L : Int).tdiv 4 = (q : Int) := by rw [Int.tdiv_eq_ediv_of_nonneg (by omega)]; omega
    have e2 : IntKind.i64.wrap (q : Int) = (q : Int) := IntWalk.i64_in _ (by omega)
    have e3 : IntKind.i64.wrap ((q : Int) * 2) = (q : Int) * 2 := IntWalk.i64_in _ (by omega)
    have e4 : IntKind.i64.wrap ((a : Int) + (q : Int) * 2) = (a : Int) + (q : Int) * 2 := IntWalk.i64_in _ (by omega)
    have e5 : IntKind.i64.wrap ((a : Int) + (q : Int) * 2 - 1) = (i0 : Int) := by rw [IntWalk.i64_in _ (by omega)]; omega
    have e6 : IntKind.i64.wrap ((a : Int) + (q : Int) * 2 + 1) = (i0 : Int) + 2 := by rw [IntWalk.i64_in _ (by omega)]; omega
    have e7 : IntKind.u64.wrap ((M : Int) - 1) = (m1 : Int) := by rw [IntKind.wrap_u64]; omega
    have e8 : IntKind.u64.wrap (L : Int) = (L : Int) := by rw [IntKind.wrap_u64]; omega
    have i1 : i0 + 2 < b := by omega
    have i2 : a ≤ i0 := by omega
    have HM : Hid (m1 = M - 1 ∧ L = b - a) := Lib.hid ⟨hm1, hL⟩
    have m2 : m1 < 2 * L := by omega
    have hab2 : a + L ≤ n := by omega
    obtain ⟨mb, hmb⟩ : ∃ x, x = w.heap.size := ⟨_, rfl⟩
    have H0 : Hid (BpS B g n cap mb a L M i0 3 0 F w (w.alloc (.cells #[.int .u64 (L : Int)] 125))) := Lib.hid ⟨UInt64.ofNat L, d, h.below (below_one w _), by
      have := Blk.new w #[.int .u64 (L : Int)] 125
      rw [hmb, show (UInt64.ofNat L).toNat = L from by simp; omega]; exact this, hF.symm, Ks.of_below (below_one w _)⟩
    have HMB := Lib.hid hmb
    clear hF hi0 hq hm1 hL h h8 hmb
    go_enter Try.func84, Try.ntmps84
    go_wp2_with (go_at_call 97; refine (hNP _).mono ?_; rintro e w1 ⟨rfl, rfl⟩)
    rw [← HMB.out]
    go_loopw [9] (fun x wr => ∃ k t s : Nat, t + s = 3 ∧ k = i0 + t ∧ x = .int .i64 k ∧ Hid (BpS B g n cap mb a L M i0 s t F w wr)) (fun x _ => 2001 - (intOf x).toNat)
    case atStart => exact ⟨i0, 0, 3, by omega, by omega, by go_num, H0⟩
    case round =>
      clear H0 hNP
      obtain ⟨k, t, s, hts, hk, rfl, HR⟩ := hrel
      rcases s with _ | s
      · have g1 : ¬ (k : Int) ≤ (i0 : Int) + 2 := by omega
        obtain ⟨r, d, r1, r2, r3, r4⟩ := HR.out
        have HE : Hid (OwnA wr B g n cap F ∧ Ks (fun x => x = g) w wr) := Lib.hid ⟨by rw [← r3]; exact r1, r4⟩
        clear HR r1 r2 r3 r4 hk hts
        go_wp2
        go_end0
        exact ⟨rfl, HE.out.1, HE.out.2⟩
      · have g1 : (k : Int) ≤ (i0 : Int) + 2 := by omega
        have g2 : IntKind.i64.wrap ((k : Int) + 1) = ((k + 1 : Nat) : Int) := IntWalk.i64_in _ (by omega)
        obtain ⟨r, d, r1, r2, r3, r4⟩ := HR.out
        clear HR
        obtain ⟨R, hR⟩ : ∃ R : Nat, R = r.toNat := ⟨_, rfl⟩
        have lR : R < 18446744073709551616 := by rw [hR]; exact r.toNat_lt
        rw [← hR] at r2
        have hNX := snxt_any mb R _ lR wr r2
        obtain ⟨R2, hR2⟩ : ∃ R2 : Nat, R2 = xorNextN R := ⟨_, rfl⟩
        rw [← hR2] at hNX
        have lR2 : R2 < 18446744073709551616 := by rw [hR2]; exact xorNextN_lt R lR
        have hX : (xorNext r).toNat = R2 := by rw [xorNext_toNat, hR2, hR]
        obtain ⟨O, hO⟩ : ∃ O : Nat, O = R2 &&& m1 := ⟨_, rfl⟩
        have lO : O ≤ m1 := by rw [hO]; exact Nat.and_le_right
        have eA : bits .and .u64 (R2 : Int) (m1 : Int) = (O : Int) := by rw [bits_and_u64_nat _ _ lR2 (by omega), hO]
        have eC : IntKind.i64.wrap (O : Int) = (O : Int) := IntWalk.i64_in _ (by omega)
        obtain ⟨wz, hw1⟩ : ∃ x, x = (wr.setCell ⟨mb, 0, none⟩ (.int .u64 (R2 : Nat))).drewN 3 := ⟨_, rfl⟩
        rw [← hw1] at hNX
        have hgm := r1.ne r2 (by decide)
        have HC : Hid (OwnA wz B g n cap d ∧ Blk wz mb #[.int .u64 ((xorNext r).toNat : Nat)] 125 ∧ Ks (fun x => x = g) w wz) := Lib.hid ⟨by
            rw [hw1]
            exact r1.keep (((Ks.setCell (S := fun x => x = mb) wr mb 0 _ rfl).trans (Ks.drewN _ _ 3)).block g r1.lt hgm), by
            rw [hw1, hX]; exact (r2.set 0 _).drewN 3, by
            rw [hw1]
            exact r4.trans' ((Ks.setCell (S := fun x => x = mb) wr mb 0 _ rfl).trans (Ks.drewN _ _ 3)) (fun i hi he => by have := HMB.out; omega)⟩
        have HST := Lib.hid (fun o ho => (bpr_step a L M i0 s t r d o ho).symm.trans r3)
        rw [hX, ← HM.out.1, ← hO] at HST
        have HK := Lib.hid hk
        have i3 : k ≤ i0 + 2 := by omega
        have i4 : i0 ≤ k := by omega
        clear hR hR2 lR lR2 hX hO hw1 hgm r1 r2 r3 r4
        by_cases hOL : L ≤ O
        · have o1 : (L : Int) ≤ O := by omega
          obtain ⟨O2, hO2⟩ : ∃ x, x = O - L := ⟨_, rfl⟩
          obtain ⟨P, hP⟩ : ∃ x, x = a + O2 := ⟨_, rfl⟩
          have o2 : IntKind.i64.wrap ((O : Int) - L) = (O2 : Int) := by rw [IntWalk.i64_in _ (by omega)]; omega
          have o3 : IntKind.i64.wrap ((a : Int) + O2) = (P : Int) := by rw [IntWalk.i64_in _ (by omega)]; omega
          have HFN : Hid (bpR a L M i0 s (t + 1) (xorNext r, Go.Sort.swp d k P) = F) := Lib.hid (by
            rw [HK.out, hP]; exact HST.out O2 (by rw [if_pos hOL, hO2]))
          have lP : P < n := by omega
          clear hP hO2 HST hk
          go_wp2_with fail
          try rw [← HMB.out]
          with_reducible refine hNX.mono ?_
          rintro e w1 ⟨rfl, rfl⟩
          have hp8 : P < n := by omega
          have e20 : (P : Int) < n := by omega
          have c0 := HC.out.1.cell (i := k) (by omega)
          have c1 := HC.out.1.cell (i := P) (by omega)
          have f0 := HC.out.1.free k
          have f1 := HC.out.1.free P
          obtain ⟨v9, c9⟩ := HC.out.1.cell2 k (j := P) (.int .u64 d[P]!) (by omega)
          have l2 : (k : Int) < n := by omega
          have hgm := HC.out.1.ne HC.out.2.1 (by decide)
          have HX : Hid (BpS B g n cap mb a L M i0 s (t + 1) F w (((w1.setCell ⟨g, k, none⟩ (.int .u64 d[P]!)).setCell ⟨g, P, none⟩ (.int .u64 d[k]!)).drew)) :=
            Lib.hid ⟨_, _, (HC.out.1.swp k P).drew, ((HC.out.2.1.far k _ (Ne.symm hgm)).far P _ (Ne.symm hgm)).drew, HFN.out, (Ks.two HC.out.2.2).trans (Ks.of_below (below_one' _))⟩
          obtain ⟨x, hx⟩ : ∃ x, x = d[k]! := ⟨_, rfl⟩
          obtain ⟨y, hy⟩ : ∃ y, y = d[P]! := ⟨_, rfl⟩
          rw [← hx, ← hy] at HX
          rw [← hx] at c0
          rw [← hy] at c1 c9
          clear hx hy HC hgm HFN
          go_wp2
          go_region
          clear c0 c1 c9 f0 f1 l2
          go_wp2
          go_roundw
          case rel => exact ⟨k + 1, t + 1, s, by omega, by have := HK.out; omega, by go_num, HX⟩
          case measure => simp [intOf]; omega
        · have o1 : ¬ (L : Int) ≤ O := by omega
          obtain ⟨P, hP⟩ : ∃ x, x = a + O := ⟨_, rfl⟩
          have o3 : IntKind.i64.wrap ((a : Int) + O) = (P : Int) := by rw [IntWalk.i64_in _ (by omega)]; omega
          have HFN : Hid (bpR a L M i0 s (t + 1) (xorNext r, Go.Sort.swp d k P) = F) := Lib.hid (by
            rw [HK.out, hP]; exact HST.out O (by rw [if_neg hOL]))
          have lP : P < n := by omega
          clear hP HST hk
          go_wp2_with fail
          try rw [← HMB.out]
          with_reducible refine hNX.mono ?_
          rintro e w1 ⟨rfl, rfl⟩
          have hp8 : P < n := by omega
          have e20 : (P : Int) < n := by omega
          have c0 := HC.out.1.cell (i := k) (by omega)
          have c1 := HC.out.1.cell (i := P) (by omega)
          have f0 := HC.out.1.free k
          have f1 := HC.out.1.free P
          obtain ⟨v9, c9⟩ := HC.out.1.cell2 k (j := P) (.int .u64 d[P]!) (by omega)
          have l2 : (k : Int) < n := by omega
          have hgm := HC.out.1.ne HC.out.2.1 (by decide)
          have HX : Hid (BpS B g n cap mb a L M i0 s (t + 1) F w (((w1.setCell ⟨g, k, none⟩ (.int .u64 d[P]!)).setCell ⟨g, P, none⟩ (.int .u64 d[k]!)).drew)) :=
            Lib.hid ⟨_, _, (HC.out.1.swp k P).drew, ((HC.out.2.1.far k _ (Ne.symm hgm)).far P _ (Ne.symm hgm)).drew, HFN.out, (Ks.two HC.out.2.2).trans (Ks.of_below (below_one' _))⟩
          obtain ⟨x, hx⟩ : ∃ x, x = d[k]! := ⟨_, rfl⟩
          obtain ⟨y, hy⟩ : ∃ y, y = d[P]! := ⟨_, rfl⟩
          rw [← hx, ← hy] at HX
          rw [← hx] at c0
          rw [← hy] at c1 c9
          clear hx hy HC hgm HFN
          go_wp2
          go_region
          clear c0 c1 c9 f0 f1 l2
          go_wp2
          go_roundw
          case rel => exact ⟨k + 1, t + 1, s, by omega, by have := HK.out; omega, by go_num, HX⟩
          case measure => simp [intOf]; omega
  · have p8 : ¬ (8 : Int) ≤ L := by omega
    have HE : Hid (OwnA w B g n cap (breakPatterns d a b)) := Lib.hid (by unfold breakPatterns; rw [if_neg (by omega)]; exact h)
    clear h hL
    go_enter Try.func84, Try.ntmps84
    go_wp2
    go_end0
    exact ⟨rfl, HE.out, Ks.refl _ _⟩
end Go.Proofs.Ytpoicagalmhfdaa.Cur
