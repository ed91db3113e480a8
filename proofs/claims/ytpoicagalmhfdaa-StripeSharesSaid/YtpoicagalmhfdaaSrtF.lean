/- slices.Sort at numbers of 64 digits: the pivot. -/
import Derived.Test.YtpoicagalmhfdaaSrtE
namespace Go.Proofs.Ytpoicagalmhfdaa.Cur
open Go.RowKit Mem Go.Sort
set_option linter.unusedVariables false
set_option maxRecDepth 100000


def hintv : Hint → Int
  | .unknown => 0
  | .increasing => 1
  | .decreasing => 2
def hints (s : Nat) : Hint := if s = 0 then .increasing else if s = 12 then .decreasing else .unknown
def CpvP (B g n cap : Nat) (d : Array Int) (r : Nat × Hint) (w : World) (e : Ending) (w' : World) : Prop := e = .returned (.tuple #[.int .i64 r.1, .int .i64 (hintv r.2)]) ∧ OwnA w' B g n cap d ∧ Below w.heap.size w w' ∧ r.1 < n
set_option maxHeartbeats 4000000 in
theorem spivot_any (B g n cap a b : Nat) (d : Array Int) (w : World) (h : OwnA w B g n cap d) (hn : n ≤ 1000) (hab : a + 8 ≤ b) (hb : b ≤ n) :
    Calls Try.prog 85 #[.slice (some ⟨g, 0, none⟩) n cap, .int .i64 a, .int .i64 b] w (CpvP B g n cap d (choosePivot ltInt d a b) w) := by
  obtain ⟨l, hl⟩ : ∃ l, l = b - a := ⟨_, rfl⟩
  obtain ⟨q, hq⟩ : ∃ q, q = l / 4 := ⟨_, rfl⟩
  obtain ⟨i, hi⟩ : ∃ i, i = a + q := ⟨_, rfl⟩
  obtain ⟨j, hj⟩ : ∃ j, j = a + q * 2 := ⟨_, rfl⟩
  obtain ⟨k, hk⟩ : ∃ k, k = a + q * 3 := ⟨_, rfl⟩
  have hC : choosePivot ltInt d a b = ((if l ≥ 50 then median ltInt d (medianAdjacent ltInt d i 0).1 (medianAdjacent ltInt d j (medianAdjacent ltInt d i 0).2).1 (medianAdjacent ltInt d k (medianAdjacent ltInt d j (medianAdjacent ltInt d i 0).2).2).1 (medianAdjacent ltInt d k (medianAdjacent ltInt d j (medianAdjacent ltInt d i 0).2).2).2 else median ltInt d i j k 0).1,
      hints (if l ≥ 50 then median ltInt d (medianAdjacent ltInt d i 0).1 (medianAdjacent ltInt d j (medianAdjacent ltInt d i 0).2).1 (medianAdjacent ltInt d k (medianAdjacent ltInt d j (medianAdjacent ltInt d i 0).2).2).1 (medianAdjacent ltInt d k (medianAdjacent ltInt d j (medianAdjacent ltInt d i 0).2).2).2 else median ltInt d i j k 0).2) := by
    unfold choosePivot hints
    simp only [← hl, ← hq, Nat.mul_one, ← hi, ← hj, ← hk]
    rw [if_pos (by omega)]
  rw [hC]
  clear hC
  have e1 : IntKind.i64.wrap ((b : Int) - a) = (l : Int) := by rw [IntWalk.i64_in _ (by omega)]; omega
  have e2 : (l : Int).tdiv 4 = (q : Int) := by rw [Int.tdiv_eq_ediv_of_nonneg (by omega)]; omega
  have e3 : IntKind.i64.wrap (q : Int) = (q : Int) := IntWalk.i64_in _ (by omega)
  have e4 : IntKind.i64.wrap ((q : Int) * 2) = (q : Int) * 2 := IntWalk.i64_in _ (by omega)
  have e5 : IntKind.i64.wrap ((q : Int) * 3) = (q : Int) * 3 := IntWalk.i64_in _ (by omega)
  have e6 : IntKind.i64.wrap ((a : Int) + q) = (i : Int) := by rw [IntWalk.i64_in _ (by omega)]; omega
  have e7 : IntKind.i64.wrap ((a : Int) + (q : Int) * 2) = (j : Int) := by rw [IntWalk.i64_in _ (by omega)]; omega
  have e8 : IntKind.i64.wrap ((a : Int) + (q : Int) * 3) = (k : Int) := by rw [IntWalk.i64_in _ (by omega)]; omega
  have hi1 : 1 ≤ i ∧ i + 1 < n := by omega
  have hj1 : 1 ≤ j ∧ j + 1 < n := by omega
  have hk1 : 1 ≤ k ∧ k + 1 < n := by omega
  have l8 : (8 : Int) ≤ l := by omega
  have h0 : SwS B g n cap d w.heap.size 0 (w.alloc (.cells #[.int .i64 0] 3)) := ⟨h.below (below_one w _), Blk.new w #[.int .i64 0] 3⟩
  clear h hq hi hj hk
  by_cases h50 : l ≥ 50
  · rw [if_pos h50]
    have l50 : (50 : Int) ≤ l := by omega
    have c1 := smedadj_any B g n cap i w.heap.size 0 d _ h0 hn hi1.2 hi1.1 (by omega)
    generalize medianAdjacent ltInt d i 0 = r1 at *
    obtain ⟨x1, s1⟩ := r1
    dsimp only at *
    have C2 := Lib.hid (fun w' h hs => smedadj_any B g n cap j w.heap.size s1 d w' h hn hj1.2 hj1.1 hs)
    generalize medianAdjacent ltInt d j s1 = r2 at *
    obtain ⟨x2, s2⟩ := r2
    dsimp only at *
    have C3 := Lib.hid (fun w' h hs => smedadj_any B g n cap k w.heap.size s2 d w' h hn hk1.2 hk1.1 hs)
    generalize medianAdjacent ltInt d k s2 = r3 at *
    obtain ⟨x3, s3'⟩ := r3
    dsimp only at *
    have C4 := Lib.hid (fun w' h h1 h2 h3 hs => smedian_any B g n cap x1 x2 x3 w.heap.size s3' d w' h hn h1 h2 h3 hs)
    obtain ⟨r, hr⟩ : ∃ r, r = median ltInt d x1 x2 x3 s3' := ⟨_, rfl⟩
    rw [← hr] at C4 ⊢
    obtain ⟨pv, s3⟩ := r
    dsimp only at *
    clear hr h50 hl h0
    go_enter Try.func85, Try.ntmps85
    go_wp2_with fail
    refine c1.mono ?_
    rintro e w1 ⟨⟨rfl, h1, k1⟩, m1, t1⟩
    clear c1
    go_wp2_with fail
    refine (C2.out w1 h1 (by omega)).mono ?_
    rintro e w2 ⟨⟨rfl, h2, k2⟩, m2, t2⟩
    clear C2 h1
    go_wp2_with fail
    refine (C3.out w2 h2 (by omega)).mono ?_
    rintro e w3 ⟨⟨rfl, h3, k3⟩, m3, t3⟩
    clear C3 h2
    go_wp2_with fail
    refine (C4.out w3 h3 m1 m2 m3 (by omega)).mono ?_
    rintro e w4 ⟨⟨rfl, h4, k4⟩, m4, t4⟩
    have HK := Lib.hid (((k1.trans k2).trans k3).trans k4)
    have HP := Lib.hid m4
    clear C4 h3 k1 k2 k3 k4 m1 m2 m3 m4
    have h3 := h4
    clear h4
    have H3 := Lib.hid h3
    have hbw := Lib.hid (Ks.below (below_one w (.cells #[.int .i64 0] 3)) (Nat.le_refl _) HK.out (fun x hx => by have e : x = w.heap.size := hx; omega))
    have s0 := h3.2.c1
    have hpv := HP.out
    clear h3 HK
    rcases Nat.eq_zero_or_pos s3 with hs0 | hs0
    · subst hs0
      have hh : hints 0 = .increasing := rfl
      rw [hh]
      clear hh
      go_wp2
      go_ret2
      exact ⟨rfl, H3.out.1, hbw.out, hpv⟩
    · by_cases hs12 : s3 = 12
      · subst hs12
        have hh : hints 12 = .decreasing := rfl
        rw [hh]
        clear hh
        go_wp2
        go_ret2
        exact ⟨rfl, H3.out.1, hbw.out, hpv⟩
      · have q0 : ((s3 : Int) == 0) = false := by rw [beq_eq_false_iff_ne]; omega
        have q1 : ((s3 : Int) == 12) = false := by rw [beq_eq_false_iff_ne]; omega
        have hh : hints s3 = .unknown := by unfold hints; rw [if_neg (by omega), if_neg hs12]
        have hH := Lib.hid hh
        clear hh hs12 hs0
        go_wp2
        go_ret2
        refine ⟨?_, H3.out.1, hbw.out, hpv⟩
        show _ = Ending.returned (.tuple #[.int .i64 pv, .int .i64 (hintv (hints s3))])
        rw [hH.out]
        rfl
  · rw [if_neg h50]
    have l50 : ¬ (50 : Int) ≤ l := by omega
    have c1 := smedian_any B g n cap i j k w.heap.size 0 d _ h0 hn (by omega) (by omega) (by omega) (by omega)
    obtain ⟨r, hr⟩ : ∃ r, r = median ltInt d i j k 0 := ⟨_, rfl⟩
    rw [← hr] at c1 ⊢
    obtain ⟨pv, s3⟩ := r
    dsimp only at *
    clear hr h50 hl h0
    go_enter Try.func85, Try.ntmps85
    go_wp2_with fail
    refine c1.mono ?_
    rintro e w4 ⟨⟨rfl, h3, k4⟩, m4, t4⟩
    have HK := Lib.hid k4
    have HP := Lib.hid m4
    clear c1 k4 m4
    have H3 := Lib.hid h3
    have hbw := Lib.hid (Ks.below (below_one w (.cells #[.int .i64 0] 3)) (Nat.le_refl _) HK.out (fun x hx => by have e : x = w.heap.size := hx; omega))
    have s0 := h3.2.c1
    have hpv := HP.out
    clear h3 HK
    rcases Nat.eq_zero_or_pos s3 with hs0 | hs0
    · subst hs0
      have hh : hints 0 = .increasing := rfl
      rw [hh]
      clear hh
      go_wp2
      go_ret2
      exact ⟨rfl, H3.out.1, hbw.out, hpv⟩
    · by_cases hs12 : s3 = 12
      · subst hs12
        have hh : hints 12 = .decreasing := rfl
        rw [hh]
        clear hh
        go_wp2
        go_ret2
        exact ⟨rfl, H3.out.1, hbw.out, hpv⟩
      · have q0 : ((s3 : Int) == 0) = false := by rw [beq_eq_false_iff_ne]; omega
        have q1 : ((s3 : Int) == 12) = false := by rw [beq_eq_false_iff_ne]; omega
        have hh : hints s3 = .unknown := by unfold hints; rw [if_neg (by omega), if_neg hs12]
        have hH := Lib.hid hh
        clear hh hs12 hs0
        go_wp2
        go_ret2
        refine ⟨?_, H3.out.1, hbw.out, hpv⟩
        show _ = Ending.returned (.tuple #[.int .i64 pv, .int .i64 (hintv (hints s3))])
        rw [hH.out]
        rfl
end Go.Proofs.Ytpoicagalmhfdaa.Cur
