/- Seals read: Decode, and the document's reader and bytes; the document's example for seals. -/
import Derived.Test.YtdljkpmjamegjaaSelD
import Derived.BigRegion
namespace Go.Proofs.Ytdljkpmjamegjaa.Cur
open Go.RowKit Mem
set_option linter.unusedVariables false
set_option maxRecDepth 100000

/-- What Decode tells of n bytes. -/
def sdv (g : Rs Sl3) (n : Nat) : Value :=
  if g.2.2.1 = 0 ∧ g.2.1 < n then .tuple #[sagg (0, 0, 0), .agg #[.int .i64 9, .int .i64 g.2.1]]
  else .tuple #[sagg (if g.2.2.1 = 0 then g.1 else (0, 0, 0)), .agg #[.int .i64 g.2.2.1, .int .i64 (if g.2.2.1 = 0 then 0 else g.2.2.2)]]

set_option maxHeartbeats 2000000 in
theorem sdecode_any (a : Option Addr) (n m : Nat) (z : List Int) (w : World) (hz : Bs w a n z) (hm : n ≤ m) (hn : n ≤ 1000000) (hby : ∀ x ∈ z, 0 ≤ x ∧ x < 256) :
    Calls Try.prog 16 #[.slice a n m] w fun e w' => e = .returned (sdv (sr z 0) n) ∧ Below w.heap.size w w' := by
  have hA := (Blk.new w #[.int .u64 0, .int .u64 0, .int .u64 0] 24).alloc (.cells #[.int .i64 0, .int .i64 0] 37)
  have hF := Blk.new (w.alloc (.cells #[.int .u64 0, .int .u64 0, .int .u64 0] 24)) #[.int .i64 0, .int .i64 0] 37
  rw [show (w.alloc (.cells #[.int .u64 0, .int .u64 0, .int .u64 0] 24)).heap.size = w.heap.size + 1 by simp] at hF
  have hb2 := below_two w (.cells #[.int .u64 0, .int .u64 0, .int .u64 0] 24) (.cells #[.int .i64 0, .int .i64 0] 37)
  have hget := sget_any a n m z _ (hz.below hb2) hm hn hby
  have hsz : ((w.alloc (.cells #[.int .u64 0, .int .u64 0, .int .u64 0] 24)).alloc (.cells #[.int .i64 0, .int .i64 0] 37)).heap.size = w.heap.size + 2 := by simp
  unfold SGetPost sgv at hget
  generalize sr z 0 = g at *
  obtain ⟨s, hs⟩ : ∃ s : Sl3, s = (if g.2.2.1 = 0 then g.1 else (0, 0, 0)) := ⟨_, rfl⟩
  obtain ⟨N, hN⟩ : ∃ N : Int, N = (if g.2.2.1 = 0 then g.2.1 else 0) := ⟨_, rfl⟩
  obtain ⟨Q, hQ⟩ : ∃ Q : Int, Q = (if g.2.2.1 = 0 then 0 else g.2.2.2) := ⟨_, rfl⟩
  obtain ⟨C, hC⟩ : ∃ C : Int, C = g.2.2.1 := ⟨_, rfl⟩
  obtain ⟨V, hV⟩ : ∃ V : Value, V = sdv g n := ⟨_, rfl⟩
  have HV : Hid (V = if C = 0 ∧ N < n then .tuple #[sagg (0, 0, 0), .agg #[.int .i64 9, .int .i64 N]] else .tuple #[sagg s, .agg #[.int .i64 C, .int .i64 Q]]) := Lib.hid (by
    rw [hV, hs, hN, hQ, hC]
    unfold sdv
    by_cases h : g.2.2.1 = 0
    · simp only [h, if_true, true_and]
    · simp only [h, if_false, false_and])
  rw [← hs, ← hN, ← hQ, ← hC] at hget
  rw [← hV]
  clear hV hs hN hQ hC
  obtain ⟨s0, s1, s2⟩ := s
  try dsimp only at *
  go_enter Try.func16, Try.ntmps16
  go_wp2_with fail
  generalize (w.alloc (.cells #[.int .u64 0, .int .u64 0, .int .u64 0] 24)).alloc (.cells #[.int .i64 0, .int .i64 0] 37) = w0 at *
  refine hget.mono ?_
  rintro e w1 ⟨rfl, hb1⟩
  have hA1 := ((hA.below hb1).alloc (.cells #[.int .u64 s0, .int .u64 s1, .int .u64 s2] 24)).alloc (.cells #[.int .i64 C, .int .i64 Q] 37)
  have hF1 := ((hF.below hb1).alloc (.cells #[.int .u64 s0, .int .u64 s1, .int .u64 s2] 24)).alloc (.cells #[.int .i64 C, .int .i64 Q] 37)
  have hX1 := (Blk.new w1 #[.int .u64 s0, .int .u64 s1, .int .u64 s2] 24).alloc (.cells #[.int .i64 C, .int .i64 Q] 37)
  have hY1 := Blk.new (w1.alloc (.cells #[.int .u64 s0, .int .u64 s1, .int .u64 s2] 24)) #[.int .i64 C, .int .i64 Q] 37
  rw [show (w1.alloc (.cells #[.int .u64 s0, .int .u64 s1, .int .u64 s2] 24)).heap.size = w1.heap.size + 1 by simp] at hY1
  have hbx := below_two w1 (.cells #[.int .u64 s0, .int .u64 s1, .int .u64 s2] 24) (.cells #[.int .i64 C, .int .i64 Q] 37)
  have hbd := hb2.trans (hb1.mono hb2.size)
  replace hbd := hbd.trans (hbx.mono hbd.size)
  have hw1 : w.heap.size + 2 ≤ w1.heap.size := by have := hb1.size; omega
  obtain ⟨y0, y1⟩ := hY1.c2
  clear hb1 hb2 hbx hA hF hget hsz
  go_wp2_with fail
  clear y0 y1
  generalize (w1.alloc (.cells #[.int .u64 s0, .int .u64 s1, .int .u64 s2] 24)).alloc (.cells #[.int .i64 C, .int .i64 Q] 37) = w2 at *
  generalize w1.heap.size = xb at *
  refine (fgood_any _ _ _).mono ?_
  rintro e w3 ⟨rfl, hb3⟩
  replace hA1 := hA1.below hb3
  replace hF1 := hF1.below hb3
  replace hX1 := hX1.below hb3
  replace hY1 := hY1.below hb3
  replace hbd := hbd.trans (hb3.mono hbd.size)
  clear hb3
  by_cases hc : C = 0 ∧ N < n
  · obtain ⟨rfl, hlt⟩ := hc
    have hV := HV.out
    rw [if_pos ⟨rfl, hlt⟩] at hV
    subst hV
    have HQ : Hid (fq 9 N = N) := Lib.hid (by unfold fq; rw [if_neg (by decide)])
    go_wp2_with fail
    refine (fat_any _ _ _).mono ?_
    rintro e w4 ⟨rfl, hb4⟩
    rw [HQ.out]
    replace hA1 := hA1.below hb4
    replace hF1 := hF1.below hb4
    replace hbd := hbd.trans (hb4.mono hbd.size)
    obtain ⟨x0, x1, x2⟩ := hA1.c3
    obtain ⟨u0, u1⟩ := hF1.c2
    obtain ⟨g0, g1⟩ := hF1.f2
    have f0 := hA1.free 0
    have f1 := hA1.free 1
    have f2 := hA1.free 2
    clear hb4 hX1 hY1 hA1 hF1 HV
    go_wp2
    refine bodyPost_ret (v := .tuple #[sagg (0, 0, 0), .agg #[.int .i64 9, .int .i64 N]]) (by simp [results, Try.results16, go_sem, x0, x1, x2, u0, u1]) rfl ⟨rfl, ?_⟩
    iterate 5 (refine Below.setCell ?_ (by simp) _)
    exact hbd
  · have hV := HV.out
    rw [if_neg hc] at hV
    subst hV
    obtain ⟨x0, x1, x2⟩ := hA1.c3
    obtain ⟨u0, u1⟩ := hF1.c2
    obtain ⟨g0, g1⟩ := hF1.f2
    obtain ⟨d0, d1, d2⟩ := hX1.c3
    obtain ⟨y0, y1⟩ := hY1.c2
    have f0 := hA1.free 0
    have f1 := hA1.free 1
    have f2 := hA1.free 2
    clear hX1 hY1 hA1 hF1 HV
    by_cases hc0 : C = 0
    · subst hc0
      have hlt : ¬ N < n := fun h => hc ⟨rfl, h⟩
      clear hc
      go_wp2
      go_region
      all_goals (go_wp2; refine bodyPost_ret (v := .tuple #[sagg (s0, s1, s2), .agg #[.int .i64 0, .int .i64 Q]]) (by simp [results, Try.results16, go_sem, x0, x1, x2, u0, u1]) rfl ⟨rfl, ?_⟩)
      all_goals ((try refine Below.drew ?_); iterate 5 (refine Below.setCell ?_ (by simp) _))
      all_goals first | exact below_drewN hbd _ | exact hbd
    · have hcb : (C == 0) = false := by simpa using hc0
      clear hc hc0
      go_wp2
      go_region
      all_goals (go_wp2; refine bodyPost_ret (v := .tuple #[sagg (s0, s1, s2), .agg #[.int .i64 C, .int .i64 Q]]) (by simp [results, Try.results16, go_sem, x0, x1, x2, u0, u1]) rfl ⟨rfl, ?_⟩)
      all_goals ((try refine Below.drew ?_); iterate 5 (refine Below.setCell ?_ (by simp) _))
      all_goals first | exact below_drewN hbd _ | exact hbd
end Go.Proofs.Ytdljkpmjamegjaa.Cur
