/- Projections read: Decode. -/
import Derived.Test.YtghlediibhnloaaPrjJ
namespace Go.Proofs.Ytghlediibhnloaa.Cur
open Go.RowKit Mem
set_option linter.unusedVariables false
set_option maxRecDepth 100000

def PDPost (n : Nat) (z : List Int) (w : World) (en : Ending) (w' : World) : Prop :=
  ∃ (e : Int) (A : Option Addr) (N m : Nat) (L : List Stp) (p' c' q' : Int), St prj0 n (prd z 0) 0 0 0 (e, L) p' c' q' ∧ Below w.heap.size w w' ∧ N ≤ 64 ∧ plen 8 L ∧
    ((c' = 0 ∧ p' < n ∧ en = .returned (.tuple #[pragg 0 none 0 0, .agg #[.int .i64 9, .int .i64 p']])) ∨
      (¬ (c' = 0 ∧ p' < n) ∧ en = .returned (.tuple #[pragg e A N m, .agg #[.int .i64 c', .int .i64 q']]) ∧ Pts w' (fun k => w.heap.size ≤ k) A N L))
set_option maxHeartbeats 2000000 in
theorem pdecode_any (a : Option Addr) (n m : Nat) (z : List Int) (w : World) (hz : Bs w a n z) (hm : n ≤ m) (hn : n ≤ 100000) (hby : ∀ x ∈ z, 0 ≤ x ∧ x < 256) :
    Calls Try.prog 20 #[.slice a n m] w (PDPost n z w) := by
  have hA := (Blk.new w (prc 0 none 0 0) 25).alloc (.cells #[.int .i64 0, .int .i64 0] 40)
  have hF := Blk.new (w.alloc (.cells (prc 0 none 0 0) 25)) #[.int .i64 0, .int .i64 0] 40
  rw [show (w.alloc (.cells (prc 0 none 0 0) 25)).heap.size = w.heap.size + 1 by simp] at hF
  have hb2 := below_two w (.cells (prc 0 none 0 0) 25) (.cells #[.int .i64 0, .int .i64 0] 40)
  have hget := pget_any a n m z _ (hz.below hb2) hm hn hby
  have hsz : ((w.alloc (.cells (prc 0 none 0 0) 25)).alloc (.cells #[.int .i64 0, .int .i64 0] 40)).heap.size = w.heap.size + 2 := by simp
  go_enter Try.func20, Try.ntmps20
  go_wp2_with fail
  generalize (w.alloc (.cells (prc 0 none 0 0) 25)).alloc (.cells #[.int .i64 0, .int .i64 0] 40) = w0 at *
  refine hget.mono ?_
  rintro en w1 ⟨e, A, N, mm, L, p', c', q', rfl, hb1, hpt, hNm, hnl, hN, hpl, hs⟩
  obtain ⟨N', hN'⟩ : ∃ N' : Int, N' = (if c' = 0 then p' else 0) := ⟨_, rfl⟩
  rw [← hN']
  have HN' := Lib.hid hN'
  have HS := Lib.hid hs
  have hA1 := ((hA.below hb1).alloc (.cells (prc e A N mm) 25)).alloc (.cells #[.int .i64 c', .int .i64 q'] 40)
  have hF1 := ((hF.below hb1).alloc (.cells (prc e A N mm) 25)).alloc (.cells #[.int .i64 c', .int .i64 q'] 40)
  have hX1 := (Blk.new w1 (prc e A N mm) 25).alloc (.cells #[.int .i64 c', .int .i64 q'] 40)
  have hY1 := Blk.new (w1.alloc (.cells (prc e A N mm) 25)) #[.int .i64 c', .int .i64 q'] 40
  rw [show (w1.alloc (.cells (prc e A N mm) 25)).heap.size = w1.heap.size + 1 by simp] at hY1
  have hbx := below_two w1 (.cells (prc e A N mm) 25) (.cells #[.int .i64 c', .int .i64 q'] 40)
  have hbd := hb2.trans (hb1.mono hb2.size)
  replace hbd := hbd.trans (hbx.mono hbd.size)
  have hpt1 := hpt.below hbx
  have hw1 : w.heap.size + 2 ≤ w1.heap.size := by have := hb1.size; omega
  have hw0 : w.heap.size + 2 ≤ w0.heap.size := by omega
  have HNL := Lib.hid hnl
  obtain ⟨y0, y1⟩ := hY1.c2
  clear hb1 hb2 hbx hA hF hget hsz hN' hs hpt hnl
  go_wp2_with fail
  clear y0 y1
  generalize (w1.alloc (.cells (prc e A N mm) 25)).alloc (.cells #[.int .i64 c', .int .i64 q'] 40) = w2 at *
  generalize w1.heap.size = xb at *
  refine (fgood_any _ _ _).mono ?_
  rintro en w3 ⟨rfl, hb3⟩
  replace hA1 := hA1.below hb3
  replace hF1 := hF1.below hb3
  replace hX1 := hX1.below hb3
  replace hY1 := hY1.below hb3
  have HPT := Lib.hid (hpt1.below hb3)
  replace hbd := hbd.trans (hb3.mono hbd.size)
  clear hb3 hpt1
  by_cases hc : c' = 0 ∧ N' < n
  · obtain ⟨hc0, hlt⟩ := hc
    have hNp := HN'.out
    rw [if_pos hc0] at hNp
    subst hNp
    have HC := Lib.hid hc0
    have HLT := Lib.hid hlt
    subst hc0
    have HQ : Hid (fq 9 N' = N') := Lib.hid (by unfold fq; rw [if_neg (by decide)])
    go_wp2_with fail
    refine (fat_any _ _ _).mono ?_
    rintro en w4 ⟨rfl, hb4⟩
    rw [HQ.out]
    replace hA1 := hA1.below hb4
    replace hF1 := hF1.below hb4
    replace hbd := hbd.trans (hb4.mono hbd.size)
    obtain ⟨x0, x1⟩ := hA1.c2
    obtain ⟨u0, u1⟩ := hF1.c2
    obtain ⟨g0, g1⟩ := hF1.f2
    obtain ⟨f0, f1⟩ := hA1.f2
    clear hb4 hX1 hY1 hA1 hF1 HN' HQ
    go_wp2
    refine bodyPost_ret (v := .tuple #[pragg 0 none 0 0, .agg #[.int .i64 9, .int .i64 N']]) (by simp [results, Try.results20, go_sem, x0, x1, u0, u1]) rfl ⟨e, A, N, mm, L, N', 0, q', HS.out, ?_, hN, hpl, .inl ⟨rfl, HLT.out, rfl⟩⟩
    exact Below.setCell (Below.setCell (Below.setCell (Below.setCell hbd (by simp) _) (by simp) _) (by simp) _) (by simp) _
  · have HNO : Hid (¬ (c' = 0 ∧ p' < n)) := Lib.hid (fun h => hc (by rw [HN'.out, if_pos h.1]; exact h))
    obtain ⟨x0, x1⟩ := hA1.c2
    obtain ⟨u0, u1⟩ := hF1.c2
    obtain ⟨g0, g1⟩ := hF1.f2
    obtain ⟨d0, d1⟩ := hX1.c2
    obtain ⟨y0, y1⟩ := hY1.c2
    obtain ⟨f0, f1⟩ := hA1.f2
    clear hX1 hY1 hA1 hF1 HN'
    by_cases hc0 : c' = 0
    · subst hc0
      have hlt : ¬ N' < n := fun h => hc ⟨rfl, h⟩
      clear hc
      go_wp2
      go_region
      all_goals (go_wp2; refine bodyPost_ret (v := .tuple #[pragg e A N mm, .agg #[.int .i64 0, .int .i64 q']]) (by simp [results, Try.results20, go_sem, x0, x1, u0, u1]) rfl ⟨e, A, N, mm, L, p', 0, q', HS.out, ?_, hN, hpl, .inr ⟨fun h => HNO.out ⟨trivial, h.2⟩, rfl, ?_⟩⟩)
      all_goals first
        | (refine Pts.mono (Pts.keep HPT.out (fun g hg hl => ?_)) (fun g hg _ => by have h2 : w0.heap.size ≤ g := hg; omega); have h2 : w0.heap.size ≤ g := hg; exact heap4d (by omega) (by omega) _ _ _ _)
        | exact Below.drew (Below.setCell (Below.setCell (Below.setCell (Below.setCell hbd (by simp) _) (by simp) _) (by simp) _) (by simp) _)
        | exact Below.setCell (Below.setCell (Below.setCell (Below.setCell (below_drewN hbd _) (by simp) _) (by simp) _) (by simp) _) (by simp) _
    · have hcb : (c' == 0) = false := by simpa using hc0
      clear hc hc0
      go_wp2
      go_region
      all_goals (go_wp2; refine bodyPost_ret (v := .tuple #[pragg e A N mm, .agg #[.int .i64 c', .int .i64 q']]) (by simp [results, Try.results20, go_sem, x0, x1, u0, u1]) rfl ⟨e, A, N, mm, L, p', c', q', HS.out, ?_, hN, hpl, .inr ⟨HNO.out, rfl, ?_⟩⟩)
      all_goals first
        | (refine Pts.mono (Pts.keep HPT.out (fun g hg hl => ?_)) (fun g hg _ => by have h2 : w0.heap.size ≤ g := hg; omega); have h2 : w0.heap.size ≤ g := hg; exact heap4d (by omega) (by omega) _ _ _ _)
        | exact Below.drew (Below.setCell (Below.setCell (Below.setCell (Below.setCell hbd (by simp) _) (by simp) _) (by simp) _) (by simp) _)
        | exact Below.setCell (Below.setCell (Below.setCell (Below.setCell (below_drewN hbd _) (by simp) _) (by simp) _) (by simp) _) (by simp) _
end Go.Proofs.Ytghlediibhnloaa.Cur
