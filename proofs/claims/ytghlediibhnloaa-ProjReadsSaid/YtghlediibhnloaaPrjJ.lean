/- Projections read: Get. -/
import Derived.Test.YtghlediibhnloaaPrjI
import Derived.Test.YtghlediibhnloaaK1
import Derived.BigRegion
namespace Go.Proofs.Ytghlediibhnloaa.Cur
open Go.RowKit Mem
set_option linter.unusedVariables false
set_option maxRecDepth 100000


theorem heap4d {w : World} {b1 b2 g : Nat} (h1 : g ≠ b1) (h2 : g ≠ b2) (u0 u1 u2 u3 : Value) : ((((w.setCell ⟨b1, 0, none⟩ u0).setCell ⟨b1, 1, none⟩ u1).setCell ⟨b2, 0, none⟩ u2).setCell ⟨b2, 1, none⟩ u3).heap[g]? = w.heap[g]? := by
  rw [Below.heap_setCell _ _ _ _ h2, Below.heap_setCell _ _ _ _ h2, Below.heap_setCell _ _ _ _ h1, Below.heap_setCell _ _ _ _ h1]
def PGPost (n : Nat) (z : List Int) (w : World) (en : Ending) (w' : World) : Prop :=
  ∃ (e : Int) (A : Option Addr) (N m : Nat) (L : List Stp) (p' c' q' : Int), en = .returned (.tuple #[pragg e A N m, .int .i64 (if c' = 0 then p' else 0), .agg #[.int .i64 c', .int .i64 q']]) ∧ Below w.heap.size w w' ∧ Pts w' (fun k => w.heap.size ≤ k) A N L ∧ N ≤ m ∧ (A = none → m = 0) ∧
    N ≤ 64 ∧ plen 8 L ∧ St prj0 n (prd z 0) 0 0 0 (e, L) p' c' q'
set_option maxHeartbeats 2000000 in
theorem pget_any (a : Option Addr) (n m : Nat) (z : List Int) (w : World) (hz : Bs w a n z) (hm : n ≤ m) (hn : n ≤ 100000) (hby : ∀ x ∈ z, 0 ≤ x ∧ x < 256) :
    Calls Try.prog 19 #[.slice a n m] w (PGPost n z w) := by
  have HBY := Lib.hid hby
  clear hby
  have hA := (Blk.new w (prc 0 none 0 0) 25).alloc (.cells #[.int .i64 0, .int .i64 0] 40)
  have hF := Blk.new (w.alloc (.cells (prc 0 none 0 0) 25)) #[.int .i64 0, .int .i64 0] 40
  rw [show (w.alloc (.cells (prc 0 none 0 0) 25)).heap.size = w.heap.size + 1 by simp] at hF
  have hb2 := below_two w (.cells (prc 0 none 0 0) 25) (.cells #[.int .i64 0, .int .i64 0] 40)
  go_enter Try.func19, Try.ntmps19
  go_wp2_with fail
  have hsz : ((w.alloc (.cells (prc 0 none 0 0) 25)).alloc (.cells #[.int .i64 0, .int .i64 0] 40)).heap.size = w.heap.size + 2 := by simp
  generalize (w.alloc (.cells (prc 0 none 0 0) 25)).alloc (.cells #[.int .i64 0, .int .i64 0] 40) = w0 at *
  refine (new_some _ _ _ _ hm).mono ?_
  rintro en w1 ⟨rb, rfl, hrb, hb1, hr⟩
  replace hA := hA.below hb1
  replace hF := hF.below hb1
  have hbd := hb2.trans (hb1.mono hb2.size)
  have hrw : w.heap.size + 2 ≤ rb := by omega
  have hw1 : w.heap.size + 2 ≤ w1.heap.size := by have := hb1.size; omega
  clear hb1 hb2 hsz hrb
  go_wp2_with fail
  refine (pread_any _ _ _ _ _ _ _ _ _ hr (hz.below hbd) (by omega) (by omega) hn HBY.out).mono ?_
  rintro en w2 ⟨e, A, N, mm, L, p', c', q', rfl, hk, hr2, hpt, hNm, hnl, hN, hpl, hs⟩
  have HS := Lib.hid hs
  have HQ : Hid (c' = 0 → q' = 0) := Lib.hid fun h => (by subst h; exact hs.good.2.2.2.2)
  have hA2 := (blk_kp hA hk (by omega)).alloc (.cells (prc e A N mm) 25)
  have hF2 := (blk_kp hF hk (by omega)).alloc (.cells (prc e A N mm) 25)
  have hX2 := Blk.new w2 (prc e A N mm) 25
  have hbx := below_one w2 (.cells (prc e A N mm) 25)
  have hbd2 := Kp.below hbd (Nat.le_refl _) hk (by omega)
  have hbd3 := hbd2.trans (hbx.mono hbd2.size)
  have hr3 := hr2.below hbx
  have hpt3 := hpt.below hbx
  have hx2 : w.heap.size + 2 ≤ w2.heap.size := by have := hk.size; omega
  have HNL := Lib.hid hnl
  clear hs hA hF hbd hr hk hbx hbd2 hr2 hpt hnl
  go_wp2_with fail
  generalize w2.alloc (.cells (prc e A N mm) 25) = w3 at *
  generalize w2.heap.size = xb at *
  refine (good_any _ _ _ _ _ _ hr3).mono ?_
  rintro en w4 ⟨rfl, hb4⟩
  replace hA2 := hA2.below hb4
  replace hF2 := hF2.below hb4
  replace hX2 := hX2.below hb4
  replace hr3 := hr3.below hb4
  have HPT := Lib.hid (hpt3.below hb4)
  have hbd4 := hbd3.trans (hb4.mono hbd3.size)
  clear hb4 hbd3 hpt3
  by_cases hc : c' = 0
  · have hq := HQ.out hc
    subst hc hq
    obtain ⟨x0, x1⟩ := hA2.c2
    obtain ⟨y0, y1⟩ := hF2.c2
    obtain ⟨g0, g1⟩ := hF2.f2
    obtain ⟨d0, d1⟩ := hX2.c2
    obtain ⟨f0, f1⟩ := hA2.f2
    clear hX2 hA2 hF2
    go_wp2
    go_region_with (go_at_call 50; refine (at_any _ _ _ _ _ _ (by exact hr3)).mono ?_; rintro e w' ⟨rfl, rfl⟩)
    all_goals (go_wp2; refine bodyPost_ret (v := .tuple #[pragg e A N mm, .int .i64 p', .agg #[.int .i64 0, .int .i64 0]]) (by simp [results, Try.results19, go_sem, x0, x1, y0, y1]) rfl ⟨e, A, N, mm, L, p', 0, 0, by rw [if_pos rfl], ?_, ?_, hNm, HNL.out, hN, hpl, HS.out⟩)
    all_goals first
      | (refine Pts.mono (Pts.keep HPT.out (fun g hg hl => ?_)) (fun g hg _ => by have h2 : w1.heap.size ≤ g := hg; omega); have h2 : w1.heap.size ≤ g := hg; first | exact heap4d (by omega) (by omega) _ _ _ _)
      | (refine Below.drew ?_; exact Below.setCell (Below.setCell (Below.setCell (Below.setCell hbd4 (by simp) _) (by simp) _) (by simp) _) (by simp) _)
  · have hcb : (c' == 0) = false := by simpa using hc
    have HS0 := Lib.hid (HS.out.nil hc)
    have HC := Lib.hid hc
    clear hc
    go_wp2_with fail
    refine (fault_any _ _ _ _ _ _ hr3).mono ?_
    rintro en w5 ⟨rfl, hb5⟩
    replace hA2 := hA2.below hb5
    replace hF2 := hF2.below hb5
    have hbd5 := hbd4.trans (hb5.mono hbd4.size)
    obtain ⟨x0, x1⟩ := hA2.c2
    obtain ⟨y0, y1⟩ := hF2.c2
    obtain ⟨g0, g1⟩ := hF2.f2
    obtain ⟨f0, f1⟩ := hA2.f2
    clear hb5 hbd4 hX2 hr3 hA2 hF2
    go_wp2
    refine bodyPost_ret (v := .tuple #[pragg 0 none 0 0, .int .i64 0, .agg #[.int .i64 c', .int .i64 q']]) (by simp [results, Try.results19, go_sem, x0, x1, y0, y1]) rfl ⟨0, none, 0, 0, [], p', c', q', by rw [if_neg HC.out], ?_, ⟨rfl, Sq.nil _ _ _ _⟩, by omega, fun _ => rfl, by omega, (fun s h => by simp at h), by have := HS.out; rw [HS0.out] at this; exact this⟩
    iterate 4 (refine Below.setCell ?_ (by simp) _)
    exact hbd5
end Go.Proofs.Ytghlediibhnloaa.Cur
