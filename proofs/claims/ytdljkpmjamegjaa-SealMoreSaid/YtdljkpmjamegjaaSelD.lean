/- Seals read: Get, Decode, and the document's reader. -/
import Derived.Test.YtdljkpmjamegjaaSelC
import Derived.Test.YtdljkpmjamegjaaK1
namespace Go.Proofs.Ytdljkpmjamegjaa.Cur
open Go.RowKit Mem
set_option linter.unusedVariables false
set_option maxRecDepth 100000


/-- What Get tells. -/
def sgv (g : Rs Sl3) : Value := .tuple #[sagg (if g.2.2.1 = 0 then g.1 else (0, 0, 0)), .int .i64 (if g.2.2.1 = 0 then g.2.1 else 0), .agg #[.int .i64 g.2.2.1, .int .i64 (if g.2.2.1 = 0 then 0 else g.2.2.2)]]
theorem St.sget {n : Nat} {g : Rs Sl3} {v : Sl3} {p' c' q' : Int} (h : St (0, 0, 0) n g 0 0 0 v p' c' q') : sgv g = .tuple #[sagg v, .int .i64 (if c' = 0 then p' else 0), .agg #[.int .i64 c', .int .i64 q']] := by
  unfold sgv
  obtain ⟨_, _, ⟨h0, _⟩ | ⟨_, h1, h2, h3, h4, h5⟩ | ⟨_, h1, h2, h3, h4⟩⟩ := h
  · exact absurd rfl h0
  · subst h2 h3 h4 h5
    rw [h1]
    simp
  · subst h2 h3 h4
    rw [if_neg h1, if_neg h1, if_neg h1, if_neg h1]
def SGetPost (g : Rs Sl3) (w : World) (e : Ending) (w' : World) : Prop := e = .returned (sgv g) ∧ Below w.heap.size w w'

set_option maxHeartbeats 2000000 in
theorem sget_any (a : Option Addr) (n m : Nat) (z : List Int) (w : World) (hz : Bs w a n z) (hm : n ≤ m) (hn : n ≤ 1000000) (hby : ∀ x ∈ z, 0 ≤ x ∧ x < 256) :
    Calls Try.prog 15 #[.slice a n m] w (SGetPost (sr z 0) w) := by
  have HBY := Lib.hid hby
  clear hby
  have hA := (Blk.new w #[.int .u64 0, .int .u64 0, .int .u64 0] 24).alloc (.cells #[.int .i64 0, .int .i64 0] 37)
  have hF := Blk.new (w.alloc (.cells #[.int .u64 0, .int .u64 0, .int .u64 0] 24)) #[.int .i64 0, .int .i64 0] 37
  rw [show (w.alloc (.cells #[.int .u64 0, .int .u64 0, .int .u64 0] 24)).heap.size = w.heap.size + 1 by simp] at hF
  have hb2 := below_two w (.cells #[.int .u64 0, .int .u64 0, .int .u64 0] 24) (.cells #[.int .i64 0, .int .i64 0] 37)
  go_enter Try.func15, Try.ntmps15
  go_wp2_with fail
  have hsz : ((w.alloc (.cells #[.int .u64 0, .int .u64 0, .int .u64 0] 24)).alloc (.cells #[.int .i64 0, .int .i64 0] 37)).heap.size = w.heap.size + 2 := by simp
  generalize (w.alloc (.cells #[.int .u64 0, .int .u64 0, .int .u64 0] 24)).alloc (.cells #[.int .i64 0, .int .i64 0] 37) = w0 at *
  refine (new_some _ _ _ _ hm).mono ?_
  rintro e w1 ⟨rb, rfl, hrb, hb1, hr⟩
  replace hA := hA.below hb1
  replace hF := hF.below hb1
  have hbd := hb2.trans (hb1.mono hb2.size)
  have hrw : w.heap.size + 2 ≤ rb := by omega
  clear hb1 hb2 hsz hrb
  go_wp2_with fail
  refine (sread_any _ _ _ _ _ _ _ _ _ hr (hz.below hbd) (by omega) (by omega) hn HBY.out).mono ?_
  rintro e w2 ⟨v, p', c', q', rfl, hk, hr2, hs⟩
  have HS := Lib.hid hs.sget
  have HN : Hid (c' ≠ 0 → v = (0, 0, 0)) := Lib.hid hs.nil
  have HQ : Hid (c' = 0 → q' = 0) := Lib.hid fun h => (by subst h; exact hs.good.2.2.2.2)
  have hA2 := (blk_kp hA hk (by omega)).alloc (.cells #[.int .u64 v.1, .int .u64 v.2.1, .int .u64 v.2.2] 24)
  have hF2 := (blk_kp hF hk (by omega)).alloc (.cells #[.int .u64 v.1, .int .u64 v.2.1, .int .u64 v.2.2] 24)
  have hX2 := Blk.new w2 #[.int .u64 v.1, .int .u64 v.2.1, .int .u64 v.2.2] 24
  have hbx := below_one w2 (.cells #[.int .u64 v.1, .int .u64 v.2.1, .int .u64 v.2.2] 24)
  have hbd2 := Kp.below hbd (Nat.le_refl _) hk (by omega)
  have hbd3 := hbd2.trans (hbx.mono hbd2.size)
  have hr3 := hr2.below hbx
  have hx2 : w.heap.size + 2 ≤ w2.heap.size := by have := hr2.lt; omega
  clear hs hA hF hbd hr hk hbx hbd2 hr2
  go_wp2_with fail
  generalize w2.alloc (.cells #[.int .u64 v.1, .int .u64 v.2.1, .int .u64 v.2.2] 24) = w3 at *
  generalize w2.heap.size = xb at *
  refine (good_any _ _ _ _ _ _ hr3).mono ?_
  rintro e w4 ⟨rfl, hb4⟩
  replace hA2 := hA2.below hb4
  replace hF2 := hF2.below hb4
  replace hX2 := hX2.below hb4
  replace hr3 := hr3.below hb4
  have hbd4 := hbd3.trans (hb4.mono hbd3.size)
  clear hb4 hbd3
  by_cases hc : c' = 0
  · have hq := HQ.out hc
    subst hc hq
    rw [if_pos rfl] at HS
    obtain ⟨s0, s1, s2⟩ := v
    dsimp only at *
    obtain ⟨x0, x1, x2⟩ := hA2.c3
    obtain ⟨y0, y1⟩ := hF2.c2
    obtain ⟨g0, g1⟩ := hF2.f2
    obtain ⟨d0, d1, d2⟩ := hX2.c3
    have f0 := hA2.free 0
    have f1 := hA2.free 1
    have f2 := hA2.free 2
    clear hX2 hA2 hF2
    go_wp2
    go_region_with (go_at_call 33; refine (at_any _ _ _ _ _ _ (by exact hr3)).mono ?_; rintro e w' ⟨rfl, rfl⟩)
    all_goals (go_wp2; refine bodyPost_ret (v := sgv (sr z 0)) (by rw [HS.out]; simp [results, Try.results15, go_sem, x0, x1, x2, y0, y1]) rfl ⟨rfl, ?_⟩)
    all_goals (refine Below.drew ?_; iterate 5 (refine Below.setCell ?_ (by simp) _))
    all_goals exact hbd4
  · have hcb : (c' == 0) = false := by simpa using hc
    obtain rfl := HN.out hc
    rw [if_neg hc] at HS
    clear hc
    dsimp only at *
    go_wp2_with fail
    refine (fault_any _ _ _ _ _ _ hr3).mono ?_
    rintro e w5 ⟨rfl, hb5⟩
    replace hA2 := hA2.below hb5
    replace hF2 := hF2.below hb5
    have hbd5 := hbd4.trans (hb5.mono hbd4.size)
    obtain ⟨x0, x1, x2⟩ := hA2.c3
    obtain ⟨y0, y1⟩ := hF2.c2
    obtain ⟨g0, g1⟩ := hF2.f2
    have f0 := hA2.free 0
    have f1 := hA2.free 1
    have f2 := hA2.free 2
    clear hb5 hbd4 hX2 hr3 hA2 hF2
    go_wp2
    refine bodyPost_ret (v := sgv (sr z 0)) (by rw [HS.out]; simp [results, Try.results15, go_sem, x0, x1, x2, y0, y1]) rfl ⟨rfl, ?_⟩
    iterate 5 (refine Below.setCell ?_ (by simp) _)
    exact hbd5
end Go.Proofs.Ytdljkpmjamegjaa.Cur
