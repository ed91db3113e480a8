/- As the seat's text, without what nothing here names. -/
import Derived.Test.YtlealkfkddhnnaaGreatBtcHv
namespace Go.Proofs.YtlealkfkddhnnaaGreat.Cur
open Go.RowKit Mem
set_option linter.unusedVariables false
set_option maxRecDepth 100000
abbrev Dc := Bt × Bool × Int × Int
def bdec (K : List Int → Int → Rs (List Int)) (ow : Int → Int → List Int → Bool) (n : Nat) (z : List Int) : Dc :=
  if (brd K z 0).2.2.1 = 0 then (if (brd K z 0).2.1 < n then (bt0, false, 9, (brd K z 0).2.1) else ((brd K z 0).1, ow (bhd z 0).2.1 (brd K z 0).2.1 (jn (brd K z 0).1.2.2), 0, 0)) else (bt0, false, (brd K z 0).2.2.1, (brd K z 0).2.2.2)
def BzPost (d : Dc) (w : World) (e : Ending) (w' : World) : Prop :=
  ∃ A N m, e = .returned (.tuple #[btagg d.1.1 d.1.2.1 A N m, .bool d.2.1, .agg #[.int .i64 d.2.2.1, .int .i64 d.2.2.2]]) ∧ Below w.heap.size w w' ∧ Ens w' (fun k => w.heap.size ≤ k) A N d.1.2.2 ∧ N ≤ 16 ∧ esm d.1.2.2
theorem BwPost.dec {K : List Int → Int → Rs (List Int)} {ow : Int → Int → List Int → Bool} {n : Nat} {z : List Int} {w : World} {e : Ending} {w' : World} (h : BwPost K ow n z w e w') : BzPost (bdec K ow n z) w e w' := by
  obtain ⟨E, b0, A, N, m, L, f, p', c', q', hs, hb, he, hN, hsm, hf1, hf2, hr⟩ := h
  unfold bdec
  obtain ⟨_, _, ⟨h0, _⟩ | ⟨_, h1, hv, hp, hc, hq⟩ | ⟨_, h1, hv, hc, hq⟩⟩ := hs
  · exact absurd rfl h0
  · rw [if_pos h1]
    rcases hr with ⟨_, h2, rfl⟩ | ⟨h2, rfl⟩
    · rw [if_pos (by rw [← hp]; exact h2), ← hp]
      exact ⟨none, 0, 0, rfl, hb, ens_nil _ _, Nat.zero_le _, esm_nil⟩
    · have h3 : ¬ (brd K z 0).2.1 < n := by rw [← hp]; exact fun h => h2 ⟨hc, h⟩
      rw [if_neg h3, ← hv, ← hp, hc, hq]
      obtain ⟨_, hfe⟩ := hf2 hc
      exact ⟨A, N, m, by rw [← hfe], hb, he, hN, hsm⟩
  · rw [if_neg h1]
    rcases hr with ⟨h2, _⟩ | ⟨h2, rfl⟩
    · exact absurd (hc.symm.trans h2) h1
    · have h4 : c' ≠ 0 := by rw [hc]; exact h1
      injection hv with hv1 hv2
      injection hv2 with hv2 hv3
      subst hv1 hv2 hv3
      rw [hf1 h4, hc, hq]
      exact ⟨A, N, m, rfl, hb, he, hN, hsm⟩
def BdPost (d : Dc) (w : World) (e : Ending) (w' : World) : Prop :=
  ∃ A N m, e = .returned (.tuple #[btagg d.1.1 d.1.2.1 A N m, .agg #[.int .i64 d.2.2.1, .int .i64 d.2.2.2]]) ∧ Below w.heap.size w w' ∧ Ens w' (fun k => w.heap.size ≤ k) A N d.1.2.2 ∧ N ≤ 16 ∧ esm d.1.2.2
set_option maxHeartbeats 4000000 in
theorem bdecode_any (a : Option Addr) (n m : Nat) (z : List Int) (w : World) (hz : Bs w a n z) (hm : n ≤ m) (hn : n ≤ 100000) (hby : ∀ x ∈ z, 0 ≤ x ∧ x < 256) (hfw : (bhd z 0).2.2.1 = 0 → Few z 1048576 (bhd z 0).2.1) (hK5 : (bhd z 0).2.2.1 = 0 → (KS z (bhd z 0).2.1).1.length ≤ 500) :
    Calls Tryz.prog 27 #[.slice a n m] w (BdPost (bdec KS owS n z) w) := by
  have hb2 := below_two w (.cells (btenc 0 0 none 0 0) 25) (.cells #[.int .i64 0, .int .i64 0] 48)
  have hA := (Blk.new w (btenc 0 0 none 0 0) 25).alloc (.cells #[.int .i64 0, .int .i64 0] 48)
  have hF := Blk.new (w.alloc (.cells (btenc 0 0 none 0 0) 25)) #[.int .i64 0, .int .i64 0] 48
  rw [World.size_alloc] at hF
  have hsz : ((w.alloc (.cells (btenc 0 0 none 0 0) 25)).alloc (.cells #[.int .i64 0, .int .i64 0] 48)).heap.size = w.heap.size + 2 := by simp
  have hcon := (bwhole_strict a n m z _ (hz.below hb2) hm hn hby hfw hK5).mono fun e w' h => BwPost.dec h
  generalize bdec KS owS n z = d at *
  clear hz hby hfw hK5
  unfold BzPost at hcon
  obtain ⟨⟨E, b0, L⟩, f, c, q⟩ := d
  unfold BdPost
  dsimp only at hcon ⊢
  go_enter Tryz.func27, Tryz.ntmps27
  go_wp2_with fail
  generalize (w.alloc (.cells (btenc 0 0 none 0 0) 25)).alloc (.cells #[.int .i64 0, .int .i64 0] 48) = w0 at *
  refine hcon.mono ?_
  rintro en w1 ⟨A, N, mm, rfl, hb1, hE1, hN16, hsm⟩
  have hbx := below_two w1 (.cells (btenc E b0 A N mm) 25) (.cells #[.int .i64 c, .int .i64 q] 48)
  replace hA := (hA.below hb1).below hbx
  replace hF := (hF.below hb1).below hbx
  have hX := (Blk.new w1 (btenc E b0 A N mm) 25).alloc (.cells #[.int .i64 c, .int .i64 q] 48)
  have hY := Blk.new (w1.alloc (.cells (btenc E b0 A N mm) 25)) #[.int .i64 c, .int .i64 q] 48
  rw [World.size_alloc] at hY
  have HE := Lib.hid (hE1.below hbx)
  have HSM := Lib.hid hsm
  have hbd := hb2.trans (hb1.mono hb2.size)
  replace hbd := hbd.trans (hbx.mono hbd.size)
  have hw1 : w.heap.size + 2 ≤ w1.heap.size := by have := hb1.size; omega
  obtain ⟨a0, a1, a2⟩ := hA.c3
  obtain ⟨k0, k1, k2⟩ := blk_f3 hA
  obtain ⟨f0, f1⟩ := hF.c2
  obtain ⟨j0, j1⟩ := hF.f2
  obtain ⟨x0, x1, x2⟩ := hX.c3
  obtain ⟨y0, y1⟩ := hY.c2
  have HA := Lib.hid hA
  have HF := Lib.hid hF
  have HBD := Lib.hid hbd
  clear hcon hb1 hb2 hbx hA hF hX hY hE1 hsm hbd
  go_wp2
  generalize (w1.alloc (.cells (btenc E b0 A N mm) 25)).alloc (.cells #[.int .i64 c, .int .i64 q] 48) = w2 at *
  generalize w1.heap.size = xb at *
  go_region
  go_wp2
  obtain ⟨hA9, hF9, hbd9, hE9⟩ := five_set HBD.out HA.out HF.out HE.out (fun g hg => by omega) (.int .u64 E) (.int .u64 b0) (.slice A N mm) (.int .i64 c) (.int .i64 q) _ rfl
  clear a0 a1 a2 k0 k1 k2 f0 f1 j0 j1 x0 x1 x2 y0 y1
  generalize ((((w2.setCell ⟨w.heap.size, 0, none⟩ (.int .u64 E)).setCell ⟨w.heap.size, 1, none⟩ (.int .u64 b0)).setCell ⟨w.heap.size, 2, none⟩ (.slice A N mm)).setCell ⟨w.heap.size + 1, 0, none⟩ (.int .i64 c)).setCell ⟨w.heap.size + 1, 1, none⟩ (.int .i64 q) = wd at *
  have hbd10 := hbd9.trans ((below_one' wd).mono hbd9.size)
  have hE10 := hE9.below (below_one' wd)
  replace hA9 : Blk wd.drew w.heap.size (btenc E b0 A N mm) 25 := hA9
  replace hF9 : Blk wd.drew (w.heap.size + 1) #[.int .i64 c, .int .i64 q] 48 := hF9
  obtain ⟨d0, d1, d2⟩ := hA9.c3
  obtain ⟨e0, e1⟩ := hF9.c2
  exact bodyPost_ret (v := .tuple #[btagg E b0 A N mm, .agg #[.int .i64 c, .int .i64 q]]) (by simp [results, Tryz.results27, go_sem, d0, d1, d2, e0, e1]) rfl ⟨A, N, mm, rfl, hbd10, hE10.mono fun g hg _ => by omega, hN16, HSM.out⟩
set_option maxHeartbeats 4000000 in
theorem bdecodeloose_any (a : Option Addr) (n m : Nat) (z : List Int) (w : World) (hz : Bs w a n z) (hm : n ≤ m) (hn : n ≤ 100000) (hby : ∀ x ∈ z, 0 ≤ x ∧ x < 256) (hfw : (bhd z 0).2.2.1 = 0 → Few z 1048576 (bhd z 0).2.1) (hK5 : (bhd z 0).2.2.1 = 0 → (KL z (bhd z 0).2.1).1.length ≤ 500) :
    Calls Tryz.prog 28 #[.slice a n m] w (BzPost (bdec KL (owL z) n z) w) := by
  have hb2 := below_two w (.cells (btenc 0 0 none 0 0) 25) (.cells #[.int .i64 0, .int .i64 0] 48)
  have hA := (Blk.new w (btenc 0 0 none 0 0) 25).alloc (.cells #[.int .i64 0, .int .i64 0] 48)
  have hF := Blk.new (w.alloc (.cells (btenc 0 0 none 0 0) 25)) #[.int .i64 0, .int .i64 0] 48
  rw [World.size_alloc] at hF
  have hsz : ((w.alloc (.cells (btenc 0 0 none 0 0) 25)).alloc (.cells #[.int .i64 0, .int .i64 0] 48)).heap.size = w.heap.size + 2 := by simp
  have hcon := (bwhole_loose a n m z _ (hz.below hb2) hm hn hby hfw hK5).mono fun e w' h => BwPost.dec h
  generalize bdec KL (owL z) n z = d at *
  clear hz hby hfw hK5
  unfold BzPost at hcon ⊢
  obtain ⟨⟨E, b0, L⟩, f, c, q⟩ := d
  dsimp only at hcon ⊢
  go_enter Tryz.func28, Tryz.ntmps28
  go_wp2_with fail
  generalize (w.alloc (.cells (btenc 0 0 none 0 0) 25)).alloc (.cells #[.int .i64 0, .int .i64 0] 48) = w0 at *
  refine hcon.mono ?_
  rintro en w1 ⟨A, N, mm, rfl, hb1, hE1, hN16, hsm⟩
  replace hA := hA.below hb1
  replace hF := hF.below hb1
  have HE := Lib.hid hE1
  have HSM := Lib.hid hsm
  have hbd := hb2.trans (hb1.mono hb2.size)
  obtain ⟨a0, a1, a2⟩ := hA.c3
  obtain ⟨k0, k1, k2⟩ := blk_f3 hA
  obtain ⟨f0, f1⟩ := hF.c2
  obtain ⟨j0, j1⟩ := hF.f2
  have HA := Lib.hid hA
  have HF := Lib.hid hF
  have HBD := Lib.hid hbd
  clear hcon hb1 hb2 hA hF hE1 hsm hbd
  go_wp2
  obtain ⟨hA9, hF9, hbd9, hE9⟩ := five_set HBD.out HA.out HF.out HE.out (fun g hg => by omega) (.int .u64 E) (.int .u64 b0) (.slice A N mm) (.int .i64 c) (.int .i64 q) _ rfl
  clear a0 a1 a2 k0 k1 k2 f0 f1 j0 j1
  generalize ((((w1.setCell ⟨w.heap.size, 0, none⟩ (.int .u64 E)).setCell ⟨w.heap.size, 1, none⟩ (.int .u64 b0)).setCell ⟨w.heap.size, 2, none⟩ (.slice A N mm)).setCell ⟨w.heap.size + 1, 0, none⟩ (.int .i64 c)).setCell ⟨w.heap.size + 1, 1, none⟩ (.int .i64 q) = wd at *
  obtain ⟨d0, d1, d2⟩ := hA9.c3
  obtain ⟨e0, e1⟩ := hF9.c2
  exact bodyPost_ret (v := .tuple #[btagg E b0 A N mm, .bool f, .agg #[.int .i64 c, .int .i64 q]]) (by simp [results, Tryz.results28, go_sem, d0, d1, d2, e0, e1]) rfl ⟨A, N, mm, rfl, hbd9, hE9.mono fun g hg _ => by omega, hN16, HSM.out⟩
end Go.Proofs.YtlealkfkddhnnaaGreat.Cur
