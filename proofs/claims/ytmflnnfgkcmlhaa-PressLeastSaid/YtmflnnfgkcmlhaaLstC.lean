/- The least tokens: the best copy at a place. -/
import Derived.Test.YtmflnnfgkcmlhaaLstB
namespace Go.Proofs.Ytmflnnfgkcmlhaa.Cur
open Go.RowKit Go.Shelf Mem
attribute [local go_sem] Oper.semAt_some
set_option linter.unusedVariables false
set_option maxRecDepth 100000


/-- The best copy's numbers are small. -/
theorem best_small {z : List Int} {a : Nat} (ha : a ≤ 60) : ∃ mo : Nat, bnf z a (alls a) = (mo : Int) ∧ mo - 3 = lg z a a - 3 ∧ ((mo = 0 ∧ bof z a (alls a) = 0) ∨ (4 ≤ mo ∧ mo ≤ z.length - a ∧ 1 ≤ bof z a (alls a) ∧ bof z a (alls a) ≤ 60)) := by
  rcases lg_best (z := z) (a := a) (by omega) with ⟨h1, h2, h3⟩ | ⟨j, hj, h1, h2, h3, h4, _⟩
  · exact ⟨0, h2, by omega, .inl ⟨rfl, h1⟩⟩
  · exact ⟨lg z a a, h2, rfl, .inr ⟨h3, lg_le _, by rw [h1]; omega, by rw [h1]; omega⟩⟩
def g2 (fs : Nat → Int) (a k : Nat) : Int := 2 + fs ((a + k) * 3)

set_option maxHeartbeats 8000000 in
theorem bestcopy_any {w : World} {sb gs gc : Nat} {A : Option Addr} {n m K : Nat} {z : List Int} {fs fc : Nat → Int} (a : Nat) (h : IsS w sb gs gc A n m K fs fc) (hz : Bs w A n z) (hby : ∀ x ∈ z, 0 ≤ x ∧ x < 256) (hm : n ≤ m) (hK : K = n + 1) (ha : a < n) (hn : n ≤ 60) (hf : ∀ i, 0 ≤ fs i ∧ fs i ≤ 1000000) :
    Calls Try.prog 73 #[.pointer (some ⟨sb, 0, none⟩), .int .i64 (a : Nat)] w fun e w' => e = .returned (s3 (stf (g2 fs a) (bof z a (alls a)) 4 (lg z a a - 3))) ∧ Below w.heap.size w w' := by
  have HF := Lib.hid hf
  have HS := Lib.hid h
  have HK := Lib.hid hK
  have HZ := Lib.hid hz
  have HBY := Lib.hid hby
  have hzl := hz.1
  obtain ⟨mo, hmo1, hmo2, hmo3⟩ := best_small (z := z) (a := a) (by omega)
  obtain ⟨off, hoff⟩ : ∃ off, off = bof z a (alls a) := ⟨_, rfl⟩
  rw [← hoff] at hmo3 ⊢
  rw [← hmo2]
  have HOF := Lib.hid hoff
  have HMO := Lib.hid hmo1
  obtain ⟨g, hg⟩ : ∃ g, g = g2 fs a := ⟨_, rfl⟩
  rw [← hg]
  have HG := Lib.hid hg
  obtain ⟨t, ht⟩ : ∃ t, t = stf g off 4 (mo - 3) := ⟨_, rfl⟩
  rw [← ht]
  have HTE := Lib.hid ht
  have hmn : a + mo ≤ n := by rw [hzl] at hmo3; omega
  have HMS := Lib.hid hmo3
  clear ht
  have hb2 := below_two w (.cells #[.int .i64 0, .int .i64 0, .int .i64 0] 77) (.cells #[.int .i64 2048, .int .i64 0, .int .i64 0] 77)
  have hsl := fun W (h : Below w.heap.size w W) => slice_l (HZ.out.below h) m 0 (Int.le_refl _) (by omega) hm
  have HSL := Lib.hid hsl
  have ew1 : IntKind.i64.wrap ((a : Int) - 128) = (a : Int) - 128 := IntWalk.i64_in _ (by omega)
  have ew2 : IntKind.i64.wrap ((a : Int) - 1024) = (a : Int) - 1024 := IntWalk.i64_in _ (by omega)
  have em1 : max ((a : Int) - 128) 0 = 0 := by omega
  have em2 : max ((a : Int) - 1024) 0 = 0 := by omega
  have ew3 : IntKind.i64.wrap (a : Int) = (a : Int) := IntWalk.i64_in _ (by omega)
  have ew4 : IntKind.i64.wrap ((mo : Int) + 1) = (mo : Int) + 1 := IntWalk.i64_in _ (by omega)
  have hix0 : ∀ w', (Instr.index 134 (.agg #[.int .i64 128, .int .i64 1024]) (.int .i64 0)).run Try.prog w' = .ok (.int .i64 128) w' := fun _ => by kernel_rfl
  have hix1 : ∀ w', (Instr.index 134 (.agg #[.int .i64 128, .int .i64 1024]) (.int .i64 1)).run Try.prog w' = .ok (.int .i64 1024) w' := fun _ => by kernel_rfl
  clear hf h hg hK hz hby hoff hmo1 hmo3 hsl
  go_enter Try.func73, Try.ntmps73
  go_wp2
  go_loopw [6, 15] (fun l c wr => (∃ r : Nat, c = .int .i64 (r : Int) ∧ ((r = 0 ∧ l = .int .i64 4 ∧ Blk wr (w.heap.size + 1) #[.int .i64 2048, .int .i64 0, .int .i64 0] 77) ∨ (1 ≤ r ∧ r ≤ 2 ∧ (∃ y : Int, l = .int .i64 y ∧ (mo : Int) < y ∧ y ≤ 1000) ∧ Blk wr (w.heap.size + 1) #[.int .i64 t.1, .int .i64 t.2.1, .int .i64 t.2.2] 77))) ∧ Blk wr w.heap.size #[.int .i64 0, .int .i64 0, .int .i64 0] 77 ∧ Below w.heap.size w wr) (fun _ c _ => 2 - (intOf c).toNat)
  case atStart =>
    have hN := Blk.new (w.alloc (.cells #[.int .i64 0, .int .i64 0, .int .i64 0] 77)) #[.int .i64 2048, .int .i64 0, .int .i64 0] 77
    rw [World.size_alloc] at hN
    exact ⟨⟨0, rfl, .inl ⟨rfl, rfl, hN⟩⟩, (Blk.new w #[.int .i64 0, .int .i64 0, .int .i64 0] 77).alloc _, hb2⟩
  case round =>
    obtain ⟨⟨r, rfl, hcase⟩, hR, hbd⟩ := hrel
    have hI := HS.out.below hbd
    obtain ⟨p0, p1, p2⟩ := hI.1.c3
    obtain ⟨A', M, hsl, hbs', hM⟩ := HSL.out _ hbd
    rw [show ((n : Int) - 0).toNat = n by omega] at hsl hbs' hM
    rw [show z.drop (0 : Int).toNat = z from rfl] at hbs'
    have hBest := sbest_any (m := M) (a : Int) hbs' HBY.out (by omega) (by omega) (by omega)
    unfold BstPost at hBest
    rw [HMO.out, ← HOF.out] at hBest
    rcases hcase with ⟨rfl, rfl, hB⟩ | ⟨hr1, hr2, ⟨y, rfl, hy1, hy2⟩, hB⟩
    · have HB := Lib.hid hB
      have HR := Lib.hid hR
      have HBD := Lib.hid hbd
      clear hB hR hbd hI hbs' hM
      go_wp2_with fail
      refine hBest.mono ?_
      rintro e w1 ⟨rfl, hb1⟩
      replace hbd := HBD.out.trans (hb1.mono HBD.out.size)
      have hBx := HB.out.below hb1
      have hRx := HR.out.below hb1
      clear hb1 HB HR HBD hBest p0 p1 p2 hsl
      go_wp2
      go_loopw [12] (fun i wr => ∃ v : Nat, i = .int .i64 (v : Int) ∧ 4 ≤ v ∧ v ≤ mo - 3 + 4 ∧ Blk wr (w.heap.size + 1) #[.int .i64 (stf g off 4 (v - 4)).1, .int .i64 (stf g off 4 (v - 4)).2.1, .int .i64 (stf g off 4 (v - 4)).2.2] 77 ∧ Blk wr w.heap.size #[.int .i64 0, .int .i64 0, .int .i64 0] 77 ∧ Below w.heap.size w wr) (fun i _ => mo + 5 - (intOf i).toNat)
      case atStart => exact ⟨4, rfl, Nat.le_refl _, by omega, hBx, hRx, hbd⟩
      case round =>
        clear hBx hRx hbd
        obtain ⟨v, rfl, hv1, hj, hB, hR, hbd⟩ := hrel
        have hI := HS.out.below hbd
        obtain ⟨p0, p1, p2⟩ := hI.1.c3
        by_cases hlt : v ≤ mo
        · obtain ⟨s, ht⟩ : ∃ s, s = stf g off 4 (v - 4) := ⟨_, rfl⟩
          rw [← ht] at hB
          have HT := Lib.hid ht
          clear ht
          obtain ⟨ix, hix⟩ : ∃ ix, ix = a + v := ⟨_, rfl⟩
          have e1 : IntKind.i64.wrap ((a : Int) + (v : Int)) = (ix : Int) := (IntWalk.i64_in _ (by omega)).trans (by omega)
          have hle : ix ≤ n := by omega
          have hle' : (ix : Int) ≤ (n : Int) := by omega
          have hX := tb_cell hI.2.1 (i := ix * 3) (by rw [HK.out]; omega)
          obtain ⟨x, hx⟩ : ∃ x, x = fs (ix * 3) := ⟨_, rfl⟩
          rw [← hx] at hX
          have hx1 := HF.out (ix * 3)
          rw [← hx] at hx1
          have e2 : IntKind.i64.wrap (2 + x) = 2 + x := IntWalk.i64_in _ (by omega)
          have e3 : IntKind.i64.wrap ((v : Int) + 1) = ((v + 1 : Nat) : Int) := (IntWalk.i64_in _ (by omega)).trans (by omega)
          have hst : stf g off 4 (v + 1 - 4) = lss s (2 + x, off, (v : Int)) := by
            rw [show v + 1 - 4 = (v - 4) + 1 by omega, stf, ← HT.out, show 4 + (v - 4) = v by omega, hx, HG.out, hix]; rfl
          have HST := Lib.hid hst
          have hlt2 : ix < K := by rw [HK.out]; omega
          have HIX := Lib.hid hix
          clear hst hx hix hI
          go_upto_region 11 with (fail)
          clear p0 p1 p2
          have hI := HS.out.below hbd
          have hS : StS (w.heap.size + 1) sb gs s #[.slice A n m, .slice (some ⟨gs, 0, none⟩) K K, .slice (some ⟨gc, 0, none⟩) K K] (ix * 3) x wr.drew := ⟨hB, hI.1, hX⟩
          have L : ∀ w' : World, StS (w.heap.size + 1) sb gs s #[.slice A n m, .slice (some ⟨gs, 0, none⟩) K K, .slice (some ⟨gc, 0, none⟩) K K] (ix * 3) x w' → ((w'.cell? ⟨w.heap.size + 1, 0, none⟩ = some (.int .i64 s.1) ∧ w'.cell? ⟨w.heap.size + 1, 1, none⟩ = some (.int .i64 s.2.1) ∧ w'.cell? ⟨w.heap.size + 1, 2, none⟩ = some (.int .i64 s.2.2)) ∧ w'.cell? ⟨sb, 1, none⟩ = some (.slice (some ⟨gs, 0, none⟩) K K) ∧ w'.cell? ⟨gs, ix * 3, none⟩ = some (.int .i64 x)) := fun w' h => ⟨h.1.c3, h.2.1.c3.2.1, h.2.2⟩
          have HR := Lib.hid hR
          have HBD := Lib.hid hbd
          clear hB hR hbd hI hX
          refine Seq.wp_region_last (StS (w.heap.size + 1) sb gs s #[.slice A n m, .slice (some ⟨gs, 0, none⟩) K K, .slice (some ⟨gc, 0, none⟩) K K] (ix * 3) x) (by kernel_rfl) (by kernel_rfl) (by kernel_rfl) hS ?_
          repeat (first | (refine Seq.SeqE.skip (by rfl) ?_; (try simp only [Act.put, List.setIfInBounds_toArray, List.set_cons_zero, List.set_cons_succ])) | (refine Seq.SeqE.det ?_ (by rfl) (fun w hS => ?_) ?_; rotate_left; ((try dsimp only at hS); go_simp; (try rw [if_pos (by omega)]); with_reducible rfl); (try simp only [Act.put, List.setIfInBounds_toArray, List.set_cons_zero, List.set_cons_succ])))
          refine Seq.SeqE.make (by rfl) (by rfl) (fun K Q' hK => ?_)
          go_simp
          go_at_call 103
          have hof : 1 ≤ off ∧ off ≤ 60 := by have := HMS.out; omega
          refine (copysize_any off (v : Int) _ (by omega) (by omega) (by omega) (by omega)).mono ?_
          rintro e w' ⟨rfl, rfl⟩
          refine hK.out _ _ (hS) ?_
          clear hK K
          try simp only [Act.put, List.setIfInBounds_toArray, List.set_cons_zero, List.set_cons_succ]
          repeat (first | (refine Seq.SeqE.skip (by rfl) ?_; (try simp only [Act.put, List.setIfInBounds_toArray, List.set_cons_zero, List.set_cons_succ])) | (refine Seq.SeqE.det ?_ (by rfl) (fun w hS => ?_) ?_; rotate_left; ((try dsimp only at hS); go_simp; (try rw [if_pos (by omega)]); with_reducible rfl); (try simp only [Act.put, List.setIfInBounds_toArray, List.set_cons_zero, List.set_cons_succ])))
          refine Seq.SeqE.make (by rfl) (by rfl) (fun K Q' hK => ?_)
          go_simp
          go_at_call 74
          refine (less_any s.1 s.2.1 s.2.2 (2 + x) off (v : Int) _).mono ?_
          rintro e w1 ⟨rfl, hb1⟩
          rw [show lss (s.1, s.2.1, s.2.2) (2 + x, off, (v : Int)) = stf g off 4 (v + 1 - 4) from HST.out.symm]
          have hS1 := hS.below hb1
          have HBD1 := Lib.hid (HBD.out.trans ((below_one' wr).trans (hb1.mono (below_one' wr).size) |>.mono HBD.out.size))
          have HR1 := Lib.hid ((HR.out.drew).below hb1)
          obtain ⟨t', ht'⟩ : ∃ t', t' = stf g off 4 (v + 1 - 4) := ⟨_, rfl⟩
          rw [← ht']
          have HT' := Lib.hid ht'
          clear hb1 HR HBD ht'
          refine hK.out _ _ (hS1) ?_
          clear hK K
          try simp only [Act.put, List.setIfInBounds_toArray, List.set_cons_zero, List.set_cons_succ]
          repeat (first | (refine Seq.SeqE.skip (by rfl) ?_; (try simp only [Act.put, List.setIfInBounds_toArray, List.set_cons_zero, List.set_cons_succ])) | (refine Seq.SeqE.det ?_ (by rfl) (fun w hS => ?_) ?_; rotate_left; ((try dsimp only at hS); go_simp; (try rw [if_pos (by omega)]); with_reducible rfl); (try simp only [Act.put, List.setIfInBounds_toArray, List.set_cons_zero, List.set_cons_succ])))
          have hB1 := hS1.1
          obtain ⟨f0, f1, f2⟩ := hB1.f3
          obtain ⟨b0, b1, b2⟩ := hB1.c3
          refine Seq.SeqE.last (by rfl) (by rfl) (fun K Q' hK => ?_)
          go_simp
          refine hK.out _ _ ?_
          clear hK K
          try simp only [Act.put, List.setIfInBounds_toArray, List.set_cons_zero, List.set_cons_succ]
          clear L hS hS1
          have hB2 : Blk _ (w.heap.size + 1) #[.int .i64 t'.1, .int .i64 t'.2.1, .int .i64 t'.2.2] 77 := ((hB1.set 0 (.int .i64 t'.1)).set 1 (.int .i64 t'.2.1)).set 2 (.int .i64 t'.2.2)
          have hR2 := ((HR1.out.far (g := w.heap.size + 1) 0 (.int .i64 t'.1) (by omega)).far (g := w.heap.size + 1) 1 (.int .i64 t'.2.1) (by omega)).far (g := w.heap.size + 1) 2 (.int .i64 t'.2.2) (by omega)
          have hbd2 := ((HBD1.out.setCell (p := ⟨w.heap.size + 1, 0, none⟩) (Nat.le_succ _) (.int .i64 t'.1)).setCell (p := ⟨w.heap.size + 1, 1, none⟩) (Nat.le_succ _) (.int .i64 t'.2.1)).setCell (p := ⟨w.heap.size + 1, 2, none⟩) (Nat.le_succ _) (.int .i64 t'.2.2)
          generalize ((w1.setCell ⟨w.heap.size + 1, 0, none⟩ (.int .i64 t'.1)).setCell ⟨w.heap.size + 1, 1, none⟩ (.int .i64 t'.2.1)).setCell ⟨w.heap.size + 1, 2, none⟩ (.int .i64 t'.2.2) = w2 at *
          clear f0 f1 f2 b0 b1 b2 hB1
          have HB2 := Lib.hid hB2
          have HR2 := Lib.hid hR2
          have HBD2 := Lib.hid hbd2
          clear hB2 hR2 hbd2
          go_wp2
          go_roundw
          case rel => exact ⟨v + 1, rfl, by omega, by omega, by rw [← HT'.out]; exact HB2.out, HR2.out, HBD2.out⟩
          case measure => simp [intOf]; omega

        · have hve : v - 4 = mo - 3 := by omega
          have hle : ¬ (v : Int) ≤ (mo : Int) := by omega
          have hle2 : ¬ v ≤ mo := hlt
          rw [hve, ← HTE.out] at hB
          have HB := Lib.hid hB
          have HR := Lib.hid hR
          have HBD := Lib.hid hbd
          clear hB hR hbd hI p0 p1 p2
          go_wp2
          go_roundw
          case rel =>
            refine ⟨⟨1, rfl, .inr ⟨by omega, by omega, ⟨_, rfl, ?_, ?_⟩, HB.out⟩⟩, HR.out, HBD.out⟩ <;> omega
          case measure => simp [intOf]
    · by_cases hr : r = 1
      · subst hr
        have HB := Lib.hid hB
        have HR := Lib.hid hR
        have HBD := Lib.hid hbd
        clear hB hR hbd hI hbs' hM
        go_wp2_with fail
        refine hBest.mono ?_
        rintro e w1 ⟨rfl, hb1⟩
        replace hbd := HBD.out.trans (hb1.mono HBD.out.size)
        have hBx := HB.out.below hb1
        have hRx := HR.out.below hb1
        clear hb1 HB HR HBD hBest p0 p1 p2 hsl
        go_wp2
        go_loopw [12] (fun i wr => i = .int .i64 y ∧ Blk wr (w.heap.size + 1) #[.int .i64 t.1, .int .i64 t.2.1, .int .i64 t.2.2] 77 ∧ Blk wr w.heap.size #[.int .i64 0, .int .i64 0, .int .i64 0] 77 ∧ Below w.heap.size w wr) (fun i _ => 0)
        case atStart => exact ⟨rfl, hBx, hRx, hbd⟩
        case round =>
          clear hBx hRx hbd
          obtain ⟨rfl, hB, hR, hbd⟩ := hrel
          have hle : ¬ y ≤ (mo : Int) := by omega
          have HB := Lib.hid hB
          have HR := Lib.hid hR
          have HBD := Lib.hid hbd
          clear hB hR hbd
          go_wp2
          go_roundw
          case rel =>
            refine ⟨⟨2, rfl, .inr ⟨by omega, by omega, ⟨_, rfl, ?_, ?_⟩, HB.out⟩⟩, HR.out, HBD.out⟩ <;> omega
          case measure => simp [intOf]
      · have hr2 : r = 2 := by omega
        subst hr2
        obtain ⟨b0, b1, b2⟩ := hB.c3
        obtain ⟨r0, r1, r2⟩ := hR.c3
        obtain ⟨f0, f1, f2⟩ := hR.f3
        have HBD := Lib.hid (((hbd.setCell (p := ⟨w.heap.size, 0, none⟩) (Nat.le_refl _) (.int .i64 t.1)).setCell (p := ⟨w.heap.size, 1, none⟩) (Nat.le_refl _) (.int .i64 t.2.1)).setCell (p := ⟨w.heap.size, 2, none⟩) (Nat.le_refl _) (.int .i64 t.2.2))
        clear hB hR hbd hI hBest hbs' hM
        go_wp2
        refine bodyPost_ret (v := s3 t) (by simp [results, Try.results73, go_sem, r0, r1, r2]) rfl ⟨rfl, HBD.out⟩
end Go.Proofs.Ytmflnnfgkcmlhaa.Cur
