/- The least tokens: the best run at a place. -/
import Derived.Test.YtmflnnfgkcmlhaaLstA
namespace Go.Proofs.Ytmflnnfgkcmlhaa.Cur
open Go.RowKit Go.Shelf Mem
attribute [local go_sem] Oper.semAt_some
set_option linter.unusedVariables false
set_option maxRecDepth 100000


theorem tb_cell {w : World} {g K t : Nat} {f : Nat → Int} (h : Blk w g (tbc K f) t) {i : Nat} (hi : i < K) : w.cell? ⟨g, i, none⟩ = some (.int .i64 (f i)) := h.cell i (tbc_get hi)
/-- A search: its text, its two tables of steps. -/
def IsS (w : World) (sb gs gc : Nat) (A : Option Addr) (n m K : Nat) (fs fc : Nat → Int) : Prop :=
  Blk w sb #[.slice A n m, .slice (some ⟨gs, 0, none⟩) K K, .slice (some ⟨gc, 0, none⟩) K K] 80 ∧
  Blk w gs (tbc (K * 3) fs) 77 ∧ Blk w gc (tbc (K * 3) fc) 77
theorem IsS.below {w w' : World} {sb gs gc : Nat} {A : Option Addr} {n m K : Nat} {fs fc : Nat → Int} (h : IsS w sb gs gc A n m K fs fc) (hb : Below w.heap.size w w') : IsS w' sb gs gc A n m K fs fc :=
  ⟨h.1.below hb, h.2.1.below hb, h.2.2.below hb⟩
def StS (bb sb g : Nat) (t : Int × Int × Int) (cs : Array Value) (i : Nat) (x : Int) (w' : World) : Prop :=
  Blk w' bb #[.int .i64 t.1, .int .i64 t.2.1, .int .i64 t.2.2] 77 ∧ Blk w' sb cs 80 ∧ w'.cell? ⟨g, i, none⟩ = some (.int .i64 x)
theorem StS.below {bb sb g : Nat} {t : Int × Int × Int} {cs : Array Value} {i : Nat} {x : Int} {w w' : World} (h : StS bb sb g t cs i x w) (hb : Below w.heap.size w w') : StS bb sb g t cs i x w' :=
  ⟨h.1.below hb, h.2.1.below hb, (hb.cell (lt_of_cell h.2.2)).trans h.2.2⟩

theorem _root_.Go.Proofs.Ytmflnnfgkcmlhaa.Mem.Blk.f3 {w : World} {b : Nat} {cs : Array Value} {t : Nat} (h : Blk w b cs t) : w.frozen? ⟨b, 0, none⟩ = false ∧ w.frozen? ⟨b, 1, none⟩ = false ∧ w.frozen? ⟨b, 2, none⟩ = false := ⟨h.free 0, h.free 1, h.free 2⟩
set_option maxHeartbeats 4000000 in
theorem bestrun_any {w : World} {sb gs gc : Nat} {A : Option Addr} {n m K : Nat} {fs fc : Nat → Int} (a : Nat) (h : IsS w sb gs gc A n m K fs fc) (hK : K = n + 1) (ha : a < n) (hn : n ≤ 60) (hf : ∀ i, 0 ≤ fc i ∧ fc i ≤ 1000000) :
    Calls Try.prog 75 #[.pointer (some ⟨sb, 0, none⟩), .int .i64 (a : Nat)] w fun e w' => e = .returned (s3 (stf (fun k => (k : Int) + 1 + fc ((a + k) * 3)) 0 1 (n - a))) ∧ Below w.heap.size w w' := by
  have HF := Lib.hid hf
  have HS := Lib.hid h
  have HK := Lib.hid hK
  obtain ⟨g, hg⟩ : ∃ g, g = fun k : Nat => (k : Int) + 1 + fc ((a + k) * 3) := ⟨_, rfl⟩
  rw [← hg]
  have HG := Lib.hid hg
  obtain ⟨t, ht⟩ : ∃ t, t = stf g 0 1 (n - a) := ⟨_, rfl⟩
  rw [← ht]
  have HTE := Lib.hid ht
  clear ht
  have hb2 := below_two w (.cells #[.int .i64 0, .int .i64 0, .int .i64 0] 77) (.cells #[.int .i64 2048, .int .i64 0, .int .i64 0] 77)
  obtain ⟨p0, p1, p2⟩ := (h.1.below hb2).c3
  clear hf h hg hK
  go_enter Try.func75, Try.ntmps75
  go_wp2
  go_loopw [6] (fun i wr => ∃ v : Nat, i = .int .i64 (v : Int) ∧ 1 ≤ v ∧ v ≤ n - a + 1 ∧ Blk wr (w.heap.size + 1) #[.int .i64 (stf g 0 1 (v - 1)).1, .int .i64 (stf g 0 1 (v - 1)).2.1, .int .i64 (stf g 0 1 (v - 1)).2.2] 77 ∧ Blk wr w.heap.size #[.int .i64 0, .int .i64 0, .int .i64 0] 77 ∧ Below w.heap.size w wr) (fun i _ => n + 2 - (intOf i).toNat)
  case atStart =>
    have hN := Blk.new (w.alloc (.cells #[.int .i64 0, .int .i64 0, .int .i64 0] 77)) #[.int .i64 2048, .int .i64 0, .int .i64 0] 77
    rw [World.size_alloc] at hN
    exact ⟨1, rfl, Nat.le_refl _, by omega, hN, (Blk.new w #[.int .i64 0, .int .i64 0, .int .i64 0] 77).alloc _, hb2⟩
  case round =>
    clear p0 p1 p2
    obtain ⟨v, rfl, hv1, hj, hB, hR, hbd⟩ := hrel
    have hI := HS.out.below hbd
    obtain ⟨p0, p1, p2⟩ := hI.1.c3
    by_cases hlt : v - 1 < n - a
    · obtain ⟨s, ht⟩ : ∃ s, s = stf g 0 1 (v - 1) := ⟨_, rfl⟩
      rw [← ht] at hB
      have HT := Lib.hid ht
      clear ht
      obtain ⟨ix, hix⟩ : ∃ ix, ix = a + v := ⟨_, rfl⟩
      have e1 : IntKind.i64.wrap ((a : Int) + (v : Int)) = (ix : Int) := (IntWalk.i64_in _ (by omega)).trans (by omega)
      have hle : ix ≤ n := by omega
      have hle' : (ix : Int) ≤ (n : Int) := by omega
      have hX := tb_cell hI.2.2 (i := ix * 3) (by rw [HK.out]; omega)
      obtain ⟨x, hx⟩ : ∃ x, x = fc (ix * 3) := ⟨_, rfl⟩
      rw [← hx] at hX
      have hx1 := HF.out (ix * 3)
      rw [← hx] at hx1
      have e2 : IntKind.i64.wrap ((v : Int) + 1 + x) = (v : Int) + 1 + x := IntWalk.i64_in _ (by omega)
      have e3 : IntKind.i64.wrap ((v : Int) + 1) = ((v + 1 : Nat) : Int) := (IntWalk.i64_in _ (by omega)).trans (by omega)
      have hst : stf g 0 1 (v + 1 - 1) = lss s ((v : Int) + 1 + x, 0, (v : Int)) := by
        rw [show v + 1 - 1 = (v - 1) + 1 by omega, stf, ← HT.out, show 1 + (v - 1) = v by omega, hx, HG.out, hix]
      have HST := Lib.hid hst
      have hlt2 : ix < K := by rw [HK.out]; omega
      have HIX := Lib.hid hix
      clear hst hx hix hI
      go_upto_region 5 with (fail)
      clear p0 p1 p2
      have hI := HS.out.below hbd
      have hS : StS (w.heap.size + 1) sb gc s #[.slice A n m, .slice (some ⟨gs, 0, none⟩) K K, .slice (some ⟨gc, 0, none⟩) K K] (ix * 3) x wr.drew := ⟨hB, hI.1, hX⟩
      have L : ∀ w' : World, StS (w.heap.size + 1) sb gc s #[.slice A n m, .slice (some ⟨gs, 0, none⟩) K K, .slice (some ⟨gc, 0, none⟩) K K] (ix * 3) x w' → ((w'.cell? ⟨w.heap.size + 1, 0, none⟩ = some (.int .i64 s.1) ∧ w'.cell? ⟨w.heap.size + 1, 1, none⟩ = some (.int .i64 s.2.1) ∧ w'.cell? ⟨w.heap.size + 1, 2, none⟩ = some (.int .i64 s.2.2)) ∧ w'.cell? ⟨sb, 2, none⟩ = some (.slice (some ⟨gc, 0, none⟩) K K) ∧ w'.cell? ⟨gc, ix * 3, none⟩ = some (.int .i64 x)) := fun w' h => ⟨h.1.c3, h.2.1.c3.2.2, h.2.2⟩
      have HR := Lib.hid hR
      have HBD := Lib.hid hbd
      clear hB hR hbd hI hX
      refine Seq.wp_region_last (StS (w.heap.size + 1) sb gc s #[.slice A n m, .slice (some ⟨gs, 0, none⟩) K K, .slice (some ⟨gc, 0, none⟩) K K] (ix * 3) x) (by kernel_rfl) (by kernel_rfl) (by kernel_rfl) hS ?_
      repeat (first | (refine Seq.SeqE.skip (by rfl) ?_; (try simp only [Act.put, List.setIfInBounds_toArray, List.set_cons_zero, List.set_cons_succ])) | (refine Seq.SeqE.det ?_ (by rfl) (fun w hS => ?_) ?_; rotate_left; ((try dsimp only at hS); go_simp; (try rw [if_pos (by omega)]); with_reducible rfl); (try simp only [Act.put, List.setIfInBounds_toArray, List.set_cons_zero, List.set_cons_succ])))
      refine Seq.SeqE.make (by rfl) (by rfl) (fun K Q' hK => ?_)
      go_simp
      go_at_call 104
      refine (runsize_any (v : Int) _ (by omega) (by omega)).mono ?_
      rintro e w' ⟨rfl, rfl⟩
      refine hK.out _ _ (hS) ?_
      clear hK K
      try simp only [Act.put, List.setIfInBounds_toArray, List.set_cons_zero, List.set_cons_succ]
      repeat (first | (refine Seq.SeqE.skip (by rfl) ?_; (try simp only [Act.put, List.setIfInBounds_toArray, List.set_cons_zero, List.set_cons_succ])) | (refine Seq.SeqE.det ?_ (by rfl) (fun w hS => ?_) ?_; rotate_left; ((try dsimp only at hS); go_simp; (try rw [if_pos (by omega)]); with_reducible rfl); (try simp only [Act.put, List.setIfInBounds_toArray, List.set_cons_zero, List.set_cons_succ])))
      refine Seq.SeqE.make (by rfl) (by rfl) (fun K Q' hK => ?_)
      go_simp
      go_at_call 74
      refine (less_any s.1 s.2.1 s.2.2 ((v : Int) + 1 + x) 0 (v : Int) _).mono ?_
      rintro e w1 ⟨rfl, hb1⟩
      rw [show lss (s.1, s.2.1, s.2.2) ((v : Int) + 1 + x, 0, (v : Int)) = stf g 0 1 (v + 1 - 1) from HST.out.symm]
      have hS1 := hS.below hb1
      have HBD1 := Lib.hid (HBD.out.trans ((below_one' wr).trans (hb1.mono (below_one' wr).size) |>.mono HBD.out.size))
      have HR1 := Lib.hid ((HR.out.drew).below hb1)
      obtain ⟨t', ht'⟩ : ∃ t', t' = stf g 0 1 (v + 1 - 1) := ⟨_, rfl⟩
      rw [← ht']
      have HT' := Lib.hid ht'
      clear hb1 HR HBD ht'
      refine hK.out _ _ (hS1) ?_
      clear hK K
      try simp only [Act.put, List.setIfInBounds_toArray, List.set_cons_zero, List.set_cons_succ]
      repeat (first | (refine Seq.SeqE.skip (by rfl) ?_; (try simp only [Act.put, List.setIfInBounds_toArray, List.set_cons_zero, List.set_cons_succ])) | (refine Seq.SeqE.det ?_ (by rfl) (fun w hS => ?_) ?_; rotate_left; ((try dsimp only at hS); go_simp; (try rw [if_pos (by omega)]); with_reducible rfl); (try simp only [Act.put, List.setIfInBounds_toArray, List.set_cons_zero, List.set_cons_succ])))
      have hB1 := hS1.1
      obtain ⟨f0, f1, f2⟩ := hB1.f3
      obtain ⟨b0, b1, b2⟩ := hB1.c3
      refine Seq.SeqE.last (by rfl) (by rfl) (fun K Q' hK => ?_)
      go_simp
      refine hK.out _ _ ?_
      clear hK K
      try simp only [Act.put, List.setIfInBounds_toArray, List.set_cons_zero, List.set_cons_succ]
      clear L hS hS1
      have hB2 : Blk _ (w.heap.size + 1) #[.int .i64 t'.1, .int .i64 t'.2.1, .int .i64 t'.2.2] 77 := ((hB1.set 0 (.int .i64 t'.1)).set 1 (.int .i64 t'.2.1)).set 2 (.int .i64 t'.2.2)
      have hR2 := ((HR1.out.far (g := w.heap.size + 1) 0 (.int .i64 t'.1) (by omega)).far (g := w.heap.size + 1) 1 (.int .i64 t'.2.1) (by omega)).far (g := w.heap.size + 1) 2 (.int .i64 t'.2.2) (by omega)
      have hbd2 := ((HBD1.out.setCell (p := ⟨w.heap.size + 1, 0, none⟩) (Nat.le_succ _) (.int .i64 t'.1)).setCell (p := ⟨w.heap.size + 1, 1, none⟩) (Nat.le_succ _) (.int .i64 t'.2.1)).setCell (p := ⟨w.heap.size + 1, 2, none⟩) (Nat.le_succ _) (.int .i64 t'.2.2)
      generalize ((w1.setCell ⟨w.heap.size + 1, 0, none⟩ (.int .i64 t'.1)).setCell ⟨w.heap.size + 1, 1, none⟩ (.int .i64 t'.2.1)).setCell ⟨w.heap.size + 1, 2, none⟩ (.int .i64 t'.2.2) = w2 at *
      clear f0 f1 f2 b0 b1 b2 hB1
      have HB2 := Lib.hid hB2
      have HR2 := Lib.hid hR2
      have HBD2 := Lib.hid hbd2
      clear hB2 hR2 hbd2
      go_wp2
      go_roundw
      case rel => exact ⟨v + 1, rfl, by omega, by omega, by rw [← HT'.out]; exact HB2.out, HR2.out, HBD2.out⟩
      case measure => simp [intOf]; omega
    · have hve : v - 1 = n - a := by omega
      have hle : ¬ (((a + v : Nat) : Int) ≤ (n : Int)) := by omega
      have e1 : IntKind.i64.wrap ((a : Int) + (v : Int)) = ((a + v : Nat) : Int) := (IntWalk.i64_in _ (by omega)).trans (by omega)
      have hle2 : ¬ (a + v ≤ n) := by omega
      rw [hve] at hB
      rw [← HTE.out] at hB
      obtain ⟨b0, b1, b2⟩ := hB.c3
      obtain ⟨r0, r1, r2⟩ := hR.c3
      obtain ⟨f0, f1, f2⟩ := hR.f3
      have HBD := Lib.hid (((hbd.setCell (p := ⟨w.heap.size, 0, none⟩) (Nat.le_refl _) (.int .i64 t.1)).setCell (p := ⟨w.heap.size, 1, none⟩) (Nat.le_refl _) (.int .i64 t.2.1)).setCell (p := ⟨w.heap.size, 2, none⟩) (Nat.le_refl _) (.int .i64 t.2.2))
      clear hB hR hbd hI
      go_wp2
      refine bodyPost_ret (v := s3 t) (by simp [results, Try.results75, go_sem, r0, r1, r2]) rfl ⟨rfl, HBD.out⟩
end Go.Proofs.Ytmflnnfgkcmlhaa.Cur
