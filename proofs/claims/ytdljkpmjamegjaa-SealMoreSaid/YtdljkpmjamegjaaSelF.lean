/- Seals by the document: its reader, its bytes; its example. -/
import Derived.Test.YtdljkpmjamegjaaSelE
namespace Go.Proofs.Ytdljkpmjamegjaa.Cur
open Go.RowKit Mem
set_option linter.unusedVariables false
set_option maxRecDepth 100000

def SRRdPost (s : Value) (n : Nat) (z : List Int) (p c q : Int) (w : World) (e : Ending) (w' : World) : Prop :=
  ∃ v p' c' q', e = .returned (.tuple #[cv s p' c' q', sagg v]) ∧ Below w.heap.size w w' ∧ St (0, 0, 0) n (sr z p) p c q v p' c' q'


set_option maxHeartbeats 4000000 in
theorem rread18_any (a : Option Addr) (n m : Nat) (z : List Int) (p c q : Int) (w : World) (hz : Bs w a n z) (h0 : 0 ≤ p) (h1 : p ≤ n) (hm : n ≤ m) (hn : n ≤ 1000000) (hby : ∀ x ∈ z, 0 ≤ x ∧ x < 256) :
    Calls Try.prog 18 #[cv (.slice a n m) p c q] w (SRRdPost (.slice a n m) n z p c q w) := by
  have HBY := Lib.hid hby
  have HZL := Lib.hid hz.1
  clear hby
  go_enter Try.func18, Try.ntmps18
  go_wp2_with fail
  refine (rread17_e _ _ _ _ _ _ _ _ (hz.below (below_three _ _ _ _)) h0 h1 hm hn HBY.out).mono ?_
  rintro e w1 ⟨v1, p1, c1, q1, rfl, hb, hs⟩
  obtain ⟨hX, hR, hZ, hbd⟩ := three_new hb
  have HS1 := Lib.hid hs
  clear hs hb
  obtain ⟨x0, x1, x2, x3⟩ := hX.c4
  obtain ⟨f0, f1, f2, f3⟩ := hX.f4
  have hX' := set4 hX (.slice a n m) (.int .i64 p1) (.int .i64 c1) (.int .i64 q1)
  have hR' := blk_kp hR hX'.2 (by omega)
  have hZ' := blk_kp hZ hX'.2 (by omega)
  have hbd' := Kp.below hbd (Nat.le_refl _) hX'.2 (Nat.le_refl _)
  replace hX' := hX'.1
  go_wp2_with fail
  clear x0 x1 x2 x3 f0 f1 f2 f3 hX hR hZ hbd
  generalize (((w1.setCell ⟨w.heap.size, 0, none⟩ (.slice a n m)).setCell ⟨w.heap.size, 1, none⟩ (.int .i64 p1)).setCell ⟨w.heap.size, 2, none⟩ (.int .i64 c1)).setCell ⟨w.heap.size, 3, none⟩ (.int .i64 q1) = u1 at *
  have hX := hX'
  have hR := hR'
  have hZ := hZ'
  have hbd := hbd'
  clear hX' hR' hZ' hbd'
  refine (rmost_any _ _ _ _ _ _ _ _ _ (hz.below hbd) HS1.out.place.1 HS1.out.place.2 hm hn HBY.out).mono ?_
  rintro e w2 ⟨v2, p2, c2, q2, rfl, hb2, hs2⟩
  have HS2 := Lib.hid (hs2.st HZL.out HS1.out.place.1 HS1.out.place.2 HBY.out)
  replace hX := hX.below hb2
  replace hR := hR.below hb2
  replace hZ := hZ.below hb2
  replace hbd := hbd.trans (hb2.mono hbd.size)
  clear hs2 hb2
  obtain ⟨x0, x1, x2, x3⟩ := hX.c4
  obtain ⟨f0, f1, f2, f3⟩ := hX.f4
  have hX' := set4 hX (.slice a n m) (.int .i64 p2) (.int .i64 c2) (.int .i64 q2)
  have hR' := blk_kp hR hX'.2 (by omega)
  have hZ' := blk_kp hZ hX'.2 (by omega)
  have hbd' := Kp.below hbd (Nat.le_refl _) hX'.2 (Nat.le_refl _)
  replace hX' := hX'.1
  go_wp2_with fail
  clear x0 x1 x2 x3 f0 f1 f2 f3 hX hR hZ hbd
  generalize (((w2.setCell ⟨w.heap.size, 0, none⟩ (.slice a n m)).setCell ⟨w.heap.size, 1, none⟩ (.int .i64 p2)).setCell ⟨w.heap.size, 2, none⟩ (.int .i64 c2)).setCell ⟨w.heap.size, 3, none⟩ (.int .i64 q2) = u2 at *
  have hX := hX'
  have hR := hR'
  have hZ := hZ'
  have hbd := hbd'
  clear hX' hR' hZ' hbd'
  refine (rread17_t _ _ _ _ _ _ _ _ (hz.below hbd) HS2.out.place.1 HS2.out.place.2 hm hn HBY.out).mono ?_
  rintro e w3 ⟨v3, p3, c3, q3, rfl, hb3, hs3⟩
  have HS3 := Lib.hid (sr_st HS1.out HS2.out hs3)
  replace hX := hX.below hb3
  replace hR := hR.below hb3
  replace hZ := hZ.below hb3
  replace hbd := hbd.trans (hb3.mono hbd.size)
  clear hs3 hb3
  obtain ⟨x0, x1, x2, x3⟩ := hX.c4
  obtain ⟨f0, f1, f2, f3⟩ := hX.f4
  obtain ⟨r0, r1, r2, r3⟩ := hR.c4
  obtain ⟨g0, g1, g2, g3⟩ := hR.f4
  obtain ⟨s0, s1, s2⟩ := hZ.c3
  have k0 := hZ.free 0
  have k1 := hZ.free 1
  have k2 := hZ.free 2
  clear hX hR hZ
  by_cases hc : c3 = 0
  · have HC := Lib.hid hc
    have hcb : (c3 != 0) = false := by simpa using hc
    clear hc
    go_wp2
    refine bodyPost_ret (v := .tuple #[cv (.slice a n m) p3 c3 q3, sagg (v1, v2, v3)]) (by simp [results, Try.results18, go_sem, r0, r1, r2, r3, s0, s1, s2]) rfl ⟨(v1, v2, v3), _, _, _, rfl, ?_, by have := HS3.out; rw [if_pos HC.out] at this; exact this⟩
    iterate 11 (refine Below.setCell ?_ (by first | (simp; done) | (simp; omega)) _)
    exact hbd
  · have HC := Lib.hid hc
    have hcb : (c3 != 0) = true := by simpa using hc
    clear hc
    go_wp2
    refine bodyPost_ret (v := .tuple #[cv (.slice a n m) p3 c3 q3, sagg (0, 0, 0)]) (by simp [results, Try.results18, go_sem, r0, r1, r2, r3, s0, s1, s2]) rfl ⟨(0, 0, 0), _, _, _, rfl, ?_, by have := HS3.out; rw [if_neg HC.out] at this; exact this⟩
    iterate 11 (refine Below.setCell ?_ (by first | (simp; done) | (simp; omega)) _)
    exact hbd

set_option maxHeartbeats 1000000 in
theorem rbytes18_any (s : Sl3) (hs : sbd s) (w : World) : Calls Try.prog 17 #[sagg s] w (RowPost (sby s) w) := by
  have hX := Blk.new w #[.int .u64 s.1, .int .u64 s.2.1, .int .u64 s.2.2] 24
  have hb := below_one w (.cells #[.int .u64 s.1, .int .u64 s.2.1, .int .u64 s.2.2] 24)
  have HE := Lib.hid (sby_eq s)
  obtain ⟨⟨a0, a1⟩, ⟨b0, b1⟩, ⟨c0, c1⟩⟩ := hs
  have l1 := vsz_le s.1
  have l2 := vsz_le s.2.1
  have l3 := vsz_le s.2.2
  have HL1 := Lib.hid (vz_length s.1)
  have HL2 := Lib.hid (vz_length s.2.1)
  have HL3 := Lib.hid (vz_length s.2.2)
  obtain ⟨x0, x1, x2⟩ := hX.c3
  go_enter Try.func17, Try.ntmps17
  go_wp2_with fail
  refine (rbytes_any 10 _ _ l1 a0 a1).mono ?_
  rintro e w1 ⟨A1, m1, rfl, hb1, _, _, _, ho1⟩
  replace ho1 := Own.base ho1 (B' := w.heap.size) (fun g hg => by have := ho1.ge g hg; rw [World.size_alloc] at this; omega)
  replace hX := hX.below hb1
  have hbd := hb.trans (hb1.mono hb.size)
  clear x0 x1 x2 hb1
  obtain ⟨x0, x1, x2⟩ := hX.c3
  go_wp2_with fail
  refine (rbytes_any 10 _ _ l2 b0 b1).mono ?_
  rintro e w2 ⟨A2, m2, rfl, hb2, hbs2, hnil2, _⟩
  replace ho1 := ho1.below hb2
  replace hX := hX.below hb2
  replace hbd := hbd.trans (hb2.mono hbd.size)
  have hB2 := hbd.size
  clear x0 x1 x2 hb2
  go_wp2_with (at_builtin; go_must (refine list_append_gr rfl (.tmp 7) (.tmp 10) rfl w.heap.size _ _ rfl ho1 _ _ _ _ rfl hbs2 hnil2 (by rw [HL1.out, HL2.out]; omega) hB2 ?_; intro v3 w3 ho3 hg3 hgr3; have hbd3 := Own.belowOf hbd hB2 ho1 hg3; have hX3 : Blk w3 w.heap.size _ _ := (hg3.block _ hX.lt (fun e => own_ne_blk ho1 hX (by decide) e.symm)).trans hX; obtain ⟨x0, x1, x2⟩ := hX3.c3; clear hX hg3 hgr3 ho1 hbd hB2 hbs2))
  obtain ⟨A3, c3', rfl⟩ := ho3.slice
  have hL3 : (vz s.1 ++ vz s.2.1).length ≤ 20 := by rw [List.length_append, HL1.out, HL2.out]; omega
  obtain ⟨y, hy⟩ : ∃ y, y = vz s.1 ++ vz s.2.1 := ⟨_, rfl⟩
  rw [← hy] at hL3 ho3 HE ⊢
  clear hy
  refine (rbytes_any 10 _ _ l3 c0 c1).mono ?_
  rintro e w4 ⟨A4, m4, rfl, hb4, hbs4, hnil4, _⟩
  replace ho3 := ho3.below hb4
  replace hbd3 := hbd3.trans (hb4.mono hbd3.size)
  have hB4 := hbd3.size
  clear x0 x1 x2 hb4 hX3
  go_wp2_with (at_builtin; go_must (refine list_append_gr rfl (.tmp 12) (.tmp 15) rfl w.heap.size _ _ rfl ho3 _ _ _ _ rfl hbs4 hnil4 (by rw [HL3.out]; omega) hB4 ?_; intro v5 w5 ho5 hg5 hgr5; have HB5 := Lib.hid (Own.belowOf hbd3 hB4 ho3 hg5); have HO5 := Lib.hid ho5; clear hg5 hgr5 ho3 hbd3 hB4 hbs4 ho5))
  have ho5 := HO5.out
  rw [← HE.out] at ho5
  obtain ⟨A5, c5, rfl⟩ := ho5.slice
  go_ret
  exact Own.rowPost (B := 0) ho5 HB5.out

set_option maxHeartbeats 1000000 in
theorem live18_any (w : World) : Calls Try.prog 7 #[] w fun e w' => e = .returned (.bool true) ∧ Below w.heap.size w w' := by
  have h1 : slok (3, 1, 300) = true := by decide
  have h2 : sby (3, 1, 300) = [3, 1, 172, 2] := by decide +kernel
  have hb := sbytes_any (3, 1, 300) (sbd_of (by decide) (by decide) (by decide) (by decide) (by decide) (by decide)) w
  unfold SByPost at hb
  rw [h2] at hb
  go_enter Try.func7, Try.ntmps7
  go_wp2_with fail
  refine hb.mono ?_
  rintro e w1 ⟨hb1, ⟨_, g, rfl, hbs⟩ | ⟨hf, _⟩⟩
  · have hs1 := hbs.below (below_one w1 (.cells #[.int .u8 3, .int .u8 1, .int .u8 172, .int .u8 2] 5))
    have hbd := hb1.trans ((below_one w1 (.cells #[.int .u8 3, .int .u8 1, .int .u8 172, .int .u8 2] 5)).mono hb1.size)
    have hs2 := bs_new w1 [3, 1, 172, 2] 5
    clear h1 h2 hb
    go_wp2_with fail
    refine (same_any _ _ _ _ _ _ [3, 1, 172, 2] _ hs1 hs2).mono ?_
    rintro e w8 ⟨rfl, rfl⟩
    go_wp2
    go_ret
    exact ⟨rfl, hbd⟩
  · rw [h1] at hf; cases hf
end Go.Proofs.Ytdljkpmjamegjaa.Cur
