/- Seals read: Read, by the program and by the document. -/
import Derived.Test.YtdljkpmjamegjaaSelB
namespace Go.Proofs.Ytdljkpmjamegjaa.Cur
open Go.RowKit Mem
set_option linter.unusedVariables false
set_option maxRecDepth 100000

/-- A seal. -/
def sr (z : List Int) (p : Int) : Rs Sl3 :=
  (ve epk z p).bind (0, 0, 0) fun e p1 => (vm z 4294967295 p1).bind (0, 0, 0) fun nd p2 => (ve tlk z p2).bind (0, 0, 0) fun t p3 => ((e, nd, t), p3, 0, 0)
/-- What stands at the end: the value, if there is no fault. -/
theorem St.last {n : Nat} {d x : Sl3} {p c q : Int} (h0 : 0 ≤ p) (h1 : p ≤ n) (hq : c = 0 → q = 0 ∨ True) : St d n (x, p, (0 : Int), (0 : Int)) p c q (if c = 0 then x else d) p c q := by
  refine ⟨h0, h1, ?_⟩
  by_cases hc : c = 0
  · subst hc
    rw [if_pos rfl]
    exact .inr (.inl ⟨rfl, rfl, rfl, rfl, rfl, rfl⟩)
  · rw [if_neg hc]
    exact .inl ⟨hc, rfl, rfl, rfl⟩
theorem sr_st {n : Nat} {z : List Int} {p c q e p1 c1 q1 nd p2 c2 q2 t p3 c3 q3 : Int} (h1 : St 0 n (ve epk z p) p c q e p1 c1 q1) (h2 : St 0 n (vm z 4294967295 p1) p1 c1 q1 nd p2 c2 q2) (h3 : St 0 n (ve tlk z p2) p2 c2 q2 t p3 c3 q3) :
    St (0, 0, 0) n (sr z p) p c q (if c3 = 0 then (e, nd, t) else (0, 0, 0)) p3 c3 q3 := by
  unfold sr
  refine h1.bind (h2.bind (h3.bind (St.last h3.place.1 h3.place.2 fun _ => .inr trivial)))

def SRdPost (b : Nat) (s : Value) (n : Nat) (z : List Int) (p c q : Int) (w : World) (e : Ending) (w' : World) : Prop :=
  ∃ v p' c' q', e = .returned (sagg v) ∧ Kp b w w' ∧ IsRd w' b s p' c' q' ∧ St (0, 0, 0) n (sr z p) p c q v p' c' q'

set_option maxHeartbeats 2000000 in
theorem sread_any (b : Nat) (a : Option Addr) (n m : Nat) (z : List Int) (p c q : Int) (w : World) (h : IsRd w b (.slice a n m) p c q) (hz : Bs w a n z) (h0 : 0 ≤ p) (h1 : p ≤ n) (hn : n ≤ 1000000) (hby : ∀ x ∈ z, 0 ≤ x ∧ x < 256) :
    Calls Try.prog 20 #[.pointer (some ⟨b, 0, none⟩)] w (SRdPost b (.slice a n m) n z p c q w) := by
  have HBY := Lib.hid hby
  clear hby
  have hA := (Blk.new w #[.int .u64 0, .int .u64 0, .int .u64 0] 24).alloc (.cells #[.int .u64 0, .int .u64 0, .int .u64 0] 24)
  have hS := Blk.new (w.alloc (.cells #[.int .u64 0, .int .u64 0, .int .u64 0] 24)) #[.int .u64 0, .int .u64 0, .int .u64 0] 24
  rw [show (w.alloc (.cells #[.int .u64 0, .int .u64 0, .int .u64 0] 24)).heap.size = w.heap.size + 1 by simp] at hS
  have hb2 := below_two w (.cells #[.int .u64 0, .int .u64 0, .int .u64 0] 24) (.cells #[.int .u64 0, .int .u64 0, .int .u64 0] 24)
  have hbl := h.lt
  have hr := h.below hb2
  have HK := Lib.hid (Kp.of_below (b := b) hb2)
  have HZ : Hid (∀ w', Kp b w w' → Bs w' a n z) := Lib.hid fun w' hk => hz.kp h (by simp) hk
  clear hb2
  go_enter Try.func20, Try.ntmps20
  go_wp2_with fail
  refine (eread_any _ _ _ _ _ _ _ _ _ hr (HZ.out _ HK.out) h0 h1 hn HBY.out).mono ?_
  rintro e w1 ⟨v1, p1, c1, q1, rfl, hk1, hr1, hs1⟩
  have HS1 := Lib.hid hs1
  have HK1 := Lib.hid ((HK.out.trans hk1).far (p := ⟨w.heap.size + 1, 0, none⟩) (by show w.heap.size ≤ w.heap.size + 1; omega) (.int .u64 v1))
  have hA1 := (blk_kp hA hk1 (by omega)).far (g := w.heap.size + 1) 0 (.int .u64 v1) (by omega)
  have hS0 := blk_kp hS hk1 (by omega)
  have hS1 := hS0.set 0 (.int .u64 v1)
  have hr1' := hr1.kp (Kp.setCell w1 (w.heap.size + 1) 0 (.int .u64 v1)) (by omega)
  obtain ⟨y0, y1, y2⟩ := hS0.c3
  have f0 := hS0.free 0
  clear hs1 hk1 hA hS hr hr1 HK hS0
  go_wp2_with fail
  clear y0 y1 y2 f0
  generalize w1.setCell ⟨w.heap.size + 1, 0, none⟩ (.int .u64 v1) = w2 at *
  refine (vmost_any _ _ _ _ _ _ _ _ _ _ hr1' (HZ.out _ HK1.out) HS1.out.place.1 HS1.out.place.2 hn HBY.out).mono ?_
  rintro e w3 ⟨v3, p3, c3, q3, rfl, hk3, hr3, hs3⟩
  have HS3 := Lib.hid (hs3.st hz.1 HS1.out.place.1 HS1.out.place.2 HBY.out)
  have HK3 := Lib.hid ((HK1.out.trans hk3).far (p := ⟨w.heap.size + 1, 1, none⟩) (by show w.heap.size ≤ w.heap.size + 1; omega) (.int .u64 v3))
  have hA3 := (blk_kp hA1 hk3 (by omega)).far (g := w.heap.size + 1) 1 (.int .u64 v3) (by omega)
  have hS2 := blk_kp hS1 hk3 (by omega)
  have hS3 := hS2.set 1 (.int .u64 v3)
  have hr3' := hr3.kp (Kp.setCell w3 (w.heap.size + 1) 1 (.int .u64 v3)) (by omega)
  obtain ⟨y0, y1, y2⟩ := hS2.c3
  have f0 := hS2.free 1
  clear hs3 hk3 hA1 hS1 hr1' hr3 HK1 hS2
  go_wp2_with fail
  clear y0 y1 y2 f0
  generalize w3.setCell ⟨w.heap.size + 1, 1, none⟩ (.int .u64 v3) = w4 at *
  refine (ereadtail_any _ _ _ _ _ _ _ _ _ hr3' (HZ.out _ HK3.out) HS3.out.place.1 HS3.out.place.2 hn HBY.out).mono ?_
  rintro e w5 ⟨v5, p5, c5, q5, rfl, hk5, hr5, hs5⟩
  have HS5 := Lib.hid (sr_st HS1.out HS3.out hs5)
  have HK5 := Lib.hid ((HK3.out.trans hk5).far (p := ⟨w.heap.size + 1, 2, none⟩) (by show w.heap.size ≤ w.heap.size + 1; omega) (.int .u64 v5))
  have hA5 := (blk_kp hA3 hk5 (by omega)).far (g := w.heap.size + 1) 2 (.int .u64 v5) (by omega)
  have hS4 := blk_kp hS3 hk5 (by omega)
  have hS5 := hS4.set 2 (.int .u64 v5)
  have hr5' := hr5.kp (Kp.setCell w5 (w.heap.size + 1) 2 (.int .u64 v5)) (by omega)
  obtain ⟨y0, y1, y2⟩ := hS4.c3
  have f0 := hS4.free 2
  clear hs5 hk5 hA3 hS3 hr3' hr5 HK3 hS4
  go_wp2_with fail
  clear y0 y1 y2 f0
  generalize w5.setCell ⟨w.heap.size + 1, 2, none⟩ (.int .u64 v5) = w6 at *
  refine (good_any _ _ _ _ _ _ hr5').mono ?_
  rintro e w7 ⟨rfl, hb7⟩
  have hA7 := hA5.below hb7
  have hS7 := hS5.below hb7
  have HR7 := Lib.hid (hr5'.below hb7)
  have HK7 := Lib.hid (HK5.out.trans (Kp.of_below (b := b) hb7))
  obtain ⟨y0, y1, y2⟩ := hS7.c3
  obtain ⟨x0, x1, x2⟩ := hA7.c3
  have f0 := hA7.free 0
  have f1 := hA7.free 1
  have f2 := hA7.free 2
  clear hb7 hA5 hS5 hr5' HK5 hS7 hA7
  by_cases hc : c5 = 0
  · have hcb : (c5 == 0) = true := by simpa using hc
    have HC := Lib.hid hc
    clear hc
    go_wp2
    refine bodyPost_ret (v := sagg (v1, v3, v5)) (by simp [results, Try.results20, go_sem, x0, x1, x2]) rfl ⟨(v1, v3, v5), p5, c5, q5, rfl, ?_, ?_, by have := HS5.out; rw [if_pos HC.out] at this; exact this⟩
    · iterate 3 (refine Kp.far ?_ (by simp) _)
      exact HK7.out
    · iterate 3 (refine IsRd.kp ?_ (Kp.setCell _ w.heap.size _ _) (by omega))
      exact HR7.out
  · have hcb : (c5 == 0) = false := by simpa using hc
    have HC := Lib.hid hc
    clear hc
    go_wp2
    refine bodyPost_ret (v := sagg (0, 0, 0)) (by simp [results, Try.results20, go_sem, x0, x1, x2]) rfl ⟨(0, 0, 0), p5, c5, q5, rfl, ?_, ?_, by have := HS5.out; rw [if_neg HC.out] at this; exact this⟩
    · iterate 3 (refine Kp.far ?_ (by simp) _)
      exact HK7.out
    · iterate 3 (refine IsRd.kp ?_ (Kp.setCell _ w.heap.size _ _) (by omega))
      exact HR7.out
end Go.Proofs.Ytdljkpmjamegjaa.Cur
