/- VarintReads: called with any bytes and any two ints, the law returns true; no condition. -/
import Derived.Test.YtkbfbdeodannmaaRows
import Derived.Test.YtkbfbdeodannmaaVarL
import Derived.Test.YtkbfbdeodannmaaOpenA
import Derived.Test.YtkbfbdeodannmaaSeq
import Derived.IntWalk
import Derived.Deep.RegionHeld3
import Derived.Deep.CutRange
import Derived.ProofKit
import Derived.OpenShut
import Derived.ShutString
import Derived.ChangeOld
namespace Go.Proofs.Ytkbfbdeodannmaa.varintReads
open Go.ChangeShapes Go.WideShapes Go.ChangeAt Go.RowKit
open Go.ChangeMaps (open_string shut_string)
set_option linter.unusedVariables false

theorem own : ownKnob Try.prog.godebug = none := by kernel_rfl
theorem laidOut : laidOutB Try.prog = true := by kernel_rfl
open Cur Mem

abbrev pt (b : Nat) : Value := .pointer (some ⟨b, 0, none⟩)
/-- The readers that are there when k were made. -/
def RS (rb : Nat) (a : Option Addr) (n : Nat) (P : Int) (k : Nat) (wr : World) : Prop :=
  (k = 0 ∧ Blk wr rb #[.pointer none, .pointer none, .pointer none] 41) ∨
  (k = 1 ∧ ∃ b0, Blk wr rb #[pt b0, .pointer none, .pointer none] 41 ∧ IsRd wr b0 (.slice a n n) P 0 0 ∧ rb < b0) ∨
  (k = 2 ∧ ∃ b0 b1, Blk wr rb #[pt b0, pt b1, .pointer none] 41 ∧ IsRd wr b0 (.slice a n n) P 0 0 ∧ IsRd wr b1 (.slice a n n) P 0 0 ∧ rb < b0 ∧ b0 < b1) ∨
  (k = 3 ∧ ∃ b0 b1 b2, Blk wr rb #[pt b0, pt b1, pt b2] 41 ∧ IsRd wr b0 (.slice a n n) P 0 0 ∧ IsRd wr b1 (.slice a n n) P 0 0 ∧ IsRd wr b2 (.slice a n n) P 0 0 ∧ rb < b0 ∧ b0 < b1 ∧ b1 < b2)

theorem rd_far {w : World} {b : Nat} {s : Value} {p c q : Int} (h : IsRd w b s p c q) {a : Addr} (ha : b ≠ a.block) (v : Value) : IsRd (w.setCell a v) b s p c q := (Below.heap_setCell w a v b ha).trans h

/-- The readers, and the document's one. -/
def Pk (rb b0 b1 b2 cb : Nat) (a : Option Addr) (n m : Nat) (P : Int) (w : World) : Prop :=
  Blk w rb #[pt b0, pt b1, pt b2] 41 ∧ IsRd w b0 (.slice a n n) P 0 0 ∧ IsRd w b1 (.slice a n n) P 0 0 ∧ IsRd w b2 (.slice a n n) P 0 0 ∧ Blk w cb #[.slice a n m, .int .i64 P, .int .i64 0, .int .i64 0] 45
theorem Pk.below {rb b0 b1 b2 cb : Nat} {a : Option Addr} {n m : Nat} {P : Int} {w w1 : World} (h : Pk rb b0 b1 b2 cb a n m P w) (hb : Below w.heap.size w w1) : Pk rb b0 b1 b2 cb a n m P w1 :=
  ⟨h.1.below hb, h.2.1.below hb, h.2.2.1.below hb, h.2.2.2.1.below hb, h.2.2.2.2.below hb⟩
abbrev cc (a : Option Addr) (n m : Nat) (p c q : Int) : Array Value := #[.slice a n m, .int .i64 p, .int .i64 c, .int .i64 q]


theorem below_one' (w : World) : Below w.heap.size w w.drew := ⟨rfl, rfl, rfl, Nat.le_refl _, fun _ _ => rfl⟩

set_option maxRecDepth 100000 in
set_option maxHeartbeats 6000000 in
theorem walk {H : Type} (enc : TypeId × Value → H) (w : World) (base : Nat) (v0 : Value) (d0 : DataW H) (p0 : List MemPlace) (g0 : Value.okWide Try.prog w .any base 23 v0) (h0 : DataW.Trod enc Try.prog w 0 (fun _ => true) true 23 v0 d0 p0) (v1 : Value) (d1 : DataW H) (p1 : List MemPlace) (g1 : Value.okWide Try.prog w .any base 3 v1) (h1 : DataW.Trod enc Try.prog w 0 (fun _ => true) true 3 v1 d1 p1) (v2 : Value) (d2 : DataW H) (p2 : List MemPlace) (g2 : Value.okWide Try.prog w .any base 3 v2) (h2 : DataW.Trod enc Try.prog w 0 (fun _ => true) true 3 v2 d2 p2) :
    Calls Try.prog 4 #[v0, v1, v2] w fun e w' => e = .returned (.bool true) ∧ Below w.heap.size w w' := by
  obtain ⟨a, n, m, z, rfl, hnm, hz, hby, _⟩ := open_bytes g0 h0
  obtain ⟨at0, rfl, t0, t1⟩ := open_i64 g1 h1
  obtain ⟨mo, rfl, m0, m1⟩ := open_i64 g2 h2
  clear g0 h0 g1 h1 g2 h2
  by_cases hn : 300 < (n : Int)
  · go_enter Try.func4, Try.ntmps4
    go_wp2_with fail
    refine (live4_any _).mono ?_
    rintro e w1 ⟨rfl, hb⟩
    go_wp2
    go_ret
    exact ⟨rfl, hb⟩
  · have HBY := Lib.hid hby
    clear hby
    go_enter Try.func4, Try.ntmps4
    go_wp2_with fail
    have hP : 0 ≤ min (max at0 0) (n : Int) ∧ min (max at0 0) (n : Int) ≤ n := by omega
    generalize min (max at0 0) (n : Int) = P at *
    obtain ⟨p0, p1⟩ := hP
    have hget := vget_any a n m z w hz hnm (by omega) HBY.out
    have hget2 := fun w' hb => rget_any a n m z w' (Bs.below hz hb) (by omega) HBY.out
    unfold gv at hget hget2
    generalize vgo z 0 0 = g at *
    obtain ⟨x, k, gc, ga⟩ := g
    simp only at hget hget2
    have HG2 := Lib.hid hget2
    clear hget2
    refine hget.mono ?_
    rintro e w1 ⟨rfl, hb1⟩
    have hbA := hb1.trans ((below_one w1 (.cells #[.int .i64 gc, .int .i64 ga] 37)).mono hb1.size)
    have hF := Blk.new w1 #[.int .i64 gc, .int .i64 ga] 37
    clear hget hb1
    go_wp2_with fail
    refine (HG2.out _ hbA).mono ?_
    rintro e w2 ⟨rfl, hb2⟩
    have hbB := hbA.trans (hb2.mono hbA.size)
    have hF2 := (hF.below hb2).alloc (.cells #[.int .i64 gc, .int .i64 ga] 37)
    have hbC := hbB.trans ((below_one w2 (.cells #[.int .i64 gc, .int .i64 ga] 37)).mono hbB.size)
    obtain ⟨c0, c1⟩ := hF2.c2
    clear hF hb2 hbB hbA HG2 hF2
    have hblk : Blk ((w2.alloc (.cells #[.int .i64 gc, .int .i64 ga] 37)).alloc (.cells #[.pointer none, .pointer none, .pointer none] 41)) (w2.heap.size + 1) #[.pointer none, .pointer none, .pointer none] 41 := by
      have := Blk.new (w2.alloc (.cells #[.int .i64 gc, .int .i64 ga] 37)) #[.pointer none, .pointer none, .pointer none] 41
      simpa using this
    have hbD := hbC.trans ((below_one _ (.cells #[.pointer none, .pointer none, .pointer none] 41)).mono hbC.size)
    have hrb : w.heap.size ≤ w2.heap.size + 1 := by have := hbC.size; simp at this; omega
    clear hbC
    go_wp2_with fail
    clear c0 c1
    generalize (w2.alloc (.cells #[.int .i64 gc, .int .i64 ga] 37)).alloc (.cells #[.pointer none, .pointer none, .pointer none] 41) = w4 at *
    generalize w2.heap.size + 1 = rb at *
    go_loopw [14] (fun i wr => ∃ k : Nat, k ≤ 3 ∧ i = .int .i64 k ∧ RS rb a n P k wr ∧ Below w.heap.size w wr) (fun i _ => 3 - (intOf i).toNat)
    case atStart => exact ⟨0, by omega, rfl, .inl ⟨rfl, hblk⟩, hbD⟩
    case round =>
      obtain ⟨kk, hkk, rfl, hrs, hbd⟩ := hrel
      clear hblk hbD
      rcases hrs with ⟨rfl, hblk⟩ | ⟨rfl, b0, hblk, r0, l0⟩ | ⟨rfl, b0, b1, hblk, r0, r1, l0, l1⟩ | ⟨rfl, b0, b1, b2, hblk, r0, r1, r2, l0, l1, l2⟩
      · rw [show ((0 : Nat) : Int) = 0 from rfl]
        obtain ⟨x0, x1, x2⟩ := hblk.c3
        have f0 := hblk.free 0
        have hw := hbd.size
        go_wp2_with fail
        refine (new_some _ _ _ _ hnm).mono ?_
        rintro e w1 ⟨b, rfl, hb, hb1, hr⟩
        have hblk1 := hblk.below hb1
        have hset := hblk1.set 0 (pt b)
        have hr2 := rd_far hr (a := ⟨rb, 0, none⟩) (by have := hblk.lt; show b ≠ rb; omega) (pt b)
        have hbd1 := hbd.trans (hb1.mono hbd.size)
        have hbd2 : Below w.heap.size w (w1.setCell ⟨rb, 0, none⟩ (pt b)) := Below.setCell hbd1 hrb _
        have hbr : rb < b := by have := hblk.lt; omega
        obtain ⟨y0, y1, y2⟩ := hblk1.c3
        have f1 := hblk1.free 0
        obtain ⟨s0, s1, s2⟩ := hset.c3
        clear x0 x1 x2 f0
        go_wp2_with fail
        refine (skip_any _ _ _ _ _ _ _ _ _ hr2 (Int.le_refl _) (by omega) (by omega)).mono ?_
        rintro e w3 ⟨ok, p', c', q', rfl, hk3, hr3, hs⟩
        obtain ⟨rfl, rfl, rfl, rfl⟩ := skip_yes hs p0 (by omega)
        have hset3 := blk_kp hset hk3 (by omega)
        have hbd3 := Kp.below hbd2 (Nat.le_refl _) hk3 (by omega)
        rw [Int.zero_add] at hr3
        clear hs hset hr hr2 hblk1 hbd1 hbd2 y0 y1 y2 f1 s0 s1 s2
        go_wp2
        go_roundw
        case rel => exact ⟨1, by omega, rfl, .inr (.inl ⟨rfl, b, hset3, hr3, hbr⟩), hbd3⟩
        case measure => simp [intOf]
      · rw [show ((1 : Nat) : Int) = 1 from rfl]
        obtain ⟨x0, x1, x2⟩ := hblk.c3
        have f0 := hblk.free 1
        have hw := hbd.size
        go_wp2_with fail
        refine (new_some _ _ _ _ hnm).mono ?_
        rintro e w1 ⟨b, rfl, hb, hb1, hr⟩
        have hblk1 := hblk.below hb1
        have hset := hblk1.set 1 (pt b)
        have hr2 := rd_far hr (a := ⟨rb, 1, none⟩) (by have := hblk.lt; show b ≠ rb; omega) (pt b)
        have hbd1 := hbd.trans (hb1.mono hbd.size)
        have hbd2 : Below w.heap.size w (w1.setCell ⟨rb, 1, none⟩ (pt b)) := Below.setCell hbd1 hrb _
        have hbr : rb < b := by have := hblk.lt; omega
        obtain ⟨y0, y1, y2⟩ := hblk1.c3
        have f1 := hblk1.free 1
        obtain ⟨s0, s1, s2⟩ := hset.c3
        clear x0 x1 x2 f0
        go_wp2_with fail
        refine (skip_any _ _ _ _ _ _ _ _ _ hr2 (Int.le_refl _) (by omega) (by omega)).mono ?_
        rintro e w3 ⟨ok, p', c', q', rfl, hk3, hr3, hs⟩
        obtain ⟨rfl, rfl, rfl, rfl⟩ := skip_yes hs p0 (by omega)
        have hset3 := blk_kp hset hk3 (by omega)
        have hbd3 := Kp.below hbd2 (Nat.le_refl _) hk3 (by omega)
        rw [Int.zero_add] at hr3
        clear hs hset hr hr2 hblk1 hbd1 hbd2 y0 y1 y2 f1 s0 s1 s2
        go_wp2
        go_roundw
        case rel => exact ⟨2, by omega, rfl, .inr (.inr (.inl ⟨rfl, b0, b, hset3, (by have := r0.lt; exact (rd_far (r0.below hb1) (by show b0 ≠ rb; omega) _).kp hk3 (by omega)), hr3, l0, (by have := r0.lt; omega)⟩)), hbd3⟩
        case measure => simp [intOf]
      · rw [show ((2 : Nat) : Int) = 2 from rfl]
        obtain ⟨x0, x1, x2⟩ := hblk.c3
        have f0 := hblk.free 2
        have hw := hbd.size
        go_wp2_with fail
        refine (new_some _ _ _ _ hnm).mono ?_
        rintro e w1 ⟨b, rfl, hb, hb1, hr⟩
        have hblk1 := hblk.below hb1
        have hset := hblk1.set 2 (pt b)
        have hr2 := rd_far hr (a := ⟨rb, 2, none⟩) (by have := hblk.lt; show b ≠ rb; omega) (pt b)
        have hbd1 := hbd.trans (hb1.mono hbd.size)
        have hbd2 : Below w.heap.size w (w1.setCell ⟨rb, 2, none⟩ (pt b)) := Below.setCell hbd1 hrb _
        have hbr : rb < b := by have := hblk.lt; omega
        obtain ⟨y0, y1, y2⟩ := hblk1.c3
        have f1 := hblk1.free 2
        obtain ⟨s0, s1, s2⟩ := hset.c3
        clear x0 x1 x2 f0
        go_wp2_with fail
        refine (skip_any _ _ _ _ _ _ _ _ _ hr2 (Int.le_refl _) (by omega) (by omega)).mono ?_
        rintro e w3 ⟨ok, p', c', q', rfl, hk3, hr3, hs⟩
        obtain ⟨rfl, rfl, rfl, rfl⟩ := skip_yes hs p0 (by omega)
        have hset3 := blk_kp hset hk3 (by omega)
        have hbd3 := Kp.below hbd2 (Nat.le_refl _) hk3 (by omega)
        rw [Int.zero_add] at hr3
        clear hs hset hr hr2 hblk1 hbd1 hbd2 y0 y1 y2 f1 s0 s1 s2
        go_wp2
        go_roundw
        case rel => exact ⟨3, by omega, rfl, .inr (.inr (.inr ⟨rfl, b0, b1, b, hset3, (by have := r0.lt; exact (rd_far (r0.below hb1) (by show b0 ≠ rb; omega) _).kp hk3 (by omega)), (by have := r1.lt; exact (rd_far (r1.below hb1) (by show b1 ≠ rb; omega) _).kp hk3 (by omega)), hr3, l0, l1, (by have := r1.lt; omega)⟩)), hbd3⟩
        case measure => simp [intOf]
      · rw [show ((3 : Nat) : Int) = 3 from rfl]
        clear hkk
        have hw5 := hbd.size
        obtain ⟨x0, x1, x2⟩ := hblk.c3
        go_wp2_with fail
        refine (rread_any _ _ _ _ _ _ _ _ (hz.below (hbd.trans ((below_one wr _).mono hw5))) p0 p1 hnm (by omega) HBY.out).mono ?_
        rintro e w5 ⟨v0, p5, c5, q5, rfl, hb5, hs5⟩
        have HS5 := Lib.hid hs5
        have hbw := (below_one wr (.cells (cc a n m P 0 0) 45)).trans (hb5.mono (by simp))
        have hP5 : Pk rb b0 b1 b2 wr.heap.size a n m P w5 := ⟨hblk.below hbw, r0.below hbw, r1.below hbw, r2.below hbw, (Blk.new wr (cc a n m P 0 0) 45).below hb5⟩
        have hbd5 := hbd.trans (hbw.mono hw5)
        have l3 : b2 < wr.heap.size := r2.lt
        have l4 : wr.heap.size < w5.heap.size := by have := hP5.2.2.2.2.lt; omega
        clear hs5 hb5 hblk r0 r1 r2 x0 x1 x2 hbw hbd
        have hP6 := hP5.below (below_one w5 (.cells (cc a n m p5 c5 q5) 45))
        have hX6 := Blk.new w5 (cc a n m p5 c5 q5) 45
        have hbd6 := hbd5.trans ((below_one w5 (.cells (cc a n m p5 c5 q5) 45)).mono hbd5.size)
        obtain ⟨y0, y1, y2, y3⟩ := hP6.2.2.2.2.c4
        clear hP5 hbd5
        go_wp2_with fail
        generalize w5.alloc (.cells (cc a n m p5 c5 q5) 45) = w6 at *
        generalize w5.heap.size = xa at *
        generalize wr.heap.size = cb at *
        refine (rmost_any _ _ _ _ _ _ _ _ _ (hz.below hbd6) p0 p1 hnm (by omega) HBY.out).mono ?_
        rintro e w7 ⟨v1, p7, c7, q7, rfl, hb7, hs7⟩
        have HS7 := Lib.hid hs7
        have hP8 := (hP6.below hb7).below (below_one w7 (.cells (cc a n m p7 c7 q7) 45))
        have hX8 := (hX6.below hb7).alloc (.cells (cc a n m p7 c7 q7) 45)
        have hY8 := Blk.new w7 (cc a n m p7 c7 q7) 45
        have hbd7 := hbd6.trans (hb7.mono hbd6.size)
        have hbd8 := hbd7.trans ((below_one w7 (.cells (cc a n m p7 c7 q7) 45)).mono hbd7.size)
        have l5 : xa < w7.heap.size := (hX6.below hb7).lt
        clear hs7 hb7 hP6 hX6 hbd6 hbd7 y0 y1 y2 y3
        obtain ⟨y0, y1, y2, y3⟩ := hP8.2.2.2.2.c4
        go_wp2_with fail
        generalize w7.alloc (.cells (cc a n m p7 c7 q7) 45) = w8 at *
        generalize w7.heap.size = xb at *
        refine (rint_any _ _ _ _ _ _ _ _ _ (hz.below hbd8) p0 p1 hnm (by omega) HBY.out m1).mono ?_
        rintro e w9 ⟨v2, p9, c9, q9, rfl, hb9, hs9⟩
        have HS9 := Lib.hid hs9
        have hP10 := (hP8.below hb9).below (below_one w9 (.cells (cc a n m p9 c9 q9) 45))
        have hX10 := (hX8.below hb9).alloc (.cells (cc a n m p9 c9 q9) 45)
        have hY10 := (hY8.below hb9).alloc (.cells (cc a n m p9 c9 q9) 45)
        have hZ10 := Blk.new w9 (cc a n m p9 c9 q9) 45
        have hbd9 := hbd8.trans (hb9.mono hbd8.size)
        have hbd10 := hbd9.trans ((below_one w9 (.cells (cc a n m p9 c9 q9) 45)).mono hbd9.size)
        have l6 : xb < w9.heap.size := (hY8.below hb9).lt
        clear hs9 hb9 hP8 hX8 hY8 hbd8 hbd9 y0 y1 y2 y3
        obtain ⟨hA, r0, r1, r2, _⟩ := hP10
        obtain ⟨y0, y1, y2⟩ := hA.c3
        go_wp2_with fail
        generalize w9.alloc (.cells (cc a n m p9 c9 q9) 45) = w10 at *
        generalize w9.heap.size = xc at *
        refine (vread_any _ _ _ _ _ _ _ _ _ r0 (hz.below hbd10) p0 p1 (by omega) HBY.out).mono ?_
        rintro e w11 ⟨v', p', c', q', rfl, hk, hr0, hs⟩
        obtain ⟨rfl, rfl, rfl, rfl⟩ := hs.det HS5.out
        have hA11 := blk_kp hA hk (by omega)
        have r11 := r1.kp hk (by omega)
        have r12 := r2.kp hk (by omega)
        have hX11 := blk_kp hX10 hk (by omega)
        have hY11 := blk_kp hY10 hk (by omega)
        have hZ11 := blk_kp hZ10 hk (by omega)
        have hbd11 := Kp.below hbd10 (Nat.le_refl _) hk (by omega)
        clear hs hk hA r0 r1 r2 hX10 hY10 hZ10 hbd10 y0 y1 y2 HS5
        obtain ⟨y0, y1, y2⟩ := hA11.c3
        go_wp2_with fail
        refine (vmost_any _ _ _ _ _ _ _ _ _ _ r11 (hz.below hbd11) p0 p1 (by omega) HBY.out).mono ?_
        rintro e w12 ⟨v'', p'', c'', q'', rfl, hk, hr1, hs⟩
        obtain ⟨rfl, rfl, rfl, rfl⟩ := hs.det HS7.out
        have hA12 := blk_kp hA11 hk (by omega)
        have r20 := hr0.kp hk (by omega)
        have r22 := r12.kp hk (by omega)
        have hX12 := blk_kp hX11 hk (by omega)
        have hY12 := blk_kp hY11 hk (by omega)
        have hZ12 := blk_kp hZ11 hk (by omega)
        have hbd12 := Kp.below hbd11 (Nat.le_refl _) hk (by omega)
        clear hs hk hA11 hr0 r11 r12 hX11 hY11 hZ11 hbd11 y0 y1 y2 HS7
        obtain ⟨y0, y1, y2⟩ := hA12.c3
        go_wp2_with fail
        refine (vint_any _ _ _ _ _ _ _ _ _ _ r22 (hz.below hbd12) p0 p1 (by omega) HBY.out m1).mono ?_
        rintro e w13 ⟨v3, p3, c3, q3, rfl, hk, hr2, hs⟩
        obtain ⟨rfl, rfl, rfl, rfl⟩ := hs.det HS9.out
        have r2 := hr2
        have hA := blk_kp hA12 hk (by omega)
        have r0 := r20.kp hk (by omega)
        have r1 := hr1.kp hk (by omega)
        have hX := blk_kp hX12 hk (by omega)
        have hY := blk_kp hY12 hk (by omega)
        have hZ := blk_kp hZ12 hk (by omega)
        have hbd := Kp.below hbd12 (Nat.le_refl _) hk (by omega)
        clear hs hk hA12 r20 hr1 hr2 r22 hX12 hY12 hZ12 hbd12 y0 y1 y2 HS9
        obtain ⟨y0, y1, y2⟩ := hA.c3
        clear hz HBY hrb l0 l1 l2 l3 l4 l5 l6 hnm p0 p1 t0 t1 m0 m1 hw5
        go_wp2_with fail
        clear y0 y1 y2
        have hbd' := hbd
        have L0 : ∀ w', Below w13.heap.size w13 w' → w'.cell? ⟨rb, 0, none⟩ = some (pt b0) ∧ w'.cell? ⟨rb, 1, none⟩ = some (pt b1) ∧ w'.cell? ⟨rb, 2, none⟩ = some (pt b2) := fun w' h => (hA.below h).c3
        have L1 : ∀ w', Below w13.heap.size w13 w' → w'.cell? ⟨xa, 0, none⟩ = some (.slice a n m) ∧ w'.cell? ⟨xa, 1, none⟩ = some (.int .i64 p') ∧ w'.cell? ⟨xa, 2, none⟩ = some (.int .i64 c') ∧ w'.cell? ⟨xa, 3, none⟩ = some (.int .i64 q') := fun w' h => (hX.below h).c4
        have L2 : ∀ w', Below w13.heap.size w13 w' → w'.cell? ⟨xb, 0, none⟩ = some (.slice a n m) ∧ w'.cell? ⟨xb, 1, none⟩ = some (.int .i64 p'') ∧ w'.cell? ⟨xb, 2, none⟩ = some (.int .i64 c'') ∧ w'.cell? ⟨xb, 3, none⟩ = some (.int .i64 q'') := fun w' h => (hY.below h).c4
        have L3 : ∀ w', Below w13.heap.size w13 w' → w'.cell? ⟨xc, 0, none⟩ = some (.slice a n m) ∧ w'.cell? ⟨xc, 1, none⟩ = some (.int .i64 p3) ∧ w'.cell? ⟨xc, 2, none⟩ = some (.int .i64 c3) ∧ w'.cell? ⟨xc, 3, none⟩ = some (.int .i64 q3) := fun w' h => (hZ.below h).c4
        have hS : Below w13.heap.size w13 w13.drew := below_one' _
        clear hA hX hY hZ hbd
        have hlt : w.heap.size ≤ w13.heap.size := hbd'.size
        refine Seq.wp_region_seq (fun w' => Below w13.heap.size w13 w') (by kernel_rfl) (by kernel_rfl) hS ?_
        repeat (first | (refine Seq.Seq.skip (by rfl) ?_; (try simp only [Act.put, List.setIfInBounds_toArray, List.set_cons_zero, List.set_cons_succ])) | (refine Seq.Seq.det ?_ (by rfl) (fun w hS => ?_) ?_; rotate_left; ((try dsimp only at hS); go_simp; with_reducible rfl); (try simp only [Act.put, List.setIfInBounds_toArray, List.set_cons_zero, List.set_cons_succ])))
        refine Seq.Seq.make (by rfl) (by rfl) (fun K Q' hK => ?_)
        go_simp
        (go_at_call 26; refine (fault_any b0 _ _ _ _ _ (r0.below hS)).mono ?_)
        rintro e w1 ⟨rfl, hb⟩
        have hS := hS.trans (hb.mono hS.size)
        refine hK.out _ _ hS ?_
        clear hK K hb
        try simp only [Act.put, List.setIfInBounds_toArray, List.set_cons_zero, List.set_cons_succ]
        repeat (first | (refine Seq.Seq.skip (by rfl) ?_; (try simp only [Act.put, List.setIfInBounds_toArray, List.set_cons_zero, List.set_cons_succ])) | (refine Seq.Seq.det ?_ (by rfl) (fun w hS => ?_) ?_; rotate_left; ((try dsimp only at hS); go_simp; with_reducible rfl); (try simp only [Act.put, List.setIfInBounds_toArray, List.set_cons_zero, List.set_cons_succ])))
        refine Seq.Seq.make (by rfl) (by rfl) (fun K Q' hK => ?_)
        go_simp
        (go_at_call 26; refine (fault_any b1 _ _ _ _ _ (r1.below hS)).mono ?_)
        rintro e w1 ⟨rfl, hb⟩
        have hS := hS.trans (hb.mono hS.size)
        refine hK.out _ _ hS ?_
        clear hK K hb
        try simp only [Act.put, List.setIfInBounds_toArray, List.set_cons_zero, List.set_cons_succ]
        repeat (first | (refine Seq.Seq.skip (by rfl) ?_; (try simp only [Act.put, List.setIfInBounds_toArray, List.set_cons_zero, List.set_cons_succ])) | (refine Seq.Seq.det ?_ (by rfl) (fun w hS => ?_) ?_; rotate_left; ((try dsimp only at hS); go_simp; with_reducible rfl); (try simp only [Act.put, List.setIfInBounds_toArray, List.set_cons_zero, List.set_cons_succ])))
        refine Seq.Seq.make (by rfl) (by rfl) (fun K Q' hK => ?_)
        go_simp
        (go_at_call 26; refine (fault_any b2 _ _ _ _ _ (r2.below hS)).mono ?_)
        rintro e w1 ⟨rfl, hb⟩
        have hS := hS.trans (hb.mono hS.size)
        refine hK.out _ _ hS ?_
        clear hK K hb
        try simp only [Act.put, List.setIfInBounds_toArray, List.set_cons_zero, List.set_cons_succ]
        repeat (first | (refine Seq.Seq.skip (by rfl) ?_; (try simp only [Act.put, List.setIfInBounds_toArray, List.set_cons_zero, List.set_cons_succ])) | (refine Seq.Seq.det ?_ (by rfl) (fun w hS => ?_) ?_; rotate_left; ((try dsimp only at hS); go_simp; with_reducible rfl); (try simp only [Act.put, List.setIfInBounds_toArray, List.set_cons_zero, List.set_cons_succ])))
        by_cases hc : c' = 0
        · subst hc
          repeat (first | (refine Seq.Seq.skip (by rfl) ?_; (try simp only [Act.put, List.setIfInBounds_toArray, List.set_cons_zero, List.set_cons_succ])) | (refine Seq.Seq.det ?_ (by rfl) (fun w hS => ?_) ?_; rotate_left; ((try dsimp only at hS); go_simp; with_reducible rfl); (try simp only [Act.put, List.setIfInBounds_toArray, List.set_cons_zero, List.set_cons_succ])))
          refine Seq.Seq.make (by rfl) (by rfl) (fun K Q' hK => ?_)
          go_simp
          (go_at_call 27; refine (at_any b0 _ _ _ _ _ (r0.below hS)).mono ?_)
          rintro e w1 ⟨rfl, rfl⟩
          refine hK.out _ _ hS ?_
          clear hK K
          try simp only [Act.put, List.setIfInBounds_toArray, List.set_cons_zero, List.set_cons_succ]
          repeat (first | (refine Seq.Seq.skip (by rfl) ?_; (try simp only [Act.put, List.setIfInBounds_toArray, List.set_cons_zero, List.set_cons_succ])) | (refine Seq.Seq.det ?_ (by rfl) (fun w hS => ?_) ?_; rotate_left; ((try dsimp only at hS); go_simp; with_reducible rfl); (try simp only [Act.put, List.setIfInBounds_toArray, List.set_cons_zero, List.set_cons_succ])))
          refine Seq.Seq.make (by rfl) (by rfl) (fun K Q' hK => ?_)
          go_simp
          (go_at_call 7; refine (live4_any _).mono ?_)
          rintro e w1 ⟨rfl, hb⟩
          have hS := hS.trans (hb.mono hS.size)
          refine hK.out _ _ hS ?_
          clear hK K hb
          try simp only [Act.put, List.setIfInBounds_toArray, List.set_cons_zero, List.set_cons_succ]
          repeat (first | (refine Seq.Seq.skip (by rfl) ?_; (try simp only [Act.put, List.setIfInBounds_toArray, List.set_cons_zero, List.set_cons_succ])) | (refine Seq.Seq.det ?_ (by rfl) (fun w hS => ?_) ?_; rotate_left; ((try dsimp only at hS); go_simp; with_reducible rfl); (try simp only [Act.put, List.setIfInBounds_toArray, List.set_cons_zero, List.set_cons_succ])))
          refine Seq.Seq.nil ?_
          go_wp2
          go_ret
          exact ⟨rfl, hbd'.trans (hS.mono hlt)⟩
        · have hcb : (c' != 0) = true := by simpa using hc
          simp only [hcb]
          repeat (first | (refine Seq.Seq.skip (by rfl) ?_; (try simp only [Act.put, List.setIfInBounds_toArray, List.set_cons_zero, List.set_cons_succ])) | (refine Seq.Seq.det ?_ (by rfl) (fun w hS => ?_) ?_; rotate_left; ((try dsimp only at hS); go_simp; with_reducible rfl); (try simp only [Act.put, List.setIfInBounds_toArray, List.set_cons_zero, List.set_cons_succ])))
          refine Seq.Seq.make (by rfl) (by rfl) (fun K Q' hK => ?_)
          go_simp
          (go_at_call 7; refine (live4_any _).mono ?_)
          rintro e w1 ⟨rfl, hb⟩
          have hS := hS.trans (hb.mono hS.size)
          refine hK.out _ _ hS ?_
          clear hK K hb
          try simp only [Act.put, List.setIfInBounds_toArray, List.set_cons_zero, List.set_cons_succ]
          repeat (first | (refine Seq.Seq.skip (by rfl) ?_; (try simp only [Act.put, List.setIfInBounds_toArray, List.set_cons_zero, List.set_cons_succ])) | (refine Seq.Seq.det ?_ (by rfl) (fun w hS => ?_) ?_; rotate_left; ((try dsimp only at hS); go_simp; with_reducible rfl); (try simp only [Act.put, List.setIfInBounds_toArray, List.set_cons_zero, List.set_cons_succ])))
          refine Seq.Seq.nil ?_
          go_wp2
          go_ret
          exact ⟨rfl, hbd'.trans (hS.mono hlt)⟩

set_option maxRecDepth 100000 in
theorem lifted (os : Os) (started : os.Started) (H : Type) (enc : TypeId × Value → H) :
    ReturnsInHanded {} Try.checked os 4 .any (Rows.varintReadsSpec.pre6 enc Try.prog Try.f4 Rows.varintReadsRow.domain false) (Rows.varintReadsSpec.post enc Try.prog Try.f4 false true false false) := by
  refine returnsInHanded_of_change (C := Try.checked) own started (by kernel_rfl) Try.func4
    (ChangeSpec.witness6 (enc := enc) (C := Try.checked) false ⟨#[], #[.slice none 0 0, .int .i64 0, .int .i64 0], []⟩ 8 (by kernel_rfl) (by kernel_rfl) (by kernel_rfl) (by kernel_rfl)) ?_
  intro W base args ds gs before hval0 hW hcnd _
  have hval : ∀ (j : Nat) t v, Try.f4.params[j]? = some t → args[j]? = some v → Value.okWide Try.prog W .any base t v := hval0
  have hW' := hW
  obtain ⟨p, q, hA0, hV, rfl, hfz, hnd⟩ := hW
  have hA : DataW.TrodAll enc Try.prog W 0 (fun _ => true) true Try.f4.params.toList args.toList ds p := hA0
  rw [Try.params4] at hA hval
  obtain ⟨v0, vs0, d0, ds0, p0, q0, hargs, rfl, rfl, h0, r0⟩ := trodAll_cons hA
  obtain ⟨v1, vs1, d1, ds1, p1, q1, rfl, rfl, rfl, h1, r1⟩ := trodAll_cons r0
  obtain ⟨v2, vs2, d2, ds2, p2, q2, rfl, rfl, rfl, h2, r2⟩ := trodAll_cons r1
  obtain ⟨rfl, rfl, rfl⟩ := trodAll_nil r2
  obtain rfl : args = #[v0, v1, v2] := by cases args; simp_all
  obtain ⟨rfl, rfl⟩ := trodVars_none hV
  have lt0 : ∀ x ∈ p0, x.block < W.heap.size := by obtain ⟨m, hm⟩ := h0; exact DataW.trod_lt m _ _ _ hm
  have lt1 : ∀ x ∈ p1, x.block < W.heap.size := by obtain ⟨m, hm⟩ := h1; exact DataW.trod_lt m _ _ _ hm
  have lt2 : ∀ x ∈ p2, x.block < W.heap.size := by obtain ⟨m, hm⟩ := h2; exact DataW.trod_lt m _ _ _ hm
  clear hA0 hval0
  refine (walk enc W base v0 d0 p0 (hval 0 23 v0 rfl rfl) h0 v1 d1 p1 (hval 1 3 v1 rfl rfl) h1 v2 d2 p2 (hval 2 3 v2 rfl rfl) h2).mono fun e W' ⟨he, bel⟩ => ?_
  subst he
  exact ⟨_, rfl, _, _, _, [], _, [], hW', trodAll_mk1 (shut_bool Try.underlying4 _), (trodAll_cons_mk (Below.trod laidOut (by kernel_rfl) (of_decide_eq_true (by kernel_rfl)) h0 bel lt0) (trodAll_cons_mk (Below.trod laidOut (by kernel_rfl) (of_decide_eq_true (by kernel_rfl)) h1 bel lt1) (trodAll_cons_mk (Below.trod laidOut (by kernel_rfl) (of_decide_eq_true (by kernel_rfl)) h2 bel lt2) trodAll_mk0))), rfl, bel.frame _, fun h => by cases h⟩

theorem over : Rows.varintReadsRow.holds Try.pinned (OpenSpec.ofChange Rows.varintReadsSpec) :=
  OpenClaim.holds_of_wide 4 Try.f4 rfl rfl rfl rfl rfl rfl rfl ⟨rfl, rfl, rfl, rfl, rfl⟩ rfl rfl rfl rfl rfl (by kernel_rfl) Try.func4 (by kernel_rfl)
    (of_decide_eq_true (by kernel_rfl)) (by unfold Func.isWrapper; first | (rw [if_pos (by decide +kernel)]; kernel_rfl) | (rw [if_neg (by decide +kernel)]; exact ⟨rfl, rfl⟩))
    (fun os started H enc _ => lifted os started H enc)

/-- THE STATEMENT. -/
theorem proved : Rows.VarintReadsSaid := over
#print axioms proved
end Go.Proofs.Ytkbfbdeodannmaa.varintReads
