
/- One call of a reader and of the document's one (step), third part: a part is taken from. All calls. -/
import Derived.Test.YtmbojcdliomifaaCurJ
import Derived.Deep.CutRange
import Derived.IntWalk
namespace Go.Proofs.Ytmbojcdliomifaa.Cur
open Go.RowKit Mem
set_option linter.unusedVariables false

theorem Bs.take {w : World} {A : Option Addr} {n : Nat} {z : List Int} (h : Bs w A n z) {k : Nat} (hk : k ≤ n) : Bs w A k (z.take k) :=
  ⟨by rw [List.length_take, h.1]; omega, fun hk0 => by
    obtain ⟨g, o, e, hc⟩ := h.2 (by omega)
    refine ⟨g, o, e, fun i x hx => hc i x ?_⟩
    have hi : i < k := by have := (List.getElem?_eq_some_iff.1 hx).1; rw [List.length_take] at this; omega
    rwa [List.getElem?_take_of_lt hi] at hx⟩

/-- What the part of the document's reader and the bytes taken from it are. -/
def PartRel (a : Option Addr) (k m : Nat) (z : List Int) (p N : Int) (w : World) (v17 v18 : Value) (w' : World) : Prop :=
  ∃ xb ok p' c' q' A kk M, v17 = .pointer (some ⟨xb, 0, none⟩) ∧ v18 = .slice A kk M ∧ SkipSt k p 0 0 N ok p' c' q' ∧ Bs w' A kk (if ok = true then piece (z.take k) p.toNat (p + N).toNat else []) ∧
    Blk w' xb #[.slice a k m, .int .i64 p', .int .i64 c', .int .i64 q'] 31 ∧ Below w.heap.size w w' ∧ w.heap.size ≤ xb

theorem Bs.alloc {w : World} {A : Option Addr} {n : Nat} {z : List Int} (h : Bs w A n z) (o : Obj) : Bs (w.alloc o) A n z := h.below (below_one _ _)
theorem set4 {w : World} {b : Nat} {v0 v1 v2 v3 : Value} {t : Nat} (h : Blk w b #[v0, v1, v2, v3] t) (u0 u1 u2 u3 : Value) :
    Blk ((((w.setCell ⟨b, 0, Option.none⟩ u0).setCell ⟨b, 1, Option.none⟩ u1).setCell ⟨b, 2, Option.none⟩ u2).setCell ⟨b, 3, Option.none⟩ u3) b #[u0, u1, u2, u3] t ∧
    Kp b w ((((w.setCell ⟨b, 0, Option.none⟩ u0).setCell ⟨b, 1, Option.none⟩ u1).setCell ⟨b, 2, Option.none⟩ u2).setCell ⟨b, 3, Option.none⟩ u3) :=
  ⟨(((h.set 0 u0).set 1 u1).set 2 u2).set 3 u3, (((Kp.setCell _ _ _ _).trans (Kp.setCell _ _ _ _)).trans (Kp.setCell _ _ _ _)).trans (Kp.setCell _ _ _ _)⟩
theorem Bs.kp4 {w w' : World} {A : Option Addr} {n : Nat} {z : List Int} {b : Nat} {v0 v1 v2 v3 : Value} {t : Nat} (h : Bs w A n z) (hr : Blk w b #[v0, v1, v2, v3] t) (h0 : ∀ x, v0 ≠ .int .u8 x) (h1 : ∀ x, v1 ≠ .int .u8 x) (h2 : ∀ x, v2 ≠ .int .u8 x) (h3 : ∀ x, v3 ≠ .int .u8 x) (hb : Kp b w w') : Bs w' A n z :=
  h.keep fun k o x hc => (World.cell?_of_block (w := w) (hb.block k (lt_of_cell hc) (hr.ne_of_cell hc (h0 x) (h1 x) (h2 x) (h3 x)))).trans hc
theorem Kp.new {b g : Nat} {w w1 w2 : World} (h : Kp b w w1) (k : Kp g w1 w2) (hg : w.heap.size ≤ g) : Kp b w w2 :=
  ⟨k.os.trans h.os, k.tape.trans h.tape, k.output.trans h.output, Nat.le_trans h.size k.size, fun i hi hb => (k.block i (Nat.lt_of_lt_of_le hi h.size) (by omega)).trans (h.block i hi hb)⟩
theorem below_of_drew {w w' : World} (h : Below w.drew.heap.size w.drew w') : Below w.heap.size w w' := ⟨h.os, h.tape, h.output, h.size, h.block⟩
theorem below_of_drew_alloc {w w' : World} {o : Obj} (h : Below (w.alloc o).drew.heap.size (w.alloc o).drew w') : Below w.heap.size w w' :=
  (below_one w o).trans ((below_of_drew h).mono (by simp))

set_option maxRecDepth 100000 in
set_option maxHeartbeats 800000 in
theorem step_part (b : Nat) (a : Option Addr) (n m : Nat) (z : List Int) (p c q N T : Int) (w : World) (h : IsRd w b (.slice a n n) p c q) (hz : Bs w a n z) (ha : a = none → m = 0) (h0 : 0 ≤ p) (h1 : p ≤ n) (hm : n ≤ m) (hn : n ≤ 300) :
    Calls Try.prog 9 #[.pointer (some ⟨b, 0, none⟩), cv (.slice a n m) p c q, .agg #[.int .i64 6, .int .i64 N, .int .i64 T]] w (StepPost b a n m w) := by
  have hlt := h.lt
  go_enter Try.func9, Try.ntmps9
  go_wp2_with fail
  refine (part_any _ _ _ _ _ _ _ _ _ (h.below (below_three _ _ _ _)) h0 h1 (Nat.le_refl _) hn).mono ?_
  rintro e w1 ⟨g, rfl, hg, hb, hrg⟩
  obtain ⟨hC, hD, hR, hb'⟩ := three_new hb
  have hgl : w.heap.size + 1 + 1 < g := by have := hg; simp at this; omega
  clear hb hg
  have hr1 := h.below hb'
  have hz1 := hz.below hb'
  obtain ⟨k0, k1⟩ := partEnd_le n p T h0 h1
  generalize hkk : partEnd n p T = k at *
  have HK := Lib.hid hkk
  clear hkk
  have hz2 := hz1.take k1
  have hp0 : p ≤ k := by omega
  obtain ⟨x0, x1, x2, x3⟩ := hC.c4
  obtain ⟨d0, d1, d2⟩ := hD.c3
  have t01 : w1.heap.size ≠ w.heap.size := by have := hC.lt; omega
  have t02 : w1.heap.size ≠ w.heap.size + 1 := by have := hD.lt; omega
  have s1 : ∀ o, w1.heap.size ≠ (⟨w.heap.size, o, none⟩ : Addr).block := fun o => by have := hC.lt; show w1.heap.size ≠ w.heap.size; omega
  have s2 : ∀ o, w1.heap.size ≠ (⟨w.heap.size + 1, o, none⟩ : Addr).block := fun o => by have := hD.lt; show w1.heap.size ≠ w.heap.size + 1; omega
  go_wp2_with fail
  go_cut [17, 18] from 139 to 148 (fun v17 v18 wx => PartRel a k m z p N w1 v17 v18 wx)
  case first =>
    go_region_held3 (fun w' => w'.cell? ⟨w.heap.size, 0, none⟩ = some (.slice a n m) ∧ w'.cell? ⟨w.heap.size, 1, none⟩ = some (.int .i64 p) ∧ w'.cell? ⟨w.heap.size, 2, none⟩ = some (.int .i64 c) ∧ w'.cell? ⟨w.heap.size, 3, none⟩ = some (.int .i64 q) ∧ w'.cell? ⟨w.heap.size + 1, 1, none⟩ = some (.int .i64 N) ∧ w'.cell? ⟨w.heap.size + 1, 2, none⟩ = some (.int .i64 T))
      (first
        | go_keep
        | exact sB
        | exact sC)
      (first
        | (go_at_call 25; go_must (refine (rpart_any _ _ _ _ _ _ _ _ h0 h1 hm hn).mono ?_; rintro e w2 ⟨rfl, hb2⟩; rw [HK.out]; have hB2 : Below w1.heap.size w1 w2 := (by first | exact hb2 | exact below_of_drew hb2 | exact below_of_drew_alloc hb2 | exact (below_one w1 _).trans (hb2.mono (by simp))); have hC2 := Blk.below (show Blk _ w.heap.size _ _ by first | exact hC | exact hC.alloc _) hb2; have hD2 := Blk.below (show Blk _ (w.heap.size + 1) _ _ by first | exact hD | exact hD.alloc _) hb2; have hzz2 := Bs.below (by first | exact hz2 | exact hz2.alloc _) hb2; have sB := And.intro hC2.c4.1 (And.intro hC2.c4.2.1 (And.intro hC2.c4.2.2.1 (And.intro hC2.c4.2.2.2 hD2.c3.2))); have t1 : w2.heap.size ≠ w.heap.size := (by have := hC2.lt; omega); have t2 : w2.heap.size ≠ w.heap.size + 1 := (by have := hD2.lt; omega); try ((first | (have hN := Blk.below (Blk.new w1 #[.slice none 0 0, .int .i64 0, .int .i64 0, .int .i64 0] 31).drew hb2) | (have hN := Blk.below (Blk.new _ #[.slice none 0 0, .int .i64 0, .int .i64 0, .int .i64 0] 31) hb2)); obtain ⟨y0, y1, y2, y3⟩ := hN.c4; obtain ⟨u0, u1, u2, u3⟩ := hN.f4)))
        | (go_at_call 22; go_must (refine (rtake_any _ _ _ _ _ _ _ _ _ (by first | exact hzz2 | exact hzz2.alloc _) ha h0 hp0 (by omega) (by omega)).mono ?_; rintro e w3 ⟨ok, p', c', q', A, kk, M, rfl, hb3, hs, hA, hM⟩; have hB3' : Below w2.heap.size w2 w3 := (by first | exact hb3 | exact below_of_drew hb3 | exact below_of_drew_alloc hb3 | exact (below_one w2 _).trans (hb3.mono (by simp))); have hB3 := hB2.trans (hB3'.mono hB2.size); have hC3 := Blk.below (show Blk _ w.heap.size _ _ by first | exact hC2 | exact hC2.alloc _) hb3; have hD3 := Blk.below (show Blk _ (w.heap.size + 1) _ _ by first | exact hD2 | exact hD2.alloc _) hb3; have sC := And.intro hC3.c4.1 (And.intro hC3.c4.2.1 (And.intro hC3.c4.2.2.1 (And.intro hC3.c4.2.2.2 hD3.c3.2))); have t3 : w3.heap.size ≠ w.heap.size := (by have := hC3.lt; omega); have t4 : w3.heap.size ≠ w.heap.size + 1 := (by have := hD3.lt; omega); (first | (have hN3 := Blk.below (show Blk _ _ #[.slice none 0 0, .int .i64 0, .int .i64 0, .int .i64 0] 31 by exact hN) hb3; clear y0 y1 y2 y3 u0 u1 u2 u3; obtain ⟨y0, y1, y2, y3⟩ := hN3.c4; obtain ⟨u0, u1, u2, u3⟩ := hN3.f4) | (try ((first | (have hN3 := Blk.below (Blk.new w2 #[.slice none 0 0, .int .i64 0, .int .i64 0, .int .i64 0] 31).drew hb3) | (have hN3 := Blk.below (Blk.new _ #[.slice none 0 0, .int .i64 0, .int .i64 0, .int .i64 0] 31) hb3)); obtain ⟨y0, y1, y2, y3⟩ := hN3.c4; obtain ⟨u0, u1, u2, u3⟩ := hN3.f4)))))
        | fail)
    all_goals
      go_wp2
      go_meet
    case rel =>
      exact ⟨_, ok, p', c', q', A, kk, M, rfl, rfl, hs, hA.alloc _, Blk.new _ _ _, hB3.trans ((below_one _ _).mono hB3.size), hB3.size⟩
    case rel =>
      obtain ⟨e1, e2⟩ := set4 hN3 (.slice a k m) (.int .i64 p') (.int .i64 c') (.int .i64 q')
      exact ⟨_, ok, p', c', q', A, kk, M, rfl, rfl, hs, hA.kp4 hN3 (by simp) (by simp) (by simp) (by simp) e2, e1, Kp.below hB3 (Nat.le_refl _) e2 hB2.size, hB2.size⟩
    case rel =>
      obtain ⟨e1, e2⟩ := set4 hN3 (.slice a k m) (.int .i64 p') (.int .i64 c') (.int .i64 q')
      exact ⟨_, ok, p', c', q', A, kk, M, rfl, rfl, hs, hA.kp4 hN3 (by simp) (by simp) (by simp) (by simp) e2, e1, Kp.below hB3 (Nat.le_refl _) e2 (Nat.le_refl _), Nat.le_refl _⟩
  case rest =>
    obtain ⟨xb, ok, p', c', q', A, kk, M, rfl, rfl, hs, hA, hX, hBx, hxl⟩ := hcut
    have hCx := hC.below hBx
    have hDx := hD.below hBx
    have hRx := hR.below hBx
    have hrgx := hrg.below hBx
    have hrx := hr1.below hBx
    have hzx := hz2.below hBx
    have hk0 := (Kp.of_below (b := b) hb').trans (Kp.of_below hBx)
    have hgs : w.heap.size ≤ g := by omega
    have n1 : xb ≠ g := by have := hrg.lt; omega
    have n2 : w.heap.size ≠ g := by omega
    have n3 : w.heap.size + 1 ≠ g := by omega
    have n4 : w.heap.size + 1 + 1 ≠ g := by omega
    have n5 : b ≠ g := by omega
    have n6 : w.heap.size + 1 + 1 ≠ xb := by have := hR.lt; omega
    have n7 : w.heap.size + 1 + 1 ≠ w.heap.size := by omega
    have hbr : w.heap.size + 1 + 1 ≠ b := by omega
    clear hC hD hR hrg hr1 hz2 hz1 hb' x0 x1 x2 x3 d0 d1 d2 s1 s2 t01 t02 hBx
    obtain ⟨x0, x1, x2, x3⟩ := hX.c4
    obtain ⟨c0, c1, c2, c3⟩ := hCx.c4
    obtain ⟨d0, d1, d2⟩ := hDx.c3
    obtain ⟨p'0, p'1⟩ := hs.range h0 hp0
    have hwr : IntKind.i64.wrap ((k : Int) - p') = (k : Int) - p' := IntWalk.i64_in _ (by omega)
    go_wp2_with fail
    go_region_held3 (fun w' => w'.cell? ⟨w.heap.size, 0, none⟩ = some (.slice a n m) ∧ w'.cell? ⟨w.heap.size, 1, none⟩ = some (.int .i64 p) ∧ w'.cell? ⟨w.heap.size, 2, none⟩ = some (.int .i64 c) ∧ w'.cell? ⟨w.heap.size, 3, none⟩ = some (.int .i64 q) ∧ w'.cell? ⟨w.heap.size + 1, 1, none⟩ = some (.int .i64 N) ∧
        w'.cell? ⟨xb, 0, none⟩ = some (.slice a k m) ∧ w'.cell? ⟨xb, 1, none⟩ = some (.int .i64 p') ∧ w'.cell? ⟨xb, 2, none⟩ = some (.int .i64 c') ∧ w'.cell? ⟨xb, 3, none⟩ = some (.int .i64 q'))
      (first
        | go_keep
        | exact sB
        | exact sC)
      (first
        | (go_at_call 14; go_must (refine (take_bs _ _ _ _ _ _ _ _ _ _ (by exact hrgx) (by exact hzx) h0 hp0 (by omega) (by omega)).mono ?_; rintro e w4 ⟨ok2, p2, c2, q2, A2, k2, M2, rfl, hk4, hrg4, hs4, hA3⟩; obtain ⟨rfl, rfl, rfl, rfl⟩ := hs4.det hs h0 hp0; have hX4 := blk_kp (show Blk _ xb _ _ by exact hX) hk4 n1; have hC4 := blk_kp (show Blk _ w.heap.size _ _ by exact hCx) hk4 n2; have hD4 := blk_kp (show Blk _ (w.heap.size + 1) _ _ by exact hDx) hk4 n3; have hR4 := blk_kp (show Blk _ (w.heap.size + 1 + 1) _ _ by exact hRx) hk4 n4; have hA4 := Bs.kp (show Bs _ A kk _ by exact hA) (by exact hrgx) (by simp) hk4; have hr4 := IsRd.kp (show IsRd _ b _ _ _ _ by exact hrx) hk4 n5; have sB := And.intro hC4.c4.1 (And.intro hC4.c4.2.1 (And.intro hC4.c4.2.2.1 (And.intro hC4.c4.2.2.2 (And.intro hD4.c3.2.1 hX4.c4))))))
        | (go_at_call 16; go_must (refine (same_any _ _ _ _ _ _ _ _ (by exact hA3) (by exact hA4)).mono ?_; rintro e w5 ⟨rfl, rfl⟩))
        | (go_at_call 10; go_must (refine (at_any _ _ _ _ _ _ (by exact hrg4)).mono ?_; rintro e w5 ⟨rfl, rfl⟩))
        | (go_at_call 11; go_must (refine (left_any _ _ _ _ _ _ _ _ (by exact hrg4) (by omega) (by omega) (by omega)).mono ?_; rintro e w5 ⟨rfl, nq, rfl⟩))
        | (go_at_call 12; go_must (refine (fault_any _ _ _ _ _ _ (by exact hrg4)).mono ?_; rintro e w6 ⟨rfl, hb6⟩; have hX6 := Blk.below (show Blk _ xb _ _ by exact hX4) hb6; have hC6 := Blk.below (show Blk _ w.heap.size _ _ by exact hC4) hb6; have hD6 := Blk.below (show Blk _ (w.heap.size + 1) _ _ by exact hD4) hb6; have hR6 := Blk.below (show Blk _ (w.heap.size + 1 + 1) _ _ by exact hR4) hb6; have hr6 := IsRd.below (show IsRd _ b _ _ _ _ by exact hr4) hb6; have sC := And.intro hC6.c4.1 (And.intro hC6.c4.2.1 (And.intro hC6.c4.2.2.1 (And.intro hC6.c4.2.2.2 (And.intro hD6.c3.2.1 hX6.c4)))); obtain ⟨r0, r1, r2, r3⟩ := hR6.c4; obtain ⟨g0, g1, g2, g3⟩ := hR6.f4))
        | fail)
    go_wp2
    refine bodyPost_ret (v := .tuple #[cv (.slice a n m) p c q, .bool true]) (by simp [results, Try.results9, go_sem, r0, r1, r2, r3]) rfl ⟨_, _, _, rfl, ((⟨h0, h1⟩ : 0 ≤ p ∧ p ≤ n)).1, ((⟨h0, h1⟩ : 0 ≤ p ∧ p ≤ n)).2, ?_, ?_⟩
    · skip
      iterate 4 (refine Kp.far ?_ (show _ ≤ w.heap.size + 1 + 1 by omega) _)
      exact ((hk0.drew.new hk4 hgs).trans (Kp.drewN _ _ _)).trans (Kp.of_below hb6)
    · skip
      iterate 4 (refine IsRd.far ?_ hbr.symm _)
      exact hr6

theorem step_any (b : Nat) (a : Option Addr) (n m : Nat) (z : List Int) (p c q K N T : Int) (w : World) (h : IsRd w b (.slice a n n) p c q) (hz : Bs w a n z) (ha : a = none → m = 0) (h0 : 0 ≤ p) (h1 : p ≤ n) (hm : n ≤ m) (hn : n ≤ 300) :
    Calls Try.prog 9 #[.pointer (some ⟨b, 0, none⟩), cv (.slice a n m) p c q, .agg #[.int .i64 K, .int .i64 N, .int .i64 T]] w (StepPost b a n m w) := by
  by_cases hK : K < 0 ∨ 6 < K
  · exact step_other b a n m z p c q K N T w h h0 h1 hK
  have hc : K = 0 ∨ K = 1 ∨ K = 2 ∨ K = 3 ∨ K = 4 ∨ K = 5 ∨ K = 6 := by omega
  rcases hc with rfl | rfl | rfl | rfl | rfl | rfl | rfl
  · exact step_byte b a n m z p c q N T w h hz ha h0 h1 hm hn
  · exact step_take b a n m z p c q N T w h hz ha h0 h1 hm hn
  · exact step_skip b a n m z p c q N T w h hz ha h0 h1 hm hn
  · exact step_fail b a n m z p c q N T w h h0 h1 hm hn
  · exact step_end b a n m z p c q N T w h h0 h1 hm hn
  · by_cases hN : N < 0 ∨ p < N
    · exact step_since_no b a n m z p c q N T w h hz h0 h1 hm hn hN
    · exact step_since_yes b a n m z p c q N T w h hz ha h0 h1 hm hn (by omega) (by omega)
  · exact step_part b a n m z p c q N T w h hz ha h0 h1 hm hn
end Go.Proofs.Ytmbojcdliomifaa.Cur
