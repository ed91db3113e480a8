
/- One call of a reader and of the document's one (step). -/
import Derived.Test.YtmbojcdliomifaaCurH
import Derived.StillTailTactics
import Derived.OwnWalk
namespace Go.Proofs.Ytmbojcdliomifaa.Cur
open Go.RowKit Mem
set_option linter.unusedVariables false

def StepPost (b : Nat) (a : Option Addr) (n m : Nat) (w : World) (e : Ending) (w' : World) : Prop :=
  ∃ p' c' q' : Int, e = .returned (.tuple #[cv (.slice a n m) p' c' q', .bool true]) ∧ 0 ≤ p' ∧ p' ≤ n ∧ Kp b w w' ∧ IsRd w' b (.slice a n n) p' c' q'

theorem SkipSt.det {n : Nat} {p c q x : Int} {ok ok' : Bool} {p' c' q' p'' c'' q'' : Int} (h : SkipSt n p c q x ok p' c' q') (k : SkipSt n p c q x ok' p'' c'' q'') (h0 : 0 ≤ p) (h1 : p ≤ n) : ok' = ok ∧ p'' = p' ∧ c'' = c' ∧ q'' = q' := by
  rcases h with ⟨a1, a2, a3, a4, a5⟩ | ⟨a0, a1, a2, a3, a4, a5⟩ | ⟨a0, a1, a2, a3, a4, a5⟩ | ⟨a0, a1, a6, a2, a3, a4, a5⟩ <;>
  rcases k with ⟨b1, b2, b3, b4, b5⟩ | ⟨b0, b1, b2, b3, b4, b5⟩ | ⟨b0, b1, b2, b3, b4, b5⟩ | ⟨b0, b1, b6, b2, b3, b4, b5⟩ <;>
  first | omega | (exact absurd b0 a1) | (exact absurd a0 b1) | (exfalso; omega) | (subst a2 b2; exact ⟨rfl, by omega, by omega, by omega⟩)
theorem SkipSt.range {n : Nat} {p c q x : Int} {ok : Bool} {p' c' q' : Int} (h : SkipSt n p c q x ok p' c' q') (h0 : 0 ≤ p) (h1 : p ≤ n) : 0 ≤ p' ∧ p' ≤ n := by
  rcases h with ⟨a1, a2, a3, a4, a5⟩ | ⟨a0, a1, a2, a3, a4, a5⟩ | ⟨a0, a1, a2, a3, a4, a5⟩ | ⟨a0, a1, a6, a2, a3, a4, a5⟩ <;> omega

theorem piece_head (z : List Int) (p : Int) (h0 : 0 ≤ p) : (piece z p.toNat (p + 1).toNat).getD 0 0 = z.getD p.toNat 0 := by
  have : (p + 1).toNat - p.toNat = 1 := by omega
  simp [piece, this, List.getD_eq_getElem?_getD, List.getElem?_drop]
theorem Kp.far {b : Nat} {w w' : World} (h : Kp b w w') {p : Addr} (hp : w.heap.size ≤ p.block) (v : Value) : Kp b w (w'.setCell p v) :=
  ⟨h.os, h.tape, h.output, by simpa [World.setCell] using h.size, fun k hk hb => (Below.heap_setCell w' p v k (by omega)).trans (h.block k hk hb)⟩
theorem Kp.drew {b : Nat} {w w' : World} (h : Kp b w w') : Kp b w w'.drew := ⟨h.os, h.tape, h.output, h.size, h.block⟩
theorem IsRd.far {w : World} {b : Nat} {s : Value} {p c q : Int} (h : IsRd w b s p c q) {a : Addr} (ha : b ≠ a.block) (v : Value) : IsRd (w.setCell a v) b s p c q := (Below.heap_setCell w a v b ha).trans h
theorem IsRd.drew {w : World} {b : Nat} {s : Value} {p c q : Int} (h : IsRd w b s p c q) : IsRd w.drew b s p c q := h
theorem blk_kp {w w' : World} {b k : Nat} {cs : Array Value} {t : Nat} (h : Blk w b cs t) (hb : Kp k w w') (hk : b ≠ k) : Blk w' b cs t := (hb.block b h.lt hk).trans h

set_option maxRecDepth 100000 in
set_option maxHeartbeats 400000 in
theorem step_byte (b : Nat) (a : Option Addr) (n m : Nat) (z : List Int) (p c q N T : Int) (w : World) (h : IsRd w b (.slice a n n) p c q) (hz : Bs w a n z) (ha : a = none → m = 0) (h0 : 0 ≤ p) (h1 : p ≤ n) (hm : n ≤ m) (hn : n ≤ 300) :
    Calls Try.prog 9 #[.pointer (some ⟨b, 0, none⟩), cv (.slice a n m) p c q, .agg #[.int .i64 0, .int .i64 N, .int .i64 T]] w (StepPost b a n m w) := by
  go_enter Try.func9, Try.ntmps9
  go_wp2_with fail
  refine (rtake_any _ _ _ _ _ _ _ _ _ (hz.below (below_three _ _ _ _)) ha h0 h1 hm hn).mono ?_
  rintro e w1 ⟨ok, p', c', q', A, k, M, rfl, hb, hs, hA, hM⟩
  obtain ⟨hC, hD, hR, hb⟩ := three_new hb
  have hr1 := h.below hb
  have hz1 := hz.below hb
  go_wp2_with fail
  refine (byte_any _ _ _ _ _ _ _ _ _ (hr1.below (below_one _ _)) (hz1.below (below_one _ _)) h0 h1 hn).mono ?_
  rintro e w2 ⟨ok', p'', c'', q'', hk2, hr2, hs2, rfl⟩
  obtain ⟨rfl, rfl, rfl, rfl⟩ := hs2.det hs h0 h1
  cases ok
  · obtain rfl : k = 0 := hA.1.symm
    have hbr : w.heap.size + 1 + 1 ≠ b := by have := h.lt; omega
    have hR2 := blk_kp (hR.alloc _) hk2 hbr
    obtain ⟨r0, r1, r2, r3⟩ := hR2.c4
    obtain ⟨g0, g1, g2, g3⟩ := hR2.f4
    have hX := blk_kp (Blk.new w1 #[Value.slice a n m, .int .i64 p', .int .i64 c', .int .i64 q'] 31) hk2 (by have := h.lt; have := hb.size; omega)
    obtain ⟨x0, x1, x2, x3⟩ := hX.c4
    rw [if_neg (by simp)]
    go_wp2
    go_region
    go_wp2
    refine bodyPost_ret (v := .tuple #[cv (.slice a n m) p' c' q', .bool true]) (by simp [results, Try.results9, go_sem, r0, r1, r2, r3]) rfl ⟨_, _, _, rfl, (hs.range h0 h1).1, (hs.range h0 h1).2, ?_, ?_⟩
    · first | refine Kp.drew ?_ | refine IsRd.drew ?_
      iterate 4 (refine Kp.far ?_ (show _ ≤ w.heap.size + 1 + 1 by omega) _)
      exact ((Kp.of_below hb).trans (Kp.of_below (below_one _ _))).trans hk2
    · first | refine Kp.drew ?_ | refine IsRd.drew ?_
      iterate 4 (refine IsRd.far ?_ hbr.symm _)
      exact hr2
  · have hx : 1 ≤ n - p := by
      rcases hs with ⟨_, h, _⟩ | ⟨_, _, h, _⟩ | ⟨_, _, h, _⟩ | ⟨_, _, a3, _⟩
      · cases h
      · cases h
      · cases h
      · exact a3
    have hbr : w.heap.size + 1 + 1 ≠ b := by have := h.lt; omega
    have hR2 := blk_kp (hR.alloc _) hk2 hbr
    obtain ⟨r0, r1, r2, r3⟩ := hR2.c4
    obtain ⟨g0, g1, g2, g3⟩ := hR2.f4
    have hX := blk_kp (Blk.new w1 #[Value.slice a n m, .int .i64 p', .int .i64 c', .int .i64 q'] 31) hk2 (by have := h.lt; have := hb.size; omega)
    obtain ⟨x0, x1, x2, x3⟩ := hX.c4
    have hA2 := (hA.below (below_one _ _)).kp (hr1.below (below_one _ _)) (by simp) hk2
    obtain rfl : k = 1 := by have := hA.1; rw [if_pos rfl] at this; rw [← this, length_piece hz.1 (by omega)]; omega
    obtain ⟨ga, oa, rfl, hAc⟩ := hA2.at_ (k := 0) (by omega)
    rw [if_pos rfl, piece_head z p h0, Nat.add_zero] at hAc
    rw [if_pos rfl]
    generalize z.getD p.toNat 0 = y at *
    have hyy : (y == y) = true := beq_self_eq_true y
    have n1 : w.heap.size + 1 + 1 ≠ w1.heap.size := by have := hR.lt; omega
    have n2 : w.heap.size + 1 + 1 ≠ ga := (hR2.ne_of_cell hAc (by simp) (by simp) (by simp) (by simp)).symm
    go_wp2
    go_region
    go_wp2
    refine bodyPost_ret (v := .tuple #[cv (.slice a n m) p' c' q', .bool true]) (by simp [results, Try.results9, go_sem, r0, r1, r2, r3]) rfl ⟨_, _, _, rfl, (hs.range h0 h1).1, (hs.range h0 h1).2, ?_, ?_⟩
    · first | refine Kp.drew ?_ | refine IsRd.drew ?_
      iterate 4 (refine Kp.far ?_ (show _ ≤ w.heap.size + 1 + 1 by omega) _)
      exact ((Kp.of_below hb).trans (Kp.of_below (below_one _ _))).trans hk2
    · first | refine Kp.drew ?_ | refine IsRd.drew ?_
      iterate 4 (refine IsRd.far ?_ hbr.symm _)
      exact hr2

def TakeBs (b : Nat) (s : Value) (n : Nat) (z : List Int) (p c q x : Int) (w : World) (e : Ending) (w' : World) : Prop :=
  ∃ ok p' c' q' A k M, e = .returned (.slice A k M) ∧ Kp b w w' ∧ IsRd w' b s p' c' q' ∧ SkipSt n p c q x ok p' c' q' ∧ Bs w' A k (if ok = true then piece z p.toNat (p + x).toNat else [])
theorem take_bs (b : Nat) (a : Option Addr) (n m : Nat) (z : List Int) (p c q x : Int) (w : World) (h : IsRd w b (.slice a n m) p c q) (hz : Bs w a n z) (h0 : 0 ≤ p) (h1 : p ≤ n) (hm : n ≤ m) (hn : n ≤ 300) :
    Calls Try.prog 14 #[.pointer (some ⟨b, 0, none⟩), .int .i64 x] w (TakeBs b (.slice a n m) n z p c q x w) := by
  refine (take_any _ _ _ _ _ _ _ _ _ _ h hz h0 h1 hm hn).mono ?_
  rintro e w2 ⟨ok, p', c', q', hk, hr2, hs, ht⟩
  rcases ht with ⟨rfl, g, rfl, hg, hrow⟩ | ⟨rfl, rfl⟩
  · refine ⟨true, p', c', q', _, _, _, rfl, hk, hr2, hs, ?_⟩
    have hx : 0 ≤ x ∧ x ≤ n - p := by
      rcases hs with ⟨_, h, _⟩ | ⟨_, _, h, _⟩ | ⟨_, _, h, _⟩ | ⟨_, a2, a3, _⟩
      · cases h
      · cases h
      · cases h
      · exact ⟨a2, a3⟩
    have := Bs.of_block hrow
    rw [length_piece hz.1 (by omega)] at this
    rw [if_pos rfl, show x.toNat = (p + x).toNat - p.toNat by omega]
    exact this
  · exact ⟨false, p', c', q', _, _, _, rfl, hk, hr2, hs, by rw [if_neg (by simp)]; exact Bs.none _⟩

set_option maxRecDepth 100000 in
set_option maxHeartbeats 400000 in
theorem step_take (b : Nat) (a : Option Addr) (n m : Nat) (z : List Int) (p c q N T : Int) (w : World) (h : IsRd w b (.slice a n n) p c q) (hz : Bs w a n z) (ha : a = none → m = 0) (h0 : 0 ≤ p) (h1 : p ≤ n) (hm : n ≤ m) (hn : n ≤ 300) :
    Calls Try.prog 9 #[.pointer (some ⟨b, 0, none⟩), cv (.slice a n m) p c q, .agg #[.int .i64 1, .int .i64 N, .int .i64 T]] w (StepPost b a n m w) := by
  go_enter Try.func9, Try.ntmps9
  go_wp2_with fail
  refine (rtake_any _ _ _ _ _ _ _ _ _ (hz.below (below_three _ _ _ _)) ha h0 h1 hm hn).mono ?_
  rintro e w1 ⟨ok, p', c', q', A, k, M, rfl, hb, hs, hA, hM⟩
  obtain ⟨hC, hD, hR, hb⟩ := three_new hb
  have hr1 := (h.below hb).below (below_one w1 (.cells #[.slice a n m, .int .i64 p', .int .i64 c', .int .i64 q'] 31))
  have hz1 := (hz.below hb).below (below_one w1 (.cells #[.slice a n m, .int .i64 p', .int .i64 c', .int .i64 q'] 31))
  have hA1 := hA.below (below_one w1 (.cells #[.slice a n m, .int .i64 p', .int .i64 c', .int .i64 q'] 31))
  have hX := Blk.new w1 #[Value.slice a n m, .int .i64 p', .int .i64 c', .int .i64 q'] 31
  have hD1 := hD.alloc (.cells #[.slice a n m, .int .i64 p', .int .i64 c', .int .i64 q'] 31)
  have hR1 := hR.alloc (.cells #[.slice a n m, .int .i64 p', .int .i64 c', .int .i64 q'] 31)
  have hk1 := (Kp.of_below (b := b) hb).trans (Kp.of_below (below_one w1 (.cells #[.slice a n m, .int .i64 p', .int .i64 c', .int .i64 q'] 31)))
  have n1 : w.heap.size + 1 + 1 ≠ w1.heap.size := by have := hR.lt; omega
  have n3 : w1.heap.size ≠ b := by have := h.lt; have := hb.size; omega
  have hbr : w.heap.size + 1 + 1 ≠ b := by have := h.lt; omega
  have hbd : w.heap.size + 1 ≠ b := by have := h.lt; omega
  go_wp2_with fail
  generalize w1.alloc (.cells #[.slice a n m, .int .i64 p', .int .i64 c', .int .i64 q'] 31) = w2 at *
  clear hC hD hR hb hA
  generalize w1.heap.size = xb at *
  obtain ⟨x0, x1, x2, x3⟩ := hX.c4
  obtain ⟨d0, d1, d2⟩ := hD1.c3
  go_region_held3 (fun w' => w'.cell? ⟨xb, 0, none⟩ = some (.slice a n m) ∧ w'.cell? ⟨xb, 1, none⟩ = some (.int .i64 p') ∧ w'.cell? ⟨xb, 2, none⟩ = some (.int .i64 c') ∧ w'.cell? ⟨xb, 3, none⟩ = some (.int .i64 q') ∧ w'.cell? ⟨w.heap.size + 1, 1, none⟩ = some (.int .i64 N))
    (first
      | go_keep
      | exact sB)
    (first
      | (go_at_call 14; go_must (refine (take_bs _ _ _ _ _ _ _ _ _ _ (by exact hr1) (by exact hz1) h0 h1 (by omega) hn).mono ?_; rintro e w3 ⟨ok2, p2, c2, q2, A2, k2, M2, rfl, hk3, hr3, hs3, hA3⟩; obtain ⟨rfl, rfl, rfl, rfl⟩ := hs3.det hs h0 h1; have hX3 := blk_kp (show Blk _ xb _ _ by exact hX) hk3 n3; have hD3 := blk_kp (show Blk _ (w.heap.size + 1) _ _ by exact hD1) hk3 hbd; have hR3 := blk_kp (show Blk _ (w.heap.size + 1 + 1) _ _ by exact hR1) hk3 hbr; have hA4 := Bs.kp (show Bs _ A k _ by exact hA1) (by exact hr1) (by simp) hk3; have sB := And.intro hX3.c4.1 (And.intro hX3.c4.2.1 (And.intro hX3.c4.2.2.1 (And.intro hX3.c4.2.2.2 hD3.c3.2.1))); obtain ⟨r0, r1, r2, r3⟩ := hR3.c4; obtain ⟨g0, g1, g2, g3⟩ := hR3.f4))
      | (go_at_call 16; go_must (refine (same_any _ _ _ _ _ _ _ _ (by exact hA3) (by exact hA4)).mono ?_; rintro e w4 ⟨rfl, rfl⟩))
      | fail)
  go_wp2
  refine bodyPost_ret (v := .tuple #[cv (.slice a n m) p' c' q', .bool true]) (by simp [results, Try.results9, go_sem, r0, r1, r2, r3]) rfl ⟨_, _, _, rfl, (hs.range h0 h1).1, (hs.range h0 h1).2, ?_, ?_⟩
  · skip
    iterate 4 (refine Kp.far ?_ (show _ ≤ w.heap.size + 1 + 1 by omega) _)
    exact hk1.drew.trans hk3
  · skip
    iterate 4 (refine IsRd.far ?_ hbr.symm _)
    exact hr3

set_option maxRecDepth 100000 in
set_option maxHeartbeats 400000 in
theorem step_skip (b : Nat) (a : Option Addr) (n m : Nat) (z : List Int) (p c q N T : Int) (w : World) (h : IsRd w b (.slice a n n) p c q) (hz : Bs w a n z) (ha : a = none → m = 0) (h0 : 0 ≤ p) (h1 : p ≤ n) (hm : n ≤ m) (hn : n ≤ 300) :
    Calls Try.prog 9 #[.pointer (some ⟨b, 0, none⟩), cv (.slice a n m) p c q, .agg #[.int .i64 2, .int .i64 N, .int .i64 T]] w (StepPost b a n m w) := by
  go_enter Try.func9, Try.ntmps9
  go_wp2_with fail
  refine (rtake_any _ _ _ _ _ _ _ _ _ (hz.below (below_three _ _ _ _)) ha h0 h1 hm hn).mono ?_
  rintro e w1 ⟨ok, p', c', q', A, k, M, rfl, hb, hs, hA, hM⟩
  obtain ⟨hC, hD, hR, hb⟩ := three_new hb
  have hr1 := (h.below hb).below (below_one w1 (.cells #[.slice a n m, .int .i64 p', .int .i64 c', .int .i64 q'] 31))
  have hz1 := (hz.below hb).below (below_one w1 (.cells #[.slice a n m, .int .i64 p', .int .i64 c', .int .i64 q'] 31))
  have hA1 := hA.below (below_one w1 (.cells #[.slice a n m, .int .i64 p', .int .i64 c', .int .i64 q'] 31))
  have hX := Blk.new w1 #[Value.slice a n m, .int .i64 p', .int .i64 c', .int .i64 q'] 31
  have hD1 := hD.alloc (.cells #[.slice a n m, .int .i64 p', .int .i64 c', .int .i64 q'] 31)
  have hR1 := hR.alloc (.cells #[.slice a n m, .int .i64 p', .int .i64 c', .int .i64 q'] 31)
  have hk1 := (Kp.of_below (b := b) hb).trans (Kp.of_below (below_one w1 (.cells #[.slice a n m, .int .i64 p', .int .i64 c', .int .i64 q'] 31)))
  have n1 : w.heap.size + 1 + 1 ≠ w1.heap.size := by have := hR.lt; omega
  have n3 : w1.heap.size ≠ b := by have := h.lt; have := hb.size; omega
  have hbr : w.heap.size + 1 + 1 ≠ b := by have := h.lt; omega
  have hbd : w.heap.size + 1 ≠ b := by have := h.lt; omega
  go_wp2_with fail
  generalize w1.alloc (.cells #[.slice a n m, .int .i64 p', .int .i64 c', .int .i64 q'] 31) = w2 at *
  clear hC hD hR hb hA
  generalize w1.heap.size = xb at *
  obtain ⟨x0, x1, x2, x3⟩ := hX.c4
  obtain ⟨d0, d1, d2⟩ := hD1.c3
  have hok : ok = (c' == 0) := by
    rcases hs with ⟨a1, a2, _, a4, _⟩ | ⟨_, _, a2, _, a4, _⟩ | ⟨_, _, a2, _, a4, _⟩ | ⟨a1, _, _, a2, _, a4, _⟩ <;> subst a2 a4 <;> simp [*]
  have hkk : (ok == (c' == 0)) = true := by rw [hok]; simp
  clear hok
  go_region_held3 (fun w' => w'.cell? ⟨xb, 0, none⟩ = some (.slice a n m) ∧ w'.cell? ⟨xb, 1, none⟩ = some (.int .i64 p') ∧ w'.cell? ⟨xb, 2, none⟩ = some (.int .i64 c') ∧ w'.cell? ⟨xb, 3, none⟩ = some (.int .i64 q') ∧ w'.cell? ⟨w.heap.size + 1, 1, none⟩ = some (.int .i64 N))
    (first
      | go_keep
      | exact sB)
    (first
      | (go_at_call 19; go_must (refine (skip_any _ _ _ _ _ _ _ _ _ (by exact hr1) h0 h1 hn).mono ?_; rintro e w3 ⟨ok2, p2, c2, q2, rfl, hk3, hr3, hs3⟩; obtain ⟨rfl, rfl, rfl, rfl⟩ := hs3.det hs h0 h1; have hX3 := blk_kp (show Blk _ xb _ _ by exact hX) hk3 n3; have hD3 := blk_kp (show Blk _ (w.heap.size + 1) _ _ by exact hD1) hk3 hbd; have hR3 := blk_kp (show Blk _ (w.heap.size + 1 + 1) _ _ by exact hR1) hk3 hbr; have sB := And.intro hX3.c4.1 (And.intro hX3.c4.2.1 (And.intro hX3.c4.2.2.1 (And.intro hX3.c4.2.2.2 hD3.c3.2.1))); obtain ⟨r0, r1, r2, r3⟩ := hR3.c4; obtain ⟨g0, g1, g2, g3⟩ := hR3.f4))
      | fail)
  go_wp2
  refine bodyPost_ret (v := .tuple #[cv (.slice a n m) p' c' q', .bool true]) (by simp [results, Try.results9, go_sem, r0, r1, r2, r3]) rfl ⟨_, _, _, rfl, (hs.range h0 h1).1, (hs.range h0 h1).2, ?_, ?_⟩
  · skip
    iterate 4 (refine Kp.far ?_ (show _ ≤ w.heap.size + 1 + 1 by omega) _)
    exact hk1.drew.trans hk3
  · skip
    iterate 4 (refine IsRd.far ?_ hbr.symm _)
    exact hr3

def FailSt (c q c' q' c2 q2 : Int) : Prop := (c = 0 ∧ c2 = c' ∧ q2 = fq c' q') ∨ (c ≠ 0 ∧ c2 = c ∧ q2 = q)
theorem FailSt.det {c q c' q' c2 q2 c3 q3 : Int} (h : FailSt c q c' q' c2 q2) (k : FailSt c q c' q' c3 q3) : c2 = c3 ∧ q2 = q3 := by
  rcases h with ⟨a, rfl, rfl⟩ | ⟨a, rfl, rfl⟩ <;> rcases k with ⟨b, rfl, rfl⟩ | ⟨b, rfl, rfl⟩ <;> first | exact ⟨rfl, rfl⟩ | exact absurd a b | exact absurd b a
def FailPost (b : Nat) (s : Value) (p c q c' q' : Int) (w : World) (e : Ending) (w' : World) : Prop := ∃ c2 q2, e = .returned (.tuple #[]) ∧ Kp b w w' ∧ IsRd w' b s p c2 q2 ∧ FailSt c q c' q' c2 q2
theorem fail_any (b : Nat) (s : Value) (p c q c' q' : Int) (w : World) (h : IsRd w b s p c q) :
    Calls Try.prog 20 #[.pointer (some ⟨b, 0, none⟩), .int .i64 c', .int .i64 q'] w (FailPost b s p c q c' q' w) := by
  by_cases hc : c = 0
  · subst hc
    exact (fail_yes b s p q c' q' w h).mono fun e w' ⟨he, hk, hr⟩ => ⟨_, _, he, hk, hr, .inl ⟨rfl, rfl, rfl⟩⟩
  · exact (fail_no b s p c q c' q' w h (by simpa using hc)).mono fun e w' ⟨he, hb⟩ => ⟨_, _, he, Kp.of_below hb, h.below hb, .inr ⟨hc, rfl, rfl⟩⟩
def RFailPost (s : Value) (p c q c' q' : Int) (w : World) (e : Ending) (w' : World) : Prop := ∃ c2 q2, e = .returned (cv s p c2 q2) ∧ Below w.heap.size w w' ∧ FailSt c q c' q' c2 q2
theorem rfail_any (A : Option Addr) (n m : Nat) (p c q c' q' : Int) (w : World) :
    Calls Try.prog 23 #[cv (.slice A n m) p c q, .int .i64 c', .int .i64 q'] w (RFailPost (.slice A n m) p c q c' q' w) := by
  by_cases hc : c = 0
  · subst hc
    exact (rfail_yes _ p q c' q' w ⟨_, _, _, rfl⟩).mono fun e w' ⟨he, hb⟩ => ⟨_, _, he, hb, .inl ⟨rfl, rfl, rfl⟩⟩
  · exact (rfail_no _ p c q c' q' w ⟨_, _, _, rfl⟩ (by simpa using hc)).mono fun e w' ⟨he, hb⟩ => ⟨_, _, he, hb, .inr ⟨hc, rfl, rfl⟩⟩

theorem kp_three {b : Nat} {w w1 : World} {cs ds es : Array Value} {t u r : Nat} (hb : Kp b (((w.alloc (.cells cs t)).alloc (.cells ds u)).alloc (.cells es r)) w1) (hlt : b < w.heap.size) :
    Blk w1 w.heap.size cs t ∧ Blk w1 (w.heap.size + 1) ds u ∧ Blk w1 (w.heap.size + 1 + 1) es r ∧ Kp b w w1 := by
  obtain ⟨h0, h1, h2, h3⟩ := three_new (w := w) (cs := cs) (ds := ds) (es := es) (t := t) (u := u) (r := r) (Below.refl _ _)
  exact ⟨blk_kp h0 hb (by omega), blk_kp h1 hb (by omega), blk_kp h2 hb (by omega), (Kp.of_below h3).trans hb⟩

set_option maxRecDepth 100000 in
set_option maxHeartbeats 400000 in
theorem step_fail (b : Nat) (a : Option Addr) (n m : Nat) (z : List Int) (p c q N T : Int) (w : World) (h : IsRd w b (.slice a n n) p c q) (h0 : 0 ≤ p) (h1 : p ≤ n) (hm : n ≤ m) (hn : n ≤ 300) :
    Calls Try.prog 9 #[.pointer (some ⟨b, 0, none⟩), cv (.slice a n m) p c q, .agg #[.int .i64 3, .int .i64 N, .int .i64 T]] w (StepPost b a n m w) := by
  have hlt := h.lt
  go_enter Try.func9, Try.ntmps9
  go_wp2_with fail
  refine (fail_any _ _ _ _ _ _ _ _ (h.below (below_three _ _ _ _))).mono ?_
  rintro e w1 ⟨c2, q2, rfl, hk, hr1, hs⟩
  obtain ⟨hC, hD, hR, hk1⟩ := kp_three hk hlt
  obtain ⟨x0, x1, x2, x3⟩ := hC.c4
  obtain ⟨d0, d1, d2⟩ := hD.c3
  have hbr : w.heap.size + 1 + 1 ≠ b := by omega
  clear hk
  go_wp2_with fail
  refine (rfail_any _ _ _ _ _ _ _ _ _).mono ?_
  rintro e w3 ⟨c3, q3, rfl, hb, hs3⟩
  obtain ⟨rfl, rfl⟩ := hs.det hs3
  have hr3 := hr1.below hb
  have hR3 := hR.below hb
  obtain ⟨r0, r1, r2, r3⟩ := hR3.c4
  obtain ⟨g0, g1, g2, g3⟩ := hR3.f4
  clear x0 x1 x2 x3 d0 d1 d2
  go_wp2
  refine bodyPost_ret (v := .tuple #[cv (.slice a n m) p c2 q2, .bool true]) (by simp [results, Try.results9, go_sem, r0, r1, r2, r3]) rfl ⟨_, _, _, rfl, ((⟨h0, h1⟩ : 0 ≤ p ∧ p ≤ n)).1, ((⟨h0, h1⟩ : 0 ≤ p ∧ p ≤ n)).2, ?_, ?_⟩
  · skip
    iterate 4 (refine Kp.far ?_ (show _ ≤ w.heap.size + 1 + 1 by omega) _)
    exact hk1.trans (Kp.of_below hb)
  · skip
    iterate 4 (refine IsRd.far ?_ hbr.symm _)
    exact hr3

def EndSt (n : Nat) (p c q c' q' : Int) : Prop := if c = 0 ∧ p < n then c' = 9 ∧ q' = p else c' = c ∧ q' = q
theorem EndSt.det {n : Nat} {p c q c2 q2 c3 q3 : Int} (h : EndSt n p c q c2 q2) (k : EndSt n p c q c3 q3) : c2 = c3 ∧ q2 = q3 := by
  unfold EndSt at h k
  split at h
  · rw [if_pos (by assumption)] at k; exact ⟨h.1.trans k.1.symm, h.2.trans k.2.symm⟩
  · rw [if_neg (by assumption)] at k; exact ⟨h.1.trans k.1.symm, h.2.trans k.2.symm⟩

set_option maxRecDepth 100000 in
set_option maxHeartbeats 400000 in
theorem step_end (b : Nat) (a : Option Addr) (n m : Nat) (z : List Int) (p c q N T : Int) (w : World) (h : IsRd w b (.slice a n n) p c q) (h0 : 0 ≤ p) (h1 : p ≤ n) (hm : n ≤ m) (hn : n ≤ 300) :
    Calls Try.prog 9 #[.pointer (some ⟨b, 0, none⟩), cv (.slice a n m) p c q, .agg #[.int .i64 4, .int .i64 N, .int .i64 T]] w (StepPost b a n m w) := by
  have hlt := h.lt
  go_enter Try.func9, Try.ntmps9
  go_wp2_with fail
  refine (end_any _ _ _ _ _ _ _ _ (h.below (below_three _ _ _ _)) h0 h1 hn).mono ?_
  rintro e w1 ⟨c2, q2, rfl, hk, hr1, hs⟩
  have hs : EndSt n p c q c2 q2 := hs
  obtain ⟨hC, hD, hR, hk1⟩ := kp_three hk hlt
  obtain ⟨x0, x1, x2, x3⟩ := hC.c4
  obtain ⟨d0, d1, d2⟩ := hD.c3
  have hbr : w.heap.size + 1 + 1 ≠ b := by omega
  clear hk
  go_wp2_with fail
  refine (rend_any _ _ _ _ _ _ _).mono ?_
  rintro e w3 ⟨c3, q3, rfl, hb, hs3⟩
  obtain ⟨rfl, rfl⟩ := hs.det hs3
  have hr3 := hr1.below hb
  have hR3 := hR.below hb
  obtain ⟨r0, r1, r2, r3⟩ := hR3.c4
  obtain ⟨g0, g1, g2, g3⟩ := hR3.f4
  clear x0 x1 x2 x3 d0 d1 d2
  go_wp2
  refine bodyPost_ret (v := .tuple #[cv (.slice a n m) p c2 q2, .bool true]) (by simp [results, Try.results9, go_sem, r0, r1, r2, r3]) rfl ⟨_, _, _, rfl, ((⟨h0, h1⟩ : 0 ≤ p ∧ p ≤ n)).1, ((⟨h0, h1⟩ : 0 ≤ p ∧ p ≤ n)).2, ?_, ?_⟩
  · skip
    iterate 4 (refine Kp.far ?_ (show _ ≤ w.heap.size + 1 + 1 by omega) _)
    exact hk1.trans (Kp.of_below hb)
  · skip
    iterate 4 (refine IsRd.far ?_ hbr.symm _)
    exact hr3
end Go.Proofs.Ytmbojcdliomifaa.Cur
