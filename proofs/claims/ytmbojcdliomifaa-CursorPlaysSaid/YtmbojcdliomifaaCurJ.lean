
/- One call of a reader and of the document's one (step), second part. -/
import Derived.Test.YtmbojcdliomifaaCurI
namespace Go.Proofs.Ytmbojcdliomifaa.Cur
open Go.RowKit Mem
set_option linter.unusedVariables false

def SinceBs (z : List Int) (p f : Int) (w : World) (e : Ending) (w' : World) : Prop :=
  ∃ A k M, e = .returned (.slice A k M) ∧ Below w.heap.size w w' ∧ Bs w' A k (if 0 ≤ f ∧ f ≤ p then piece z f.toNat p.toNat else [])
theorem since_bs (b : Nat) (a : Option Addr) (n m : Nat) (z : List Int) (p c q f : Int) (w : World) (h : IsRd w b (.slice a n m) p c q) (hz : Bs w a n z) (h0 : 0 ≤ p) (h1 : p ≤ n) (hm : n ≤ m) (hn : n ≤ 300) :
    Calls Try.prog 17 #[.pointer (some ⟨b, 0, none⟩), .int .i64 f] w (SinceBs z p f w) := by
  refine (since_any _ _ _ _ _ _ _ _ _ _ h hz h0 h1 hm hn).mono ?_
  rintro e w2 ⟨hb, ⟨f0, f1, g, rfl, hg, hrow⟩ | ⟨hf, rfl⟩⟩
  · refine ⟨_, _, _, rfl, hb, ?_⟩
    have := Bs.of_block hrow
    rw [length_piece hz.1 (by omega)] at this
    rw [if_pos ⟨f0, f1⟩]
    exact this
  · exact ⟨_, _, _, rfl, hb, by rw [if_neg (by omega)]; exact Bs.none _⟩

set_option maxRecDepth 100000 in
set_option maxHeartbeats 400000 in
theorem step_other (b : Nat) (a : Option Addr) (n m : Nat) (z : List Int) (p c q K N T : Int) (w : World) (h : IsRd w b (.slice a n n) p c q) (h0 : 0 ≤ p) (h1 : p ≤ n) (hK : K < 0 ∨ 6 < K) :
    Calls Try.prog 9 #[.pointer (some ⟨b, 0, none⟩), cv (.slice a n m) p c q, .agg #[.int .i64 K, .int .i64 N, .int .i64 T]] w (StepPost b a n m w) := by
  have e0 : (K == 0) = false := by rw [beq_eq_false_iff_ne]; omega
  have e1 : (K == 1) = false := by rw [beq_eq_false_iff_ne]; omega
  have e2 : (K == 2) = false := by rw [beq_eq_false_iff_ne]; omega
  have e3 : (K == 3) = false := by rw [beq_eq_false_iff_ne]; omega
  have e4 : (K == 4) = false := by rw [beq_eq_false_iff_ne]; omega
  have e5 : (K == 5) = false := by rw [beq_eq_false_iff_ne]; omega
  have e6 : (K == 6) = false := by rw [beq_eq_false_iff_ne]; omega
  go_enter Try.func9, Try.ntmps9
  go_wp2
  refine bodyPost_ret (v := .tuple #[cv (.slice a n m) p c q, .bool true]) (by simp [results, Try.results9, go_sem]) rfl ⟨_, _, _, rfl, h0, h1, Kp.of_below (below_three _ _ _ _), h.below (below_three _ _ _ _)⟩


set_option maxRecDepth 100000 in
set_option maxHeartbeats 400000 in
theorem step_since_no (b : Nat) (a : Option Addr) (n m : Nat) (z : List Int) (p c q N T : Int) (w : World) (h : IsRd w b (.slice a n n) p c q) (hz : Bs w a n z) (h0 : 0 ≤ p) (h1 : p ≤ n) (hm : n ≤ m) (hn : n ≤ 300) (hN : N < 0 ∨ p < N) :
    Calls Try.prog 9 #[.pointer (some ⟨b, 0, none⟩), cv (.slice a n m) p c q, .agg #[.int .i64 5, .int .i64 N, .int .i64 T]] w (StepPost b a n m w) := by
  have hnif : ¬ (0 ≤ N ∧ N ≤ p) := by omega
  have HN := Lib.hid hnif
  clear hnif
  obtain ⟨hC, hD, hR, hb⟩ := three_new (w := w) (cs := #[.slice a n m, .int .i64 p, .int .i64 c, .int .i64 q]) (ds := #[.int .i64 5, .int .i64 N, .int .i64 T]) (es := #[.slice none 0 0, .int .i64 0, .int .i64 0, .int .i64 0]) (t := 31) (u := 35) (r := 31) (Below.refl _ _)
  by_cases hN0 : N < 0
  · have hN1 : decide (0 ≤ N) = false := by simpa using hN0
    clear hN
    go_enter Try.func9, Try.ntmps9
    go_wp2_with fail
    generalize ((w.alloc (.cells #[.slice a n m, .int .i64 p, .int .i64 c, .int .i64 q] 31)).alloc (.cells #[.int .i64 5, .int .i64 N, .int .i64 T] 35)).alloc (.cells #[.slice none 0 0, .int .i64 0, .int .i64 0, .int .i64 0] 31) = w1 at *
    have hA1 := Bs.none w1
    have hr1 := h.below hb
    have hz1 := hz.below hb
    have n0 : w.heap.size + 1 + 1 ≠ w.heap.size := by omega
    obtain ⟨x0, x1, x2, x3⟩ := hC.c4
    obtain ⟨d0, d1, d2⟩ := hD.c3
    have hbr : w.heap.size + 1 + 1 ≠ b := by have := h.lt; omega
    go_region_held3 (fun w' => w'.cell? ⟨w.heap.size, 0, none⟩ = some (.slice a n m) ∧ w'.cell? ⟨w.heap.size, 1, none⟩ = some (.int .i64 p) ∧ w'.cell? ⟨w.heap.size, 2, none⟩ = some (.int .i64 c) ∧ w'.cell? ⟨w.heap.size, 3, none⟩ = some (.int .i64 q) ∧ w'.cell? ⟨w.heap.size + 1, 1, none⟩ = some (.int .i64 N))
      (first
        | go_keep
        | exact sB)
      (first
        | (go_at_call 17; go_must (refine (since_bs _ _ _ _ _ _ _ _ _ _ (by exact hr1) (by exact hz1) h0 h1 (by omega) hn).mono ?_; rintro e w3 ⟨A3, k3, M3, rfl, hb3, hA3⟩; rw [if_neg HN.out] at hA3; have hr3 := IsRd.below (by exact hr1) hb3; have hX3 := Blk.below (show Blk _ w.heap.size _ _ by exact hC) hb3; have hD3 := Blk.below (show Blk _ (w.heap.size + 1) _ _ by exact hD) hb3; have hR3 := Blk.below (show Blk _ (w.heap.size + 1 + 1) _ _ by exact hR) hb3; have hA4 := Bs.below (show Bs _ none 0 _ by exact hA1) hb3; have sB := And.intro hX3.c4.1 (And.intro hX3.c4.2.1 (And.intro hX3.c4.2.2.1 (And.intro hX3.c4.2.2.2 hD3.c3.2.1))); obtain ⟨r0, r1, r2, r3⟩ := hR3.c4; obtain ⟨g0, g1, g2, g3⟩ := hR3.f4))
        | (go_at_call 16; go_must (refine (same_any _ _ _ _ _ _ _ _ (by exact hA3) (by exact hA4)).mono ?_; rintro e w4 ⟨rfl, rfl⟩))
        | fail)
    go_wp2
    refine bodyPost_ret (v := .tuple #[cv (.slice a n m) p c q, .bool true]) (by simp [results, Try.results9, go_sem, r0, r1, r2, r3]) rfl ⟨_, _, _, rfl, ((⟨h0, h1⟩ : 0 ≤ p ∧ p ≤ n)).1, ((⟨h0, h1⟩ : 0 ≤ p ∧ p ≤ n)).2, ?_, ?_⟩
    · skip
      iterate 4 (refine Kp.far ?_ (show _ ≤ w.heap.size + 1 + 1 by omega) _)
      exact (Kp.of_below hb).drew.trans (Kp.of_below hb3)
    · skip
      iterate 4 (refine IsRd.far ?_ hbr.symm _)
      exact hr3
  · have hN1 : decide (0 ≤ N) = true := by simpa using hN0
    have hN2 : ¬ N ≤ p := by omega
    clear hN
    go_enter Try.func9, Try.ntmps9
    go_wp2_with fail
    generalize ((w.alloc (.cells #[.slice a n m, .int .i64 p, .int .i64 c, .int .i64 q] 31)).alloc (.cells #[.int .i64 5, .int .i64 N, .int .i64 T] 35)).alloc (.cells #[.slice none 0 0, .int .i64 0, .int .i64 0, .int .i64 0] 31) = w1 at *
    have hA1 := Bs.none w1
    have hr1 := h.below hb
    have hz1 := hz.below hb
    have n0 : w.heap.size + 1 + 1 ≠ w.heap.size := by omega
    obtain ⟨x0, x1, x2, x3⟩ := hC.c4
    obtain ⟨d0, d1, d2⟩ := hD.c3
    have hbr : w.heap.size + 1 + 1 ≠ b := by have := h.lt; omega
    go_region_held3 (fun w' => w'.cell? ⟨w.heap.size, 0, none⟩ = some (.slice a n m) ∧ w'.cell? ⟨w.heap.size, 1, none⟩ = some (.int .i64 p) ∧ w'.cell? ⟨w.heap.size, 2, none⟩ = some (.int .i64 c) ∧ w'.cell? ⟨w.heap.size, 3, none⟩ = some (.int .i64 q) ∧ w'.cell? ⟨w.heap.size + 1, 1, none⟩ = some (.int .i64 N))
      (first
        | go_keep
        | exact sB)
      (first
        | (go_at_call 17; go_must (refine (since_bs _ _ _ _ _ _ _ _ _ _ (by exact hr1) (by exact hz1) h0 h1 (by omega) hn).mono ?_; rintro e w3 ⟨A3, k3, M3, rfl, hb3, hA3⟩; rw [if_neg HN.out] at hA3; have hr3 := IsRd.below (by exact hr1) hb3; have hX3 := Blk.below (show Blk _ w.heap.size _ _ by exact hC) hb3; have hD3 := Blk.below (show Blk _ (w.heap.size + 1) _ _ by exact hD) hb3; have hR3 := Blk.below (show Blk _ (w.heap.size + 1 + 1) _ _ by exact hR) hb3; have hA4 := Bs.below (show Bs _ none 0 _ by exact hA1) hb3; have sB := And.intro hX3.c4.1 (And.intro hX3.c4.2.1 (And.intro hX3.c4.2.2.1 (And.intro hX3.c4.2.2.2 hD3.c3.2.1))); obtain ⟨r0, r1, r2, r3⟩ := hR3.c4; obtain ⟨g0, g1, g2, g3⟩ := hR3.f4))
        | (go_at_call 16; go_must (refine (same_any _ _ _ _ _ _ _ _ (by exact hA3) (by exact hA4)).mono ?_; rintro e w4 ⟨rfl, rfl⟩))
        | fail)
    go_wp2
    refine bodyPost_ret (v := .tuple #[cv (.slice a n m) p c q, .bool true]) (by simp [results, Try.results9, go_sem, r0, r1, r2, r3]) rfl ⟨_, _, _, rfl, ((⟨h0, h1⟩ : 0 ≤ p ∧ p ≤ n)).1, ((⟨h0, h1⟩ : 0 ≤ p ∧ p ≤ n)).2, ?_, ?_⟩
    · skip
      iterate 4 (refine Kp.far ?_ (show _ ≤ w.heap.size + 1 + 1 by omega) _)
      exact (Kp.of_below hb).drew.trans (Kp.of_below hb3)
    · skip
      iterate 4 (refine IsRd.far ?_ hbr.symm _)
      exact hr3

set_option maxRecDepth 100000 in
set_option maxHeartbeats 400000 in
theorem step_since_yes (b : Nat) (a : Option Addr) (n m : Nat) (z : List Int) (p c q N T : Int) (w : World) (h : IsRd w b (.slice a n n) p c q) (hz : Bs w a n z) (ha : a = none → m = 0) (h0 : 0 ≤ p) (h1 : p ≤ n) (hm : n ≤ m) (hn : n ≤ 300) (hN0 : 0 ≤ N) (hN1 : N ≤ p) :
    Calls Try.prog 9 #[.pointer (some ⟨b, 0, none⟩), cv (.slice a n m) p c q, .agg #[.int .i64 5, .int .i64 N, .int .i64 T]] w (StepPost b a n m w) := by
  have hyif : (0 ≤ N ∧ N ≤ p) := ⟨hN0, hN1⟩
  have HN := Lib.hid hyif
  clear hyif
  obtain ⟨A', M, hsl, hA, hM, hcap⟩ := slice_lh hz m N p hN0 hN1 h1 hm
  go_enter Try.func9, Try.ntmps9
  go_wp2_with (at_builtin; go_must (refine list_append_bs rfl (.tmp 117) (.tmp 124) rfl (w.heap.size + 3) (.slice none 0 0) [] rfl (Own.nil _ _) _ _ _ _ rfl (hA.below (below_three _ _ _ _)) (fun h => by have := hcap h; have := ha this.1; omega) (by simp; omega) (by simp) ?_; intro v1 w1 hown hg; rw [List.nil_append] at hown; obtain ⟨hC, hD, hR, hb⟩ := three_new (Below.of_grown_none hg); obtain ⟨A1, M1, hv⟩ := hown.slice; subst hv; have hA1 := hown.bs.2; clear hsl hA))
  have hr1 := h.below hb
  have hz1 := hz.below hb
  have n0 : w.heap.size + 1 + 1 ≠ w.heap.size := by omega
  obtain ⟨x0, x1, x2, x3⟩ := hC.c4
  obtain ⟨d0, d1, d2⟩ := hD.c3
  have hbr : w.heap.size + 1 + 1 ≠ b := by have := h.lt; omega
  go_region_held3 (fun w' => w'.cell? ⟨w.heap.size, 0, none⟩ = some (.slice a n m) ∧ w'.cell? ⟨w.heap.size, 1, none⟩ = some (.int .i64 p) ∧ w'.cell? ⟨w.heap.size, 2, none⟩ = some (.int .i64 c) ∧ w'.cell? ⟨w.heap.size, 3, none⟩ = some (.int .i64 q) ∧ w'.cell? ⟨w.heap.size + 1, 1, none⟩ = some (.int .i64 N))
    (first
      | go_keep
      | exact sB)
    (first
      | (go_at_call 17; go_must (refine (since_bs _ _ _ _ _ _ _ _ _ _ (by exact hr1) (by exact hz1) h0 h1 (by omega) hn).mono ?_; rintro e w3 ⟨A3, k3, M3, rfl, hb3, hA3⟩; rw [if_pos HN.out] at hA3; have hr3 := IsRd.below (by exact hr1) hb3; have hX3 := Blk.below (show Blk _ w.heap.size _ _ by exact hC) hb3; have hD3 := Blk.below (show Blk _ (w.heap.size + 1) _ _ by exact hD) hb3; have hR3 := Blk.below (show Blk _ (w.heap.size + 1 + 1) _ _ by exact hR) hb3; have hA4 := Bs.below (show Bs _ A1 _ _ by exact hA1) hb3; have sB := And.intro hX3.c4.1 (And.intro hX3.c4.2.1 (And.intro hX3.c4.2.2.1 (And.intro hX3.c4.2.2.2 hD3.c3.2.1))); obtain ⟨r0, r1, r2, r3⟩ := hR3.c4; obtain ⟨g0, g1, g2, g3⟩ := hR3.f4))
      | (go_at_call 16; go_must (refine (same_any _ _ _ _ _ _ _ _ (by exact hA3) (by exact hA4)).mono ?_; rintro e w4 ⟨rfl, rfl⟩))
      | fail)
  go_wp2
  refine bodyPost_ret (v := .tuple #[cv (.slice a n m) p c q, .bool true]) (by simp [results, Try.results9, go_sem, r0, r1, r2, r3]) rfl ⟨_, _, _, rfl, ((⟨h0, h1⟩ : 0 ≤ p ∧ p ≤ n)).1, ((⟨h0, h1⟩ : 0 ≤ p ∧ p ≤ n)).2, ?_, ?_⟩
  · skip
    iterate 4 (refine Kp.far ?_ (show _ ≤ w.heap.size + 1 + 1 by omega) _)
    exact (Kp.of_below hb).drew.trans (Kp.of_below hb3)
  · skip
    iterate 4 (refine IsRd.far ?_ hbr.symm _)
    exact hr3
end Go.Proofs.Ytmbojcdliomifaa.Cur
