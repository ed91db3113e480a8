/- The contracts of the reader's own functions (package cursor), second part: Skip, End, New, cut, Take, Byte, Since. -/
import Derived.Test.YtkedmhopajpkhaaCurA
namespace Go.Proofs.Ytkedmhopajpkhaa.Cur
open Go.RowKit
set_option linter.unusedVariables false

/-- What Skip of x does to place, code and place of the fault. -/
def SkipSt (n : Nat) (p c q x : Int) (ok : Bool) (p' c' q' : Int) : Prop :=
  (c ≠ 0 ∧ ok = false ∧ p' = p ∧ c' = c ∧ q' = q) ∨
  (c = 0 ∧ x < 0 ∧ ok = false ∧ p' = p ∧ c' = 17 ∧ q' = p) ∨
  (c = 0 ∧ (n : Int) - p < x ∧ ok = false ∧ p' = p ∧ c' = 1 ∧ q' = n) ∨
  (c = 0 ∧ 0 ≤ x ∧ x ≤ n - p ∧ ok = true ∧ p' = p + x ∧ c' = c ∧ q' = q)

def SkipPost (b : Nat) (s : Value) (n : Nat) (p c q x : Int) (w : World) (e : Ending) (w' : World) : Prop :=
  ∃ ok p' c' q', e = .returned (.bool ok) ∧ Kp b w w' ∧ IsRd w' b s p' c' q' ∧ SkipSt n p c q x ok p' c' q'

theorem IsRd.drewN {w : World} {b : Nat} {s : Value} {p c q : Int} (h : IsRd w b s p c q) (k : Nat) : IsRd (w.drewN k) b s p c q := h
set_option maxHeartbeats 400000 in
theorem skip_bad (b : Nat) (a : Option Addr) (n m : Nat) (p c q x : Int) (w : World) (h : IsRd w b (.slice a n m) p c q) (h0 : 0 ≤ p) (h1 : p ≤ n) (hn : n ≤ 1000000) (hc : (c == 0) = false) :
    Calls Try.prog 53 #[.pointer (some ⟨b, 0, none⟩), .int .i64 x] w (SkipPost b (.slice a n m) n p c q x w) := by
  have hc' : c ≠ 0 := by simpa using hc
  have H := Lib.hid hc'
  clear hc'
  by_cases hx : x < 0
  · go_enter Try.func53, Try.ntmps53
    go_wp2_with fail
    refine (at_any _ _ _ _ _ _ h).mono ?_
    rintro e w0 ⟨rfl, rfl⟩
    go_wp2_with fail
    refine (fail_no _ _ _ _ _ _ _ _ h hc).mono ?_
    rintro e w1 ⟨rfl, hb1⟩
    have h2 := h.below hb1
    go_wp2_with fail
    refine (left_any _ _ _ _ _ _ _ _ h2 h0 h1 hn).mono ?_
    rintro e w2 ⟨rfl, k, rfl⟩
    go_wp2_with fail
    refine (good_any _ _ _ _ _ _ (h2.drewN k)).mono ?_
    rintro e w3 ⟨rfl, hb3⟩
    go_wp2
    go_ret
    exact ⟨false, p, c, q, rfl, ((Kp.of_below hb1).trans (Kp.drewN _ _ _)).trans (Kp.of_below hb3), (h2.drewN k).below hb3, .inl ⟨H.out, rfl, rfl, rfl, rfl⟩⟩
  · by_cases hy : (n : Int) - p < x
    · go_enter Try.func53, Try.ntmps53
      go_wp2_with fail
      refine (left_any _ _ _ _ _ _ _ _ h h0 h1 hn).mono ?_
      rintro e w2 ⟨rfl, k, rfl⟩
      go_wp2_with fail
      refine (at_any _ _ _ _ _ _ (h.drewN k)).mono ?_
      rintro e w0 ⟨rfl, rfl⟩
      go_wp2_with fail
      refine (left_any _ _ _ _ _ _ _ _ (h.drewN k) h0 h1 hn).mono ?_
      rintro e w2 ⟨rfl, k2, rfl⟩
      go_wp2_with fail
      refine (fail_no _ _ _ _ _ _ _ _ (h.drewN (k + k2)) hc).mono ?_
      rintro e w1 ⟨rfl, hb1⟩
      have h2 := (h.drewN (k + k2)).below hb1
      go_wp2_with fail
      refine (good_any _ _ _ _ _ _ h2).mono ?_
      rintro e w3 ⟨rfl, hb3⟩
      go_wp2
      go_ret
      exact ⟨false, p, c, q, rfl, ((Kp.drewN _ _ _).trans (Kp.of_below hb1)).trans (Kp.of_below hb3), h2.below hb3, .inl ⟨H.out, rfl, rfl, rfl, rfl⟩⟩
    · go_enter Try.func53, Try.ntmps53
      go_wp2_with fail
      refine (left_any _ _ _ _ _ _ _ _ h h0 h1 hn).mono ?_
      rintro e w2 ⟨rfl, k, rfl⟩
      go_wp2_with fail
      refine (good_any _ _ _ _ _ _ (h.drewN k)).mono ?_
      rintro e w3 ⟨rfl, hb3⟩
      go_wp2
      go_ret
      exact ⟨false, p, c, q, rfl, (Kp.drewN _ _ _).trans (Kp.of_below hb3), (h.drewN k).below hb3, .inl ⟨H.out, rfl, rfl, rfl, rfl⟩⟩

set_option maxHeartbeats 400000 in
theorem skip_good (b : Nat) (a : Option Addr) (n m : Nat) (p q x : Int) (w : World) (h : IsRd w b (.slice a n m) p 0 q) (h0 : 0 ≤ p) (h1 : p ≤ n) (hn : n ≤ 1000000) :
    Calls Try.prog 53 #[.pointer (some ⟨b, 0, none⟩), .int .i64 x] w (SkipPost b (.slice a n m) n p 0 q x w) := by
  by_cases hx : x < 0
  · go_enter Try.func53, Try.ntmps53
    go_wp2_with fail
    refine (at_any _ _ _ _ _ _ h).mono ?_
    rintro e w0 ⟨rfl, rfl⟩
    go_wp2_with fail
    refine (fail_yes _ _ _ _ _ _ _ h).mono ?_
    rintro e w1 ⟨rfl, hb1, h2⟩
    go_wp2_with fail
    refine (left_any _ _ _ _ _ _ _ _ h2 h0 h1 hn).mono ?_
    rintro e w2 ⟨rfl, k, rfl⟩
    go_wp2_with fail
    refine (good_any _ _ _ _ _ _ (h2.drewN k)).mono ?_
    rintro e w3 ⟨rfl, hb3⟩
    go_wp2
    go_ret
    exact ⟨false, p, 17, fq 17 p, rfl, (hb1.trans (Kp.drewN _ _ _)).trans (Kp.of_below hb3), (h2.drewN k).below hb3, .inr (.inl ⟨rfl, hx, rfl, rfl, rfl, by simp [fq]⟩)⟩
  · by_cases hy : (n : Int) - p < x
    · go_enter Try.func53, Try.ntmps53
      go_wp2_with fail
      refine (left_any _ _ _ _ _ _ _ _ h h0 h1 hn).mono ?_
      rintro e w2 ⟨rfl, k, rfl⟩
      go_wp2_with fail
      refine (at_any _ _ _ _ _ _ (h.drewN k)).mono ?_
      rintro e w0 ⟨rfl, rfl⟩
      go_wp2_with fail
      refine (left_any _ _ _ _ _ _ _ _ (h.drewN k) h0 h1 hn).mono ?_
      rintro e w2 ⟨rfl, k2, rfl⟩
      go_wp2_with fail
      refine (fail_yes _ _ _ _ _ _ _ (h.drewN (k + k2))).mono ?_
      rintro e w1 ⟨rfl, hb1, h2⟩
      go_wp2_with fail
      refine (good_any _ _ _ _ _ _ h2).mono ?_
      rintro e w3 ⟨rfl, hb3⟩
      go_wp2
      go_ret
      exact ⟨false, p, 1, fq 1 (p + (n - p)), rfl, ((Kp.drewN _ _ _).trans hb1).trans (Kp.of_below hb3), h2.below hb3, .inr (.inr (.inl ⟨rfl, hy, rfl, rfl, rfl, by simp [fq]; omega⟩))⟩
    · go_enter Try.func53, Try.ntmps53
      go_wp2_with fail
      refine (left_any _ _ _ _ _ _ _ _ h h0 h1 hn).mono ?_
      rintro e w2 ⟨rfl, k, rfl⟩
      go_wp2_with fail
      refine (good_any _ _ _ _ _ _ (h.drewN k)).mono ?_
      rintro e w3 ⟨rfl, hb3⟩
      have h3 := (h.drewN k).below hb3
      obtain ⟨c0, c1, c2, c3⟩ := h3.cells
      have f1 := h3.free 1
      clear c0 c2 c3
      go_wp2
      go_ret
      exact ⟨true, p + x, 0, q, rfl, ((Kp.drewN _ _ _).trans (Kp.of_below hb3)).trans (Kp.setCell _ _ _ _), h3.set1 _, .inr (.inr (.inr ⟨rfl, by omega, by omega, rfl, rfl, rfl, rfl⟩))⟩

theorem skip_any (b : Nat) (a : Option Addr) (n m : Nat) (p c q x : Int) (w : World) (h : IsRd w b (.slice a n m) p c q) (h0 : 0 ≤ p) (h1 : p ≤ n) (hn : n ≤ 1000000) :
    Calls Try.prog 53 #[.pointer (some ⟨b, 0, none⟩), .int .i64 x] w (SkipPost b (.slice a n m) n p c q x w) := by
  by_cases hc : c = 0
  · subst hc; exact skip_good b a n m p q x w h h0 h1 hn
  · exact skip_bad b a n m p c q x w h h0 h1 hn (by simpa using hc)

set_option maxHeartbeats 400000 in
theorem skip_none (x : Int) (w : World) :
    Calls Try.prog 53 #[.pointer none, .int .i64 x] w fun e w' => e = .returned (.bool false) ∧ Below w.heap.size w w' := by
  by_cases hx : x < 0
  · go_enter Try.func53, Try.ntmps53
    go_wp2_with fail
    refine (at_none _).mono ?_
    rintro e w0 ⟨rfl, rfl⟩
    go_wp2_with fail
    refine (fail_none _ _ _).mono ?_
    rintro e w1 ⟨rfl, hb1⟩
    go_wp2_with fail
    refine (left_none _).mono ?_
    rintro e w2 ⟨rfl, rfl⟩
    go_wp2_with fail
    refine (good_none _).mono ?_
    rintro e w3 ⟨rfl, hb3⟩
    go_wp2
    go_ret
    exact ⟨rfl, hb1.trans (hb3.mono hb1.size)⟩
  · by_cases hy : 0 < x
    · go_enter Try.func53, Try.ntmps53
      go_wp2_with fail
      refine (left_none _).mono ?_
      rintro e w2 ⟨rfl, rfl⟩
      go_wp2_with fail
      refine (at_none _).mono ?_
      rintro e w0 ⟨rfl, rfl⟩
      go_wp2_with fail
      refine (left_none _).mono ?_
      rintro e w2 ⟨rfl, rfl⟩
      go_wp2_with fail
      refine (fail_none _ _ _).mono ?_
      rintro e w1 ⟨rfl, hb1⟩
      go_wp2_with fail
      refine (good_none _).mono ?_
      rintro e w3 ⟨rfl, hb3⟩
      go_wp2
      go_ret
      exact ⟨rfl, hb1.trans (hb3.mono hb1.size)⟩
    · go_enter Try.func53, Try.ntmps53
      go_wp2_with fail
      refine (left_none _).mono ?_
      rintro e w2 ⟨rfl, rfl⟩
      go_wp2_with fail
      refine (good_none _).mono ?_
      rintro e w3 ⟨rfl, hb3⟩
      go_wp2
      go_ret
      exact ⟨rfl, hb3⟩

def EndPost (b : Nat) (s : Value) (n : Nat) (p c q : Int) (w : World) (e : Ending) (w' : World) : Prop :=
  ∃ c' q', e = .returned (.tuple #[]) ∧ Kp b w w' ∧ IsRd w' b s p c' q' ∧ (if c = 0 ∧ p < n then c' = 9 ∧ q' = p else c' = c ∧ q' = q)

set_option maxHeartbeats 400000 in
theorem new_any (a : Option Addr) (n m : Nat) (w : World) (hm : n ≤ m) :
    Calls Try.prog 17 #[.slice a n m] w fun e w' => e = .returned (.pointer (some ⟨w.heap.size, 0, none⟩)) ∧ Below w.heap.size w w' ∧ w'.heap.size = w.heap.size + 1 ∧ IsRd w' w.heap.size (.slice a n n) 0 0 0 := by
  go_enter Try.func17, Try.ntmps17
  go_wp2
  go_ret
  exact ⟨rfl, (Below.refl _ _).alloc (Nat.le_refl _) _, by simp, heap_alloc_new _ _⟩
def FailSt (c q c' q' c2 q2 : Int) : Prop := (c = 0 ∧ c2 = c' ∧ q2 = fq c' q') ∨ (c ≠ 0 ∧ c2 = c ∧ q2 = q)
theorem FailSt.det {c q c' q' c2 q2 c3 q3 : Int} (h : FailSt c q c' q' c2 q2) (k : FailSt c q c' q' c3 q3) : c2 = c3 ∧ q2 = q3 := by
  rcases h with ⟨a, rfl, rfl⟩ | ⟨a, rfl, rfl⟩ <;> rcases k with ⟨b, rfl, rfl⟩ | ⟨b, rfl, rfl⟩ <;> first | exact ⟨rfl, rfl⟩ | exact absurd a b | exact absurd b a
def FailPost (b : Nat) (s : Value) (p c q c' q' : Int) (w : World) (e : Ending) (w' : World) : Prop := ∃ c2 q2, e = .returned (.tuple #[]) ∧ Kp b w w' ∧ IsRd w' b s p c2 q2 ∧ FailSt c q c' q' c2 q2
theorem fail_any (b : Nat) (s : Value) (p c q c' q' : Int) (w : World) (h : IsRd w b s p c q) :
    Calls Try.prog 52 #[.pointer (some ⟨b, 0, none⟩), .int .i64 c', .int .i64 q'] w (FailPost b s p c q c' q' w) := by
  by_cases hc : c = 0
  · subst hc
    exact (fail_yes b s p q c' q' w h).mono fun e w' ⟨he, hk, hr⟩ => ⟨_, _, he, hk, hr, .inl ⟨rfl, rfl, rfl⟩⟩
  · exact (fail_no b s p c q c' q' w h (by simpa using hc)).mono fun e w' ⟨he, hb⟩ => ⟨_, _, he, Kp.of_below hb, h.below hb, .inr ⟨hc, rfl, rfl⟩⟩
end Go.Proofs.Ytkedmhopajpkhaa.Cur
