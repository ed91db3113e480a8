/- The document's own reader, as a value (package tholepinref02): Fail, Take, End, Part; and the reader's Part. -/
import Derived.Test.YtkedmhopajpkhaaCurG
import Derived.Test.YtkedmhopajpkhaaMem
import Derived.Deep.RegionHeld3
import Derived.Outline
namespace Go.Proofs.Ytkedmhopajpkhaa.Cur
open Go.RowKit Mem
set_option linter.unusedVariables false

/-- The document's reader as a value. -/
abbrev cv (s : Value) (p c q : Int) : Value := .agg #[s, .int .i64 p, .int .i64 c, .int .i64 q]

set_option maxHeartbeats 400000 in
theorem rat_any (c q : Int) (w : World) :
    Calls Try.prog 50 #[.int .i64 c, .int .i64 q] w fun e w' => e = .returned (.agg #[.int .i64 c, .int .i64 (fq c q)]) ∧ Below w.heap.size w w' := by
  by_cases hc : c = 0
  · obtain rfl := hc
    go_enter Try.func50, Try.ntmps50
    go_wp2
    refine bodyPost_ret (v := .agg #[.int .i64 0, .int .i64 0]) (by simp [results, Try.results50, go_sem]) rfl ⟨rfl, ?_⟩
    exact (((Below.refl _ _).alloc (Nat.le_refl _) _).alloc (by simp) _)
  · have hb : (c != 0) = true := by simp [hc]
    have e : fq c q = q := by simp [fq, hc]
    rw [e]
    clear e
    go_enter Try.func50, Try.ntmps50
    go_wp2
    refine bodyPost_ret (v := .agg #[.int .i64 c, .int .i64 q]) (by simp [results, Try.results50, go_sem]) rfl ⟨rfl, ?_⟩
    exact (((Below.refl _ _).alloc (Nat.le_refl _) _).alloc (by simp) _)

set_option maxHeartbeats 400000 in
theorem rfail_yes (s : Value) (p q c' q' : Int) (w : World) (hs : ∃ A n m, s = .slice A n m) :
    Calls Try.prog 48 #[cv s p 0 q, .int .i64 c', .int .i64 q'] w fun e w' => e = .returned (cv s p c' (fq c' q')) ∧ Below w.heap.size w w' := by
  obtain ⟨A, n, m, rfl⟩ := hs
  go_enter Try.func48, Try.ntmps48
  go_wp2_with fail
  refine (rat_any _ _ _).mono ?_
  rintro e w1 ⟨rfl, hb⟩
  obtain ⟨h0, h1, hb⟩ := two_new hb
  obtain ⟨c0, c1, c2, c3⟩ := h0.c4
  obtain ⟨f0, f1, f2, f3⟩ := h0.f4
  obtain ⟨d0, d1, d2, d3⟩ := h1.c4
  obtain ⟨g0, g1, g2, g3⟩ := h1.f4
  clear f0 f1
  go_wp2
  refine bodyPost_ret (v := cv (.slice A n m) p c' (fq c' q')) (by simp [results, Try.results48, go_sem, d0, d1, d2, d3]) rfl ⟨rfl, ?_⟩
  iterate 6 (refine Below.setCell ?_ (by simp) _)
  exact hb

set_option maxHeartbeats 400000 in
theorem rfail_no (s : Value) (p c q c' q' : Int) (w : World) (hs : ∃ A n m, s = .slice A n m) (hc : (c == 0) = false) :
    Calls Try.prog 48 #[cv s p c q, .int .i64 c', .int .i64 q'] w fun e w' => e = .returned (cv s p c q) ∧ Below w.heap.size w w' := by
  obtain ⟨A, n, m, rfl⟩ := hs
  go_enter Try.func48, Try.ntmps48
  go_wp2
  refine bodyPost_ret (v := cv (.slice A n m) p c q) (by simp [results, Try.results48, go_sem]) rfl ⟨rfl, ?_⟩
  exact below_two _ _ _

/-- What the document's End does. -/
def REndPost (s : Value) (n : Nat) (p c q : Int) (w : World) (e : Ending) (w' : World) : Prop :=
  ∃ c' q', e = .returned (cv s p c' q') ∧ Below w.heap.size w w' ∧ (if c = 0 ∧ p < n then c' = 9 ∧ q' = p else c' = c ∧ q' = q)

/-- The place up to which a part goes, from p on. -/
def partEnd (n : Nat) (p x : Int) : Nat := (p + (if (n : Int) - p < (if x < 0 then 0 else x) then (n : Int) - p else (if x < 0 then 0 else x))).toNat

theorem partEnd_le (n : Nat) (p x : Int) (h0 : 0 ≤ p) (h1 : p ≤ n) : p.toNat ≤ partEnd n p x ∧ partEnd n p x ≤ n := by
  unfold partEnd
  constructor <;> (repeat' split) <;> omega

def RPartPost (A : Option Addr) (n m : Nat) (p x : Int) (w : World) (e : Ending) (w' : World) : Prop :=
  e = .returned (cv (.slice A (partEnd n p x) m) p 0 0) ∧ Below w.heap.size w w'

/-- What the document's Take hands back. -/
def RTakePost (s : Value) (n : Nat) (z : List Int) (p c q x : Int) (w : World) (e : Ending) (w' : World) : Prop :=
  ∃ ok p' c' q' A k m, e = .returned (.tuple #[cv s p' c' q', .slice A k m]) ∧ Below w.heap.size w w' ∧ SkipSt n p c q x ok p' c' q' ∧ Bs w' A k (if ok = true then piece z p.toNat (p + x).toNat else []) ∧ k ≤ m

set_option maxHeartbeats 400000 in
theorem rtake_any (a : Option Addr) (n m : Nat) (z : List Int) (p c q x : Int) (w : World) (hz : Bs w a n z) (ha : a = none → m = 0) (h0 : 0 ≤ p) (h1 : p ≤ n) (hm : n ≤ m) (hn : n ≤ 1000000) :
    Calls Try.prog 36 #[cv (.slice a n m) p c q, .int .i64 x] w (RTakePost (.slice a n m) n z p c q x w) := by
  by_cases hc : c = 0
  · subst hc
    by_cases hx : x < 0
    · go_enter Try.func36, Try.ntmps36
      go_wp2_with fail
      refine (rfail_yes _ _ _ _ _ _ ⟨_, _, _, rfl⟩).mono ?_
      rintro e w1 ⟨rfl, hb⟩
      obtain ⟨h0, h1, hb⟩ := two_new hb
      obtain ⟨d0, d1, d2, d3⟩ := h1.c4
      obtain ⟨g0, g1, g2, g3⟩ := h1.f4
      go_wp2
      refine bodyPost_ret (v := .tuple #[cv (.slice a n m) p 17 (fq 17 p), .slice none 0 0]) (by simp [results, Try.results36, go_sem, d0, d1, d2, d3]) rfl ⟨false, _, _, _, _, _, _, rfl, ?_, .inr (.inl ⟨rfl, hx, rfl, rfl, rfl, by simp [fq]⟩), Bs.none _, Nat.le_refl _⟩
      iterate 4 (refine Below.setCell ?_ (by simp) _)
      exact hb
    · by_cases hy : (n : Int) - p < x
      · go_enter Try.func36, Try.ntmps36
        go_wp2_with fail
        refine (rfail_yes _ _ _ _ _ _ ⟨_, _, _, rfl⟩).mono ?_
        rintro e w1 ⟨rfl, hb⟩
        obtain ⟨h0, h1, hb⟩ := two_new hb
        obtain ⟨d0, d1, d2, d3⟩ := h1.c4
        obtain ⟨g0, g1, g2, g3⟩ := h1.f4
        go_wp2
        refine bodyPost_ret (v := .tuple #[cv (.slice a n m) p 1 (fq 1 n), .slice none 0 0]) (by simp [results, Try.results36, go_sem, d0, d1, d2, d3]) rfl ⟨false, _, _, _, _, _, _, rfl, ?_, .inr (.inr (.inl ⟨rfl, hy, rfl, rfl, rfl, by simp [fq]⟩)), Bs.none _, Nat.le_refl _⟩
        iterate 4 (refine Below.setCell ?_ (by simp) _)
        exact hb
      · obtain ⟨A', M, hsl, hA, hM, hN⟩ := slice_lh hz m p (p + x) h0 (by omega) (by omega) hm
        have e : (p + x - p).toNat = x.toNat := by omega
        rw [e] at hsl hA hM
        clear e
        go_enter Try.func36, Try.ntmps36
        go_wp2_with (at_builtin; go_must (refine list_append_bs rfl (.tmp 31) (.tmp 40) rfl (w.heap.size + 2) (.slice none 0 0) [] rfl (Own.nil _ _) _ _ _ _ rfl (hA.below (below_two _ _ _)) (fun h => by have := hN h; have := ha this.1; omega) (by simp; omega) (by simp) ?_; intro v1 w1 hown hg; rw [List.nil_append] at hown; obtain ⟨h0, h1, hb⟩ := two_new (Below.of_grown_none hg); obtain ⟨A1, M1, hv⟩ := hown.slice; subst hv; have hcap := hown.cap; obtain ⟨c0, c1, c2, c3⟩ := h0.c4; obtain ⟨f0, f1, f2, f3⟩ := h0.f4; obtain ⟨d0, d1, d2, d3⟩ := h1.c4; obtain ⟨g0, g1, g2, g3⟩ := h1.f4; clear hsl hA f0 f2 f3))
        refine bodyPost_ret (v := .tuple #[cv (.slice a n m) (p + x) 0 q, .slice A1 (piece z p.toNat (p + x).toNat).length M1]) (by simp [results, Try.results36, go_sem, d0, d1, d2, d3]) rfl ⟨true, _, _, _, _, _, _, rfl, ?_, .inr (.inr (.inr ⟨rfl, hx, hy, rfl, rfl, rfl, rfl⟩)), ?_, hcap⟩
        · iterate 5 (refine Below.setCell ?_ (by simp) _)
          exact hb
        · refine (Own.bs (B := w.heap.size + 2) (c := M1) ?_).2
          iterate 5 (refine Own.far ?_ (by simp) _)
          exact hown
  · have hcb : (c != 0) = true := by simpa using hc
    have H := Lib.hid hc
    clear hc
    go_enter Try.func36, Try.ntmps36
    go_wp2
    refine bodyPost_ret (v := .tuple #[cv (.slice a n m) p c q, .slice none 0 0]) (by simp [results, Try.results36, go_sem]) rfl ⟨false, _, _, _, _, _, _, rfl, below_two _ _ _, .inl ⟨H.out, rfl, rfl, rfl, rfl⟩, Bs.none _, Nat.le_refl _⟩

def PartPost (a : Option Addr) (k : Nat) (p : Int) (w : World) (e : Ending) (w' : World) : Prop :=
  ∃ g, e = .returned (.pointer (some ⟨g, 0, none⟩)) ∧ w.heap.size ≤ g ∧ Below w.heap.size w w' ∧ IsRd w' g (.slice a k k) p 0 0

def RFailPost (s : Value) (p c q c' q' : Int) (w : World) (e : Ending) (w' : World) : Prop := ∃ c2 q2, e = .returned (cv s p c2 q2) ∧ Below w.heap.size w w' ∧ FailSt c q c' q' c2 q2
theorem rfail_any (A : Option Addr) (n m : Nat) (p c q c' q' : Int) (w : World) :
    Calls Try.prog 48 #[cv (.slice A n m) p c q, .int .i64 c', .int .i64 q'] w (RFailPost (.slice A n m) p c q c' q' w) := by
  by_cases hc : c = 0
  · subst hc
    exact (rfail_yes _ p q c' q' w ⟨_, _, _, rfl⟩).mono fun e w' ⟨he, hb⟩ => ⟨_, _, he, hb, .inl ⟨rfl, rfl, rfl⟩⟩
  · exact (rfail_no _ p c q c' q' w ⟨_, _, _, rfl⟩ (by simpa using hc)).mono fun e w' ⟨he, hb⟩ => ⟨_, _, he, hb, .inr ⟨hc, rfl, rfl⟩⟩
end Go.Proofs.Ytkedmhopajpkhaa.Cur
