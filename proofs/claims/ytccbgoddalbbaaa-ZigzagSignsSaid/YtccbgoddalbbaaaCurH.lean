/- The document's own reader, as a value (package tholepinref02): Fail, Take, End, Part; and the reader's Part. -/
import Derived.Test.YtccbgoddalbbaaaCurG
import Derived.Test.YtccbgoddalbbaaaMem
import Derived.Deep.RegionHeld3
import Derived.Outline
namespace Go.Proofs.Ytccbgoddalbbaaa.Cur
open Go.RowKit Mem
set_option linter.unusedVariables false

/-- The document's reader as a value. -/
abbrev cv (s : Value) (p c q : Int) : Value := .agg #[s, .int .i64 p, .int .i64 c, .int .i64 q]

set_option maxHeartbeats 400000 in
theorem rat_any (c q : Int) (w : World) :
    Calls Try.prog 34 #[.int .i64 c, .int .i64 q] w fun e w' => e = .returned (.agg #[.int .i64 c, .int .i64 (fq c q)]) ∧ Below w.heap.size w w' := by
  by_cases hc : c = 0
  · obtain rfl := hc
    go_enter Try.func34, Try.ntmps34
    go_wp2
    refine bodyPost_ret (v := .agg #[.int .i64 0, .int .i64 0]) (by simp [results, Try.results34, go_sem]) rfl ⟨rfl, ?_⟩
    exact (((Below.refl _ _).alloc (Nat.le_refl _) _).alloc (by simp) _)
  · have hb : (c != 0) = true := by simp [hc]
    have e : fq c q = q := by simp [fq, hc]
    rw [e]
    clear e
    go_enter Try.func34, Try.ntmps34
    go_wp2
    refine bodyPost_ret (v := .agg #[.int .i64 c, .int .i64 q]) (by simp [results, Try.results34, go_sem]) rfl ⟨rfl, ?_⟩
    exact (((Below.refl _ _).alloc (Nat.le_refl _) _).alloc (by simp) _)

set_option maxHeartbeats 400000 in
theorem rfail_yes (s : Value) (p q c' q' : Int) (w : World) (hs : ∃ A n m, s = .slice A n m) :
    Calls Try.prog 41 #[cv s p 0 q, .int .i64 c', .int .i64 q'] w fun e w' => e = .returned (cv s p c' (fq c' q')) ∧ Below w.heap.size w w' := by
  obtain ⟨A, n, m, rfl⟩ := hs
  go_enter Try.func41, Try.ntmps41
  go_wp2_with fail
  refine (rat_any _ _ _).mono ?_
  rintro e w1 ⟨rfl, hb⟩
  obtain ⟨h0, h1, hb⟩ := two_new hb
  obtain ⟨c0, c1, c2, c3⟩ := h0.c4
  obtain ⟨f0, f1, f2, f3⟩ := h0.f4
  obtain ⟨d0, d1, d2, d3⟩ := h1.c4
  obtain ⟨g0, g1, g2, g3⟩ := h1.f4
  clear f0 f1
  go_wp2
  refine bodyPost_ret (v := cv (.slice A n m) p c' (fq c' q')) (by simp [results, Try.results41, go_sem, d0, d1, d2, d3]) rfl ⟨rfl, ?_⟩
  iterate 6 (refine Below.setCell ?_ (by simp) _)
  exact hb

set_option maxHeartbeats 400000 in
theorem rfail_no (s : Value) (p c q c' q' : Int) (w : World) (hs : ∃ A n m, s = .slice A n m) (hc : (c == 0) = false) :
    Calls Try.prog 41 #[cv s p c q, .int .i64 c', .int .i64 q'] w fun e w' => e = .returned (cv s p c q) ∧ Below w.heap.size w w' := by
  obtain ⟨A, n, m, rfl⟩ := hs
  go_enter Try.func41, Try.ntmps41
  go_wp2
  refine bodyPost_ret (v := cv (.slice A n m) p c q) (by simp [results, Try.results41, go_sem]) rfl ⟨rfl, ?_⟩
  exact below_two _ _ _

/-- What the document's End does. -/
def REndPost (s : Value) (n : Nat) (p c q : Int) (w : World) (e : Ending) (w' : World) : Prop :=
  ∃ c' q', e = .returned (cv s p c' q') ∧ Below w.heap.size w w' ∧ (if c = 0 ∧ p < n then c' = 9 ∧ q' = p else c' = c ∧ q' = q)

/-- The place up to which a part goes, from p on. -/
def partEnd (n : Nat) (p x : Int) : Nat := (p + (if (n : Int) - p < (if x < 0 then 0 else x) then (n : Int) - p else (if x < 0 then 0 else x))).toNat

theorem partEnd_le (n : Nat) (p x : Int) (h0 : 0 ≤ p) (h1 : p ≤ n) : p.toNat ≤ partEnd n p x ∧ partEnd n p x ≤ n := by
  unfold partEnd
  constructor <;> (repeat' split) <;> omega

def RPartPost (A : Option Addr) (n m : Nat) (p x : Int) (w : World) (e : Ending) (w' : World) : Prop :=
  e = .returned (cv (.slice A (partEnd n p x) m) p 0 0) ∧ Below w.heap.size w w'

/-- What the document's Take hands back. -/
def RTakePost (s : Value) (n : Nat) (z : List Int) (p c q x : Int) (w : World) (e : Ending) (w' : World) : Prop :=
  ∃ ok p' c' q' A k m, e = .returned (.tuple #[cv s p' c' q', .slice A k m]) ∧ Below w.heap.size w w' ∧ SkipSt n p c q x ok p' c' q' ∧ Bs w' A k (if ok = true then piece z p.toNat (p + x).toNat else []) ∧ k ≤ m

def PartPost (a : Option Addr) (k : Nat) (p : Int) (w : World) (e : Ending) (w' : World) : Prop :=
  ∃ g, e = .returned (.pointer (some ⟨g, 0, none⟩)) ∧ w.heap.size ≤ g ∧ Below w.heap.size w w' ∧ IsRd w' g (.slice a k k) p 0 0

def RFailPost (s : Value) (p c q c' q' : Int) (w : World) (e : Ending) (w' : World) : Prop := ∃ c2 q2, e = .returned (cv s p c2 q2) ∧ Below w.heap.size w w' ∧ FailSt c q c' q' c2 q2
theorem rfail_any (A : Option Addr) (n m : Nat) (p c q c' q' : Int) (w : World) :
    Calls Try.prog 41 #[cv (.slice A n m) p c q, .int .i64 c', .int .i64 q'] w (RFailPost (.slice A n m) p c q c' q' w) := by
  by_cases hc : c = 0
  · subst hc
    exact (rfail_yes _ p q c' q' w ⟨_, _, _, rfl⟩).mono fun e w' ⟨he, hb⟩ => ⟨_, _, he, hb, .inl ⟨rfl, rfl, rfl⟩⟩
  · exact (rfail_no _ p c q c' q' w ⟨_, _, _, rfl⟩ (by simpa using hc)).mono fun e w' ⟨he, hb⟩ => ⟨_, _, he, hb, .inr ⟨hc, rfl, rfl⟩⟩
end Go.Proofs.Ytccbgoddalbbaaa.Cur
