/- Written tokens expanded, by the program: the step of Bytes (its closure). -/
import Derived.Test.YtmpbiobbjnhjcaaExpH
namespace Go.Proofs.Ytmpbiobbjnhjcaa.Cur
open Go.RowKit Mem
set_option linter.unusedVariables false

def exs (z : List Int) (bound : Int) : Nat → Int → List Int → Rs (List Int)
  | 0, p, y => (y, p, 0, 0)
  | k + 1, p, y => if (z.length : Int) ≤ p then (y, p, 0, 0) else (ex z bound y p).bind [] fun y' p' => exs z bound k p' y'
theorem exs_stop {z : List Int} {bound : Int} {k : Nat} {p : Int} {y : List Int} (h : (z.length : Int) ≤ p) : exs z bound k p y = (y, p, 0, 0) := by
  cases k with
  | zero => rfl
  | succ k => show (if (z.length : Int) ≤ p then _ else _) = _; rw [if_pos h]
theorem exs_step {z : List Int} {bound : Int} {k : Nat} {p : Int} {y : List Int} (h : p < z.length) : exs z bound (k + 1) p y = (ex z bound y p).bind [] fun y' p' => exs z bound k p' y' := by
  show (if (z.length : Int) ≤ p then _ else _) = _; rw [if_neg (by omega)]
/-- What all written tokens make, or the code and place of the first fault. -/
def exg (z : List Int) (bound : Int) : Rs (List Int) := exs z bound (z.length + 1) 0 []
def exv (z : List Int) (bound : Int) : List Int × Int × Int := if (exg z bound).2.2.1 = 0 then ((exg z bound).1, 0, 0) else ([], (exg z bound).2.2.1, (exg z bound).2.2.2)

theorem ex_ok {z : List Int} {bound : Int} {y : List Int} {p : Int} (hby : ∀ x ∈ z, 0 ≤ x ∧ x < 256) (h0 : 0 ≤ p) (h1 : p ≤ z.length) (h : (ex z bound y p).2.2.1 = 0) :
    p + 1 ≤ (ex z bound y p).2.1 ∧ (ex z bound y p).2.1 ≤ z.length ∧ ex z bound y p = ((ex z bound y p).1, (ex z bound y p).2.1, 0, 0) := by
  obtain ⟨g1, g2⟩ := Rs.bind_ok h
  obtain ⟨v1, v2, e1⟩ := hd_ok' g1
  have e : ex z bound y p = if bound < (y.length : Int) + (hd z p).1.2 then ([], 0, 11, p) else (trb z (hd z p).1 (hd z p).2.1).bind [] fun t p2 => if (y.length : Int) < t.2.1 then ([], 0, 10, (hd z p).2.1) else (agn 0 id (y ++ t.1) t.2.1 t.2.2.toNat, p2, 0, 0) := g2
  by_cases hov : bound < (y.length : Int) + (hd z p).1.2
  · rw [if_pos hov] at e
    rw [e] at h
    exact absurd h (by show ¬ (11 : Int) = 0; decide)
  · rw [if_neg hov] at e
    rw [e] at h
    obtain ⟨t1, t2⟩ := Rs.bind_ok h
    have htr : tr z p = trb z (hd z p).1 (hd z p).2.1 := by unfold tr; rw [Rs.bind_of (v := (hd z p).1) (p' := (hd z p).2.1) (by rw [e1])]
    obtain ⟨k1, k2, k3, _⟩ := tr_once hby h0 h1 (by rw [htr]; exact t1)
    rw [htr] at k1 k2 k3
    rw [t2] at e h
    by_cases hof : (y.length : Int) < (trb z (hd z p).1 (hd z p).2.1).1.2.1
    · rw [if_pos hof] at h
      exact absurd h (by show ¬ (10 : Int) = 0; decide)
    · rw [if_neg hof] at e
      rw [e]
      exact ⟨k1, k2, rfl⟩

def StepPost (b B oc : Nat) (s : Value) (n : Nat) (g : Rs (List Int)) (w : World) (e : Ending) (w' : World) : Prop :=
  ∃ v y p' c' q', e = .returned (.tuple #[]) ∧ Own w' B v y ∧ Blk w' oc #[v] 25 ∧ Ks (fun k => k = b ∨ k = oc ∨ B ≤ k) w w' ∧ IsRd w' b s p' c' q' ∧ 0 ≤ p' ∧ p' ≤ n ∧ ExSt g y p' c' q'

set_option maxHeartbeats 1000000 in
theorem step_byte (b B oc bb : Nat) (a : Option Addr) (n m : Nat) (z y : List Int) (p bound : Int) (v : Value) (w : World) (hr : IsRd w b (.slice a n m) p 0 0) (hz : Bs w a n z) (h0 : 0 ≤ p) (h1 : p ≤ n) (hm : n ≤ m) (hn : n ≤ 100000) (hby : ∀ x ∈ z, 0 ≤ x ∧ x < 256)
    (ho : Own w B v y) (hB : B ≤ w.heap.size) (hbB : b < B) (hy : y.length ≤ 800000) (hg : (ex z bound y p).2.2.1 = 0 → (ex z bound y p).1.length ≤ 800000)
    (hoc : Blk w oc #[v] 25) (hbb : Blk w bb #[.int .i64 bound] 3) (hob : oc ≠ b) (hoB : oc < B) :
    Calls Try.prog 29 #[.pointer (some ⟨b, 0, none⟩), .pointer (some ⟨oc, 0, none⟩), .pointer (some ⟨bb, 0, none⟩)] w (StepPost b B oc (.slice a n m) n (ex z bound y p) w) := by
  obtain ⟨Av, cv, rfl⟩ := ho.slice
  have o0 := hoc.c1
  have b0 := hbb.c1
  have hx := extend_any b B a n m z y p bound _ w hr hz h0 h1 hm hn hby ho hB hbB hy hg
  clear hr hz hg ho hbb
  go_enter Try.func29, Try.ntmps29
  go_wp2_with fail
  refine hx.mono ?_
  rintro e w1 ⟨v1, y1, p1, c1, q1, rfl, ho1, hk1, hr1, p10, p11, hs1⟩
  have hoc1 := hoc.ks hk1 (fun h => by rcases h with h | h <;> omega)
  obtain ⟨A1, m1, rfl⟩ := ho1.slice
  clear o0 b0
  have o0 := hoc1.c1
  have o1 := hoc1.free 0
  have hkE := ((Ks.refl (fun k => k = b ∨ k = oc ∨ B ≤ k) w).trans' hk1 (fun i _ h => by rcases h with h | h; exact .inl h; exact .inr (.inr h))).trans (Ks.setCell w1 oc 0 (.slice A1 y1.length m1) (.inr (.inl rfl)))
  go_wp2
  go_end0
  exact ⟨_, y1, p1, c1, q1, rfl, ho1.far (p := ⟨oc, 0, none⟩) hoB _, hoc1.set 0 _, hkE, hr1.kp (Kp.setCell _ oc 0 _) hob.symm, p10, p11, hs1⟩
end Go.Proofs.Ytmpbiobbjnhjcaa.Cur
