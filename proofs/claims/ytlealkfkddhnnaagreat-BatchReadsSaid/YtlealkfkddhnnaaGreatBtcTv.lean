/- As the seat's text, without what nothing here names. -/
import Derived.Test.YtlealkfkddhnnaaGreatBtcGv
namespace Go.Proofs.YtlealkfkddhnnaaGreat.Cur
open Go.RowKit Mem
set_option linter.unusedVariables false
def Cu {α : Type} (n c : Nat) (p : Int) (g h : Rs α) : Prop := g.2.2.1 = 0 → p ≤ g.2.1 ∧ g.2.1 ≤ n ∧ (p ≤ c → (g.2.1 ≤ c ∧ h.1 = g.1 ∧ h.2.1 = g.2.1 ∧ h.2.2.1 = 0) ∨ ((c : Int) < g.2.1 ∧ h.2.2.1 = 1 ∧ h.2.2.2 = c))
theorem Cu.done {α : Type} {n c : Nat} {p : Int} (v : α) (q q' : Int) (hn : p ≤ n) : Cu n c p ((v, p, 0, q) : Rs α) (v, p, 0, q') := fun _ => ⟨Int.le_refl _, hn, fun hc => .inl ⟨hc, rfl, rfl, rfl⟩⟩
theorem Cu.fail {α : Type} {n c : Nat} {p : Int} {g h : Rs α} (hg : g.2.2.1 ≠ 0) : Cu n c p g h := fun e => absurd e hg
theorem Cu.bind {α β : Type} {n c : Nat} {p : Int} {g h : Rs α} {d : β} {f f' : α → Int → Rs β} (h0 : 0 ≤ p) (hg : Cu n c p g h) (hf : ∀ (v : α) (p1 : Int), 0 ≤ p1 → p1 ≤ n → Cu n c p1 (f v p1) (f' v p1)) : Cu n c p (g.bind d f) (h.bind d f') := by
  intro hc
  obtain ⟨g0, e⟩ := Rs.bind_ok hc
  rw [e] at hc ⊢
  obtain ⟨a1, a2, a3⟩ := hg g0
  obtain ⟨b1, b2, b3⟩ := hf g.1 g.2.1 (by omega) a2 hc
  refine ⟨by omega, b2, fun hpc => ?_⟩
  rcases a3 hpc with ⟨q1, q2, q3, q4⟩ | ⟨q1, q2, q3⟩
  · have e2 : h.bind d f' = f' g.1 g.2.1 := by unfold Rs.bind; rw [if_neg (by rw [q4]; exact fun x => x rfl), q2, q3]
    rw [e2]
    exact b3 q1
  · refine .inr ⟨by omega, ?_, ?_⟩
    · unfold Rs.bind; rw [if_pos (by rw [q2]; decide)]; exact q2
    · unfold Rs.bind; rw [if_pos (by rw [q2]; decide)]; exact q3
end Go.Proofs.YtlealkfkddhnnaaGreat.Cur
