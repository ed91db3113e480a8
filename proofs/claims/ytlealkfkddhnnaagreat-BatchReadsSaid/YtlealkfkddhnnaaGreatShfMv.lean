/- As the seat's text, without what nothing here names. -/
import Derived.Test.YtlealkfkddhnnaaGreatK5v
namespace Go.Proofs.YtlealkfkddhnnaaGreat.Cur
open Go.RowKit Mem
set_option linter.unusedVariables false
def Sh {α : Type} (k : Int) (g h : Rs α) : Prop := g.1 = h.1 ∧ g.2.2.1 = h.2.2.1 ∧ (h.2.2.1 = 0 → 0 ≤ h.2.1 ∧ g.2.1 = h.2.1 + k) ∧ (h.2.2.1 ≠ 0 → g.2.2.2 = h.2.2.2 + k)
theorem Sh.done {α : Type} {k p : Int} (v : α) (q q' : Int) (h0 : 0 ≤ p) : Sh k ((v, p + k, 0, q) : Rs α) (v, p, 0, q') := ⟨rfl, rfl, fun _ => ⟨h0, rfl⟩, fun h => absurd rfl h⟩
theorem Sh.fail {α : Type} {k c q : Int} (v : α) (p p' : Int) (hc : c ≠ 0) : Sh k ((v, p, c, q + k) : Rs α) (v, p', c, q) := ⟨rfl, rfl, fun h => absurd h hc, fun _ => rfl⟩
theorem Sh.bind {α β : Type} {k : Int} {g h : Rs α} {d : β} {f f' : α → Int → Rs β} (hg : Sh k g h) (hf : ∀ v p, 0 ≤ p → Sh k (f v (p + k)) (f' v p)) : Sh k (g.bind d f) (h.bind d f') := by
  obtain ⟨h1, h2, h3, h4⟩ := hg
  unfold Rs.bind
  by_cases hc : h.2.2.1 = 0
  · rw [if_neg (by rw [h2, hc]; exact fun e => e rfl), if_neg (fun e => e hc), h1, (h3 hc).2]
    exact hf _ _ (h3 hc).1
  · rw [if_pos (by rw [h2]; exact hc), if_pos hc]
    exact ⟨rfl, h2, fun e => absurd e hc, fun _ => h4 hc⟩
end Go.Proofs.YtlealkfkddhnnaaGreat.Cur
