/- As the seat's text, without what nothing here names. -/
import Derived.Test.YtoemmppoejaapaaPekNf
import Derived.Test.YtoemmppoejaapaaPekLf
import Derived.Test.YtoemmppoejaapaaBtcBf
import Derived.Carry
namespace Go.Proofs.Ytoemmppoejaapaa.Cur
open Go.RowKit Mem
set_option linter.unusedVariables false
set_option maxRecDepth 100000
theorem ens_hdr {w : World} {P : Nat → Prop} {g o n : Nat} {L : List En} (h : Ens w P (some ⟨g, o, none⟩) n L) (hn : 0 < n) : ∃ hd : Hdr, g < w.heap.size ∧ ∀ k, k < n → (∀ w', Below w.heap.size w w' → w'.cell? ⟨g, o + k * 2, none⟩ = some (.slice (hd k).1 (hd k).2.1 (hd k).2.2)) ∧ Lks w P (hd k).1 (hd k).2.1 (L.getD k en0).1 := by
  obtain ⟨g', o', e, _, hg, hc⟩ := h.cells (by omega)
  injection e with e
  injection e with e1 e2 _
  subst e1 e2
  obtain ⟨hd, hh⟩ := Classical.axiomOfChoice (r := fun (k : Nat) (t : Option Addr × Nat × Nat) => k < n → (∀ w', Below w.heap.size w w' → w'.cell? ⟨g, o + k * 2, none⟩ = some (.slice t.1 t.2.1 t.2.2)) ∧ Lks w P t.1 t.2.1 (L.getD k en0).1) (fun k => by
    by_cases hk : k < n
    · obtain ⟨K, D, a, l, m, b, r, j, q1, q2, q3, q4, q5, q6, q7, q8, q9, q10⟩ := hc k hk
      exact ⟨(a, l, m), fun _ => ⟨fun w' hb => (q10 w' hb).1, by rw [q1]; exact q4⟩⟩
    · exact ⟨(none, 0, 0), fun h => absurd h hk⟩)
  exact ⟨hd, hg, hh⟩
end Go.Proofs.Ytoemmppoejaapaa.Cur
