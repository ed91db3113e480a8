/- As the seat's text, without what nothing here names. -/
import Derived.Test.YtlealkfkddhnnaaGreatK5y
namespace Go.Proofs.YtlealkfkddhnnaaGreat.Cur
open Go.RowKit Mem
set_option linter.unusedVariables false
def Sh {α : Type} (k : Int) (g h : Rs α) : Prop := g.1 = h.1 ∧ g.2.2.1 = h.2.2.1 ∧ (h.2.2.1 = 0 → 0 ≤ h.2.1 ∧ g.2.1 = h.2.1 + k) ∧ (h.2.2.1 ≠ 0 → g.2.2.2 = h.2.2.2 + k)
theorem Sh.done {α : Type} {k p : Int} (v : α) (q q' : Int) (h0 : 0 ≤ p) : Sh k ((v, p + k, 0, q) : Rs α) (v, p, 0, q') := ⟨rfl, rfl, fun _ => ⟨h0, rfl⟩, fun h => absurd rfl h⟩
theorem Sh.fail {α : Type} {k c q : Int} (v : α) (p p' : Int) (hc : c ≠ 0) : Sh k ((v, p, c, q + k) : Rs α) (v, p', c, q) := ⟨rfl, rfl, fun h => absurd h hc, fun _ => rfl⟩
theorem Sh.bind {α β : Type} {k : Int} {g h : Rs α} {d : β} {f f' : α → Int → Rs β} (hg : Sh k g h) (hf : ∀ v p, 0 ≤ p → Sh k (f v (p + k)) (f' v p)) : Sh k (g.bind d f) (h.bind d f') := by
  obtain ⟨h1, h2, h3, h4⟩ := hg
  unfold Rs.bind
  by_cases hc : h.2.2.1 = 0
  · rw [if_neg (by rw [h2, hc]; exact fun e => e rfl), if_neg (fun e => e hc), h1, (h3 hc).2]
    exact hf _ _ (h3 hc).1
  · rw [if_pos (by rw [h2]; exact hc), if_pos hc]
    exact ⟨rfl, h2, fun e => absurd e hc, fun _ => h4 hc⟩
theorem Sh.eq_done {α : Type} {k : Int} {g h : Rs α} {v : α} {p : Int} (hg : Sh k g h) (e : h = (v, p, 0, 0)) : g.1 = v ∧ g.2.1 = p + k ∧ g.2.2.1 = 0 := by
  subst e
  exact ⟨hg.1, (hg.2.2.1 rfl).2, hg.2.1⟩
theorem vgo_pl0 (l : List Int) (i : Nat) (acc : Int) : 0 ≤ (vgo l i acc).2.1 := by
  induction l generalizing i acc with
  | nil => exact Int.le_refl _
  | cons b l ih =>
    unfold vgo
    split
    · exact Int.le_refl _
    · split
      · exact Int.le_refl _
      · split
        · show (0 : Int) ≤ (i : Int) + 1; omega
        · exact ih _ _
theorem drop_sh (z : List Int) {k p : Int} (hk : 0 ≤ k) (hp : 0 ≤ p) : z.drop (p + k).toNat = (z.drop k.toNat).drop p.toNat := by
  rw [List.drop_drop]
  congr 1
  omega
theorem vg_sh (z : List Int) {k p : Int} (hk : 0 ≤ k) (hp : 0 ≤ p) : Sh k (vg z (p + k)) (vg (z.drop k.toNat) p) := by
  unfold vg
  rw [drop_sh z hk hp]
  have := vgo_pl0 ((z.drop k.toNat).drop p.toNat) 0 0
  refine ⟨rfl, rfl, fun _ => ⟨?_, ?_⟩, fun h => ?_⟩
  · show 0 ≤ p + _; omega
  · show p + k + _ = p + _ + k; omega
  · show (if _ = 0 then 0 else p + k + _) = (if _ = 0 then 0 else p + _) + k
    replace h : (vgo ((z.drop k.toNat).drop p.toNat) 0 0).2.2.1 ≠ 0 := h
    rw [if_neg h, if_neg h]
    omega
theorem vm_sh (z : List Int) (mo : Int) {k p : Int} (hk : 0 ≤ k) (hp : 0 ≤ p) : Sh k (vm z mo (p + k)) (vm (z.drop k.toNat) mo p) := by
  have h := vg_sh z hk hp
  obtain ⟨h1, h2, h3, h4⟩ := h
  unfold vm
  by_cases hc : (vg (z.drop k.toNat) p).2.2.1 = 0
  · have hc2 : (vg z (p + k)).2.2.1 = 0 := by rw [h2, hc]
    rw [if_neg (show ¬ (vg z (p + k)).2.2.1 ≠ 0 from fun e => e hc2), if_neg (show ¬ (vg (z.drop k.toNat) p).2.2.1 ≠ 0 from fun e => e hc), h1]
    by_cases hm : mo < (vg (z.drop k.toNat) p).1
    · rw [if_pos hm, if_pos hm]
      exact Sh.fail _ _ _ (by decide)
    · rw [if_neg hm, if_neg hm]
      exact ⟨h1, h2, h3, h4⟩
  · rw [if_pos (by rw [h2]; exact hc), if_pos hc]
    exact ⟨rfl, h2, fun e => absurd e hc, fun _ => h4 hc⟩
theorem piece_sh (z : List Int) {k a b : Int} (hk : 0 ≤ k) (ha : 0 ≤ a) (hb : 0 ≤ b) : piece z (a + k).toNat (b + k).toNat = piece (z.drop k.toNat) a.toNat b.toNat := by
  unfold piece
  rw [drop_sh z hk ha]
  congr 1
  omega
theorem tk_sh (z : List Int) (x : Int) {k p : Int} (hk : 0 ≤ k) (hp : 0 ≤ p) (hl : k ≤ z.length) : Sh k (tk z x (p + k)) (tk (z.drop k.toNat) x p) := by
  have e : ((z.drop k.toNat).length : Int) = z.length - k := by rw [List.length_drop]; omega
  unfold tk
  by_cases h0 : x < 0
  · rw [if_pos h0, if_pos h0]
    exact Sh.fail _ _ _ (by decide)
  · rw [if_neg h0, if_neg h0, e]
    by_cases h1 : (z.length : Int) - (p + k) < x
    · rw [if_pos h1, if_pos (by omega)]
      exact ⟨rfl, rfl, fun e => absurd (show (1 : Int) = 0 from e) (by decide), fun _ => by show (z.length : Int) = z.length - k + k; omega⟩
    · rw [if_neg h1, if_neg (by omega)]
      have h2 : piece z (p + k).toNat (p + k + x).toNat = piece (z.drop k.toNat) p.toNat (p + x).toNat := by
        have := piece_sh z hk hp (show 0 ≤ p + x by omega)
        rw [← this]
        congr 2
        omega
      rw [h2]
      exact ⟨rfl, rfl, fun _ => ⟨by show 0 ≤ p + x; omega, by show p + k + x = p + x + k; omega⟩, fun e => absurd rfl e⟩
end Go.Proofs.YtlealkfkddhnnaaGreat.Cur
