/- Written tokens expanded: where a fault is, it is among the bytes. -/
import Derived.Test.YtckpngofnohdjaaK17
namespace Go.Proofs.Ytckpngofnohdjaa.Cur
open Go.RowKit Mem
set_option linter.unusedVariables false

/-- A fault's place lies among n bytes. -/
def FP {α : Type} (g : Rs α) (n : Int) : Prop := g.2.2.1 ≠ 0 → 0 ≤ g.2.2.2 ∧ g.2.2.2 ≤ n
theorem FP.bind {α β : Type} {g : Rs α} {d : β} {f : α → Int → Rs β} {n : Int} (h : FP g n) (k : g.2.2.1 = 0 → FP (f g.1 g.2.1) n) : FP (g.bind d f) n := by
  unfold Rs.bind
  split
  · rename_i hc
    exact fun _ => h hc
  · rename_i hc
    exact k (by simpa using hc)
theorem FP.ok {α : Type} {x : α} {p n : Int} : FP (x, p, 0, 0) n := fun h => absurd rfl h
theorem FP.no {α : Type} {x : α} {p c q n : Int} (h : 0 ≤ q ∧ q ≤ n) : FP (x, p, c, q) n := fun _ => h
theorem vgo_spot : ∀ (l : List Int) (i : Nat) (X : Int), (i : Int) ≤ (vgo l i X).2.2.2 ∧ (vgo l i X).2.2.2 ≤ (i : Int) + l.length ∨ (vgo l i X).2.2.1 = 0
  | [], i, X => .inl ⟨Int.le_refl _, by simp [vgo]⟩
  | b :: l, i, X => by
    rw [vgo]
    split
    · exact .inl ⟨Int.le_refl _, by simp; omega⟩
    · split
      · exact .inl ⟨Int.le_refl _, by simp; omega⟩
      · split
        · exact .inr rfl
        · rcases vgo_spot l (i + 1) (X + b % 128 * 128 ^ i) with ⟨h1, h2⟩ | h
          · refine .inl ⟨by omega, ?_⟩
            rw [List.length_cons]
            omega
          · exact .inr h
theorem vg_fp {z : List Int} {p : Int} (h0 : 0 ≤ p) (h1 : p ≤ z.length) : FP (vg z p) z.length := by
  intro h
  have h : (vgo (z.drop p.toNat) 0 0).2.2.1 ≠ 0 := h
  rcases vgo_spot (z.drop p.toNat) 0 0 with ⟨k1, k2⟩ | k
  · have e : (vg z p).2.2.2 = p + (vgo (z.drop p.toNat) 0 0).2.2.2 := if_neg h
    rw [List.length_drop] at k2
    rw [e]
    omega
  · exact absurd k h
theorem hd_fp {z : List Int} {p : Int} (h0 : 0 ≤ p) (h1 : p ≤ z.length) : FP (hd z p) z.length :=
  (vg_fp h0 h1).bind fun _ => by
    split
    · exact FP.no ⟨h0, h1⟩
    · exact FP.ok
theorem ofs_fp {z : List Int} {p : Int} (h0 : 0 ≤ p) (h1 : p ≤ z.length) : FP (ofs z p) z.length :=
  (vg_fp h0 h1).bind fun _ => by
    split
    · exact FP.no ⟨h0, h1⟩
    · exact FP.ok
theorem tk_fp {z : List Int} {x p : Int} (h0 : 0 ≤ p) (h1 : p ≤ z.length) : FP (tk z x p) z.length := by
  unfold tk
  split
  · exact FP.no ⟨h0, h1⟩
  · split
    · exact FP.no ⟨by omega, Int.le_refl _⟩
    · exact FP.ok
theorem trb_fp {z : List Int} {h : Bool × Int} {p : Int} (h0 : 0 ≤ p) (h1 : p ≤ z.length) : FP (trb z h p) z.length := by
  unfold trb
  split
  · exact (ofs_fp h0 h1).bind fun _ => FP.ok
  · exact (tk_fp h0 h1).bind fun _ => FP.ok
theorem ex_fp {z : List Int} {bound : Int} {y : List Int} {p : Int} (hby : ∀ x ∈ z, 0 ≤ x ∧ x < 256) (h0 : 0 ≤ p) (h1 : p ≤ z.length) : FP (ex z bound y p) z.length :=
  (hd_fp h0 h1).bind fun hg => by
    obtain ⟨l1, l2⟩ := hd_pl hby h0 h1 hg
    split
    · exact FP.no ⟨h0, h1⟩
    · refine (trb_fp (by omega) l2).bind fun _ => ?_
      split
      · exact FP.no ⟨by omega, l2⟩
      · exact FP.ok
theorem exs_fp {z : List Int} {bound : Int} (hby : ∀ x ∈ z, 0 ≤ x ∧ x < 256) : ∀ (k : Nat) (p : Int) (y : List Int), 0 ≤ p → p ≤ z.length → FP (exs z bound k p y) z.length
  | 0, p, y, _, _ => FP.ok
  | k + 1, p, y, h0, h1 => by
    by_cases hp : (z.length : Int) ≤ p
    · rw [exs_stop hp]
      exact FP.ok
    · rw [exs_step (by omega)]
      refine (ex_fp hby h0 h1).bind fun hg => ?_
      obtain ⟨k1, k2, _⟩ := ex_ok hby h0 h1 hg
      exact exs_fp hby k _ _ (by omega) k2
/-- A fault lies among the bytes. -/
theorem exv_fp {z : List Int} {bound : Int} (hby : ∀ x ∈ z, 0 ≤ x ∧ x < 256) : 0 ≤ (exv z bound).2.2 ∧ (exv z bound).2.2 ≤ z.length := by
  unfold exv
  by_cases hg : (exg z bound).2.2.1 = 0
  · rw [if_pos hg]
    exact ⟨Int.le_refl _, by show (0 : Int) ≤ _; omega⟩
  · rw [if_neg hg]
    exact exs_fp hby (z.length + 1) 0 [] (Int.le_refl _) (by omega) hg
end Go.Proofs.Ytckpngofnohdjaa.Cur
