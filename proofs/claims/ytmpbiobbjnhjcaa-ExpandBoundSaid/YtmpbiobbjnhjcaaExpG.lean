/- One written token expanded: as a value; by the program (extend). -/
import Derived.Test.YtmpbiobbjnhjcaaExpE
namespace Go.Proofs.Ytmpbiobbjnhjcaa.Cur
open Go.RowKit Mem
set_option linter.unusedVariables false

/-- The token at p expanded behind y. -/
def ex (z : List Int) (bound : Int) (y : List Int) (p : Int) : Rs (List Int) :=
  (hd z p).bind [] fun h p1 => if bound < (y.length : Int) + h.2 then ([], 0, 11, p) else
    (trb z h p1).bind [] fun t p2 => if (y.length : Int) < t.2.1 then ([], 0, 10, p1) else (agn 0 id (y ++ t.1) t.2.1 t.2.2.toNat, p2, 0, 0)

theorem hd_rng {z : List Int} {p : Int} (hby : ∀ x ∈ z, 0 ≤ x ∧ x < 256) (h : (hd z p).2.2.1 = 0) : 1 ≤ (hd z p).1.2 ∧ (hd z p).1.2 ≤ 1048576 := by
  obtain ⟨v1, v2, e1⟩ := hd_ok' h
  rw [e1]
  refine ⟨?_, v2⟩
  have := vg_bd z p hby
  show 1 ≤ (hdv (vg z p).1).2
  unfold hdv
  split
  · show 1 ≤ (vg z p).1 / 2 + 4; omega
  · show 1 ≤ (vg z p).1 / 2 + 1; omega
/-- What a reader without a fault does that reads g. -/
def ExSt {α : Type} (g : Rs α) (v : α) (p' c' q' : Int) : Prop := (g.2.2.1 = 0 ∧ v = g.1 ∧ p' = g.2.1 ∧ c' = 0 ∧ q' = 0) ∨ (g.2.2.1 ≠ 0 ∧ c' = g.2.2.1 ∧ q' = g.2.2.2)
theorem ExSt.bad {α : Type} {g : Rs α} {x : α} {y c q : Int} (e : g = (x, y, c, q)) (hc : c ≠ 0) (v : α) (p : Int) : ExSt g v p c q := by
  subst e; exact .inr ⟨hc, rfl, rfl⟩
theorem ExSt.good {α : Type} {g : Rs α} {x : α} {y : Int} (e : g = (x, y, 0, 0)) : ExSt g x y 0 0 := by
  subst e; exact .inl ⟨rfl, rfl, rfl, rfl, rfl⟩
theorem St.flt {α : Type} {d : α} {n : Nat} {g : Rs α} {p p' c' q' : Int} {u : α} (h : St d n g p 0 0 u p' c' q') (hc : c' ≠ 0) : g.2.2.1 ≠ 0 ∧ c' = g.2.2.1 ∧ q' = g.2.2.2 := by
  obtain ⟨_, _, ⟨h0, _⟩ | ⟨_, _, _, _, h0, _⟩ | ⟨_, h1, _, h2, h3⟩⟩ := h
  · exact absurd rfl h0
  · exact absurd h0 hc
  · exact ⟨h1, h2, h3⟩
theorem St.shape {α : Type} {d : α} {n : Nat} {g : Rs α} {p p' q' : Int} {u : α} (hg : g.2.2.1 = 0 → g.2.2.2 = 0) (h : St d n g p 0 0 u p' 0 q') : g = (u, p', 0, 0) ∧ q' = 0 := by
  obtain ⟨_, h0, h1, h2, h3⟩ := h.good
  refine ⟨?_, h3⟩
  subst h1
  subst h2
  exact Prod.ext rfl (Prod.ext rfl (Prod.ext h0 (hg h0)))
theorem St.stays {α : Type} {d : α} {n : Nat} {g : Rs α} {p c q p' c' q' : Int} {u : α} (h : St d n g p c q u p' c' q') (hc : c ≠ 0) : u = d ∧ c' = c ∧ q' = q := by
  obtain ⟨_, _, ⟨_, h1, h2, h3⟩ | ⟨h0, _⟩ | ⟨h0, _⟩⟩ := h
  · exact ⟨h1, h2, h3⟩
  · exact absurd h0 hc
  · exact absurd h0 hc
theorem vg_q {z : List Int} {p : Int} (h : (vg z p).2.2.1 = 0) : (vg z p).2.2.2 = 0 := if_pos h
theorem hd_q {z : List Int} {p : Int} (h : (hd z p).2.2.1 = 0) : (hd z p).2.2.2 = 0 := by
  obtain ⟨_, _, e⟩ := hd_ok' h; rw [e]
theorem ofs_q {z : List Int} {p : Int} (h : (ofs z p).2.2.1 = 0) : (ofs z p).2.2.2 = 0 := by
  obtain ⟨_, _, e⟩ := ofs_ok h; rw [e]
theorem tk_q {z : List Int} {x p : Int} (h0 : 0 ≤ p) (h1 : p ≤ z.length) (h : (tk z x p).2.2.1 = 0) : (tk z x p).2.2.2 = 0 := by
  obtain ⟨_, _, e⟩ := tk_once h0 h1 h; rw [e]
theorem Rs.bind_bad {α β : Type} {g : Rs α} {d : β} {f : α → Int → Rs β} (h : g.2.2.1 ≠ 0) : g.bind d f = (d, 0, g.2.2.1, g.2.2.2) := if_pos h

/-- What a token expanded by extend leaves: B is where the row's blocks begin, b the reader. -/
def XdPost (b B : Nat) (s : Value) (n : Nat) (g : Rs (List Int)) (w : World) (e : Ending) (w' : World) : Prop :=
  ∃ v y p' c' q', e = .returned v ∧ Own w' B v y ∧ Ks (fun k => k = b ∨ B ≤ k) w w' ∧ IsRd w' b s p' c' q' ∧ 0 ≤ p' ∧ p' ≤ n ∧ ExSt g y p' c' q'
end Go.Proofs.Ytmpbiobbjnhjcaa.Cur
