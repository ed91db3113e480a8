/- What is read of a token: its head, and what stands behind it. -/
import Derived.Test.YtppccdogfcmfjaaTokK
namespace Go.Proofs.Ytppccdogfcmfjaa.Cur
open Go.RowKit Mem
set_option linter.unusedVariables false

theorem hd_rng {z : List Int} {p : Int} (hby : ∀ x ∈ z, 0 ≤ x ∧ x < 256) (h : (hd z p).2.2.1 = 0) : 1 ≤ (hd z p).1.2 ∧ (hd z p).1.2 ≤ 1048576 := by
  obtain ⟨v1, v2, e1⟩ := hd_ok' h
  rw [e1]
  refine ⟨?_, v2⟩
  have := vg_bd z p hby
  show 1 ≤ (hdv (vg z p).1).2
  unfold hdv
  split
  · show 1 ≤ (vg z p).1 / 2 + 4; omega
  · show 1 ≤ (vg z p).1 / 2 + 1; omega
theorem St.flt {α : Type} {d : α} {n : Nat} {g : Rs α} {p p' c' q' : Int} {u : α} (h : St d n g p 0 0 u p' c' q') (hc : c' ≠ 0) : g.2.2.1 ≠ 0 ∧ c' = g.2.2.1 ∧ q' = g.2.2.2 := by
  obtain ⟨_, _, ⟨h0, _⟩ | ⟨_, _, _, _, h0, _⟩ | ⟨_, h1, _, h2, h3⟩⟩ := h
  · exact absurd rfl h0
  · exact absurd h0 hc
  · exact ⟨h1, h2, h3⟩
theorem St.shape {α : Type} {d : α} {n : Nat} {g : Rs α} {p p' q' : Int} {u : α} (hg : g.2.2.1 = 0 → g.2.2.2 = 0) (h : St d n g p 0 0 u p' 0 q') : g = (u, p', 0, 0) ∧ q' = 0 := by
  obtain ⟨_, h0, h1, h2, h3⟩ := h.good
  refine ⟨?_, h3⟩
  subst h1
  subst h2
  exact Prod.ext rfl (Prod.ext rfl (Prod.ext h0 (hg h0)))
theorem St.stays {α : Type} {d : α} {n : Nat} {g : Rs α} {p c q p' c' q' : Int} {u : α} (h : St d n g p c q u p' c' q') (hc : c ≠ 0) : u = d ∧ c' = c ∧ q' = q := by
  obtain ⟨_, _, ⟨_, h1, h2, h3⟩ | ⟨h0, _⟩ | ⟨h0, _⟩⟩ := h
  · exact ⟨h1, h2, h3⟩
  · exact absurd h0 hc
  · exact absurd h0 hc
theorem vg_q {z : List Int} {p : Int} (h : (vg z p).2.2.1 = 0) : (vg z p).2.2.2 = 0 := if_pos h
theorem hd_q {z : List Int} {p : Int} (h : (hd z p).2.2.1 = 0) : (hd z p).2.2.2 = 0 := by
  obtain ⟨_, _, e⟩ := hd_ok' h; rw [e]
theorem ofs_q {z : List Int} {p : Int} (h : (ofs z p).2.2.1 = 0) : (ofs z p).2.2.2 = 0 := by
  obtain ⟨_, _, e⟩ := ofs_ok h; rw [e]
theorem tk_q {z : List Int} {x p : Int} (h0 : 0 ≤ p) (h1 : p ≤ z.length) (h : (tk z x p).2.2.1 = 0) : (tk z x p).2.2.2 = 0 := by
  obtain ⟨_, _, e⟩ := tk_once h0 h1 h; rw [e]
theorem Rs.bind_bad {α β : Type} {g : Rs α} {d : β} {f : α → Int → Rs β} (h : g.2.2.1 ≠ 0) : g.bind d f = (d, 0, g.2.2.1, g.2.2.2) := if_pos h

theorem hd_pl {z : List Int} {p : Int} (hby : ∀ x ∈ z, 0 ≤ x ∧ x < 256) (h0 : 0 ≤ p) (h1 : p ≤ z.length) (h : (hd z p).2.2.1 = 0) : p + 1 ≤ (hd z p).2.1 ∧ (hd z p).2.1 ≤ z.length := by
  obtain ⟨v1, v2, e1⟩ := hd_ok' h
  obtain ⟨o1, o2, o3, o4, o5⟩ := vg_once hby h0 h1 v1
  rw [e1]
  exact ⟨by show p + 1 ≤ (vg z p).2.1; omega, o5⟩
/-- How many bytes a token makes that is read behind its head. -/
theorem trb_len {z : List Int} {cp : Bool} {k p1 : Int} (h0 : 0 ≤ p1) (h1 : p1 ≤ z.length) (hk : 0 ≤ k) (h : (trb z (cp, k) p1).2.2.1 = 0) :
    ((trb z (cp, k) p1).1.1.length : Int) + ((trb z (cp, k) p1).1.2.2.toNat : Int) = k := by
  cases cp
  · rw [trb_run] at h ⊢
    obtain ⟨q1, q2⟩ := Rs.bind_ok h
    obtain ⟨k1, k2, f1⟩ := tk_once h0 h1 q1
    rw [q2, f1]
    have hl : (piece z p1.toNat (p1 + k).toNat).length = k.toNat := by rw [length_piece rfl (by omega)]; omega
    show ((piece z p1.toNat (p1 + k).toNat).length : Int) + (((0 : Int).toNat : Nat) : Int) = k
    rw [hl]
    simp
    omega
  · rw [trb_cpy] at h ⊢
    obtain ⟨q1, q2⟩ := Rs.bind_ok h
    rw [q2]
    show ((([] : List Int).length : Nat) : Int) + (k.toNat : Int) = k
    simp
    omega
theorem tr_hd {z : List Int} {p : Int} (h : (hd z p).2.2.1 = 0) : tr z p = trb z (hd z p).1 (hd z p).2.1 := by
  obtain ⟨v1, v2, e1⟩ := hd_ok' h
  unfold tr
  rw [Rs.bind_of (v := (hd z p).1) (p' := (hd z p).2.1) (by rw [e1])]
theorem St.pl {α : Type} {d : α} {n : Nat} {g : Rs α} {p p' c' q' : Int} {u : α} (h : St d n g p 0 0 u p' c' q') (hc : g.2.2.1 = 0) : p' = g.2.1 := by
  obtain ⟨_, _, ⟨h0, _⟩ | ⟨_, _, _, h1, _⟩ | ⟨_, h1, _⟩⟩ := h
  · exact absurd rfl h0
  · exact h1
  · exact absurd hc h1
end Go.Proofs.Ytppccdogfcmfjaa.Cur
