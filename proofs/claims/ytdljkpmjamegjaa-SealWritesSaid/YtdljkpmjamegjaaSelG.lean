/- Seals: what is read is put so again, what is put is read: the plain facts. -/
import Derived.Test.YtdljkpmjamegjaaSelF
namespace Go.Proofs.Ytdljkpmjamegjaa.Cur
open Go.RowKit Mem
set_option linter.unusedVariables false

theorem slok_of {s : Sl3} (h0 : epk s.1 = true) (h1 : s.2.1 ≤ 4294967295) (h2 : tlk s.2.2 = true) : slok s = true := by
  unfold slok
  rw [h0, decide_eq_true h1]
  exact h2
theorem slok_parts {s : Sl3} (h : slok s = true) : epk s.1 = true ∧ s.2.1 ≤ 4294967295 ∧ tlk s.2.2 = true := by
  unfold slok at h
  rw [Bool.and_eq_true, Bool.and_eq_true, decide_eq_true_eq] at h
  exact ⟨h.1.1, h.1.2, h.2⟩
/-- A number that is right and is read is put so again. -/
theorem vg_step {z : List Int} {p : Int} (hby : ∀ x ∈ z, 0 ≤ x ∧ x < 256) (h0 : 0 ≤ p) (h1 : p ≤ z.length) (h : (vg z p).2.2.1 = 0) :
    ∃ (x p' : Int), vg z p = (x, p', 0, 0) ∧ vz x = piece z p.toNat p'.toNat ∧ 0 ≤ x ∧ x < 18446744073709551616 ∧ p ≤ p' ∧ p' ≤ z.length := by
  obtain ⟨g1, g2, g3, g4, g5⟩ := vg_once hby h0 h1 h
  exact ⟨(vg z p).1, (vg z p).2.1, vg_shape h, g1, g2, g3, by omega, g5⟩
theorem sr_once {z : List Int} {p : Int} (hby : ∀ x ∈ z, 0 ≤ x ∧ x < 256) (h0 : 0 ≤ p) (h1 : p ≤ z.length) (h : (sr z p).2.2.1 = 0) :
    sby (sr z p).1 = piece z p.toNat (sr z p).2.1.toNat ∧ sbd (sr z p).1 ∧ slok (sr z p).1 = true ∧ p ≤ (sr z p).2.1 ∧ (sr z p).2.1 ≤ z.length := by
  unfold sr at h ⊢
  obtain ⟨a0, e0⟩ := Rs.bind_ok h
  rw [e0] at h ⊢
  obtain ⟨b0, b1, b2⟩ := ve_ok a0
  rw [b2] at h ⊢
  obtain ⟨x, p1, g, g1, g2, g3, g4, g5⟩ := vg_step hby h0 h1 b0
  rw [g] at h b1 ⊢
  dsimp only at h b1 ⊢
  obtain ⟨c0, e1⟩ := Rs.bind_ok h
  rw [e1] at h ⊢
  obtain ⟨d0, d1, d2⟩ := vm_ok c0
  rw [d2] at h ⊢
  obtain ⟨y, p2, k, k1, k2, k3, k4, k5⟩ := vg_step hby (by omega) g5 d0
  rw [k] at h d1 ⊢
  dsimp only at h d1 ⊢
  obtain ⟨u0, e2⟩ := Rs.bind_ok h
  rw [e2]
  obtain ⟨v0, v1, v2⟩ := ve_ok u0
  rw [v2]
  obtain ⟨t, p3, l, l1, l2, l3, l4, l5⟩ := vg_step hby (by omega) k5 v0
  rw [l] at v1 ⊢
  dsimp only at v1 ⊢
  refine ⟨?_, sbd_of g2 g3 k2 k3 l2 l3, slok_of b1 d1 v1, by omega, l5⟩
  rw [sby_eq]
  show vz x ++ vz y ++ vz t = _
  rw [g1, k1, l1, piece_append (by omega) (by omega) (by omega), piece_append (by omega) (by omega) (by omega)]
/-- What is put is read, whatever stands behind. -/
theorem sr_put (s : Sl3) (rest : List Int) (hs : sbd s) (hok : slok s = true) : sr (sby s ++ rest) 0 = (s, ((sby s).length : Int), 0, 0) := by
  obtain ⟨⟨a0, a1⟩, ⟨b0, b1⟩, ⟨c0, c1⟩⟩ := hs
  obtain ⟨k0, k1, k2⟩ := slok_parts hok
  obtain ⟨x, y, t⟩ := s
  dsimp only at *
  have hl : ((sby (x, y, t)).length : Int) = vsz x + vsz y + vsz t := by
    rw [sby_eq]; simp only [List.length_append, vz_length]; push_cast; rfl
  have g1 := vg_put (z := sby (x, y, t) ++ rest) (pre := []) (rest := vz y ++ vz t ++ rest) (x := x) (by rw [sby_eq]; simp) a0 a1
  have g2 := vg_put (z := sby (x, y, t) ++ rest) (pre := vz x) (rest := vz t ++ rest) (x := y) (by rw [sby_eq]; simp) b0 b1
  have g3 := vg_put (z := sby (x, y, t) ++ rest) (pre := vz x ++ vz y) (rest := rest) (x := t) (by rw [sby_eq]) c0 c1
  rw [List.length_append, vz_length, vz_length] at g3
  rw [vz_length] at g2
  have g1 : vg (sby (x, y, t) ++ rest) 0 = (x, ((vsz x : Nat) : Int), 0, 0) := by
    have := g1; rw [List.length_nil, Nat.zero_add] at this; exact this
  have e1 : ve epk (sby (x, y, t) ++ rest) 0 = (x, ((vsz x : Nat) : Int), 0, 0) := by
    unfold ve; rw [g1, if_neg (by simp), if_pos k0]
  have e2 : vm (sby (x, y, t) ++ rest) 4294967295 ((vsz x : Nat) : Int) = (y, ((vsz x + vsz y : Nat) : Int), 0, 0) := by
    unfold vm; rw [g2, if_neg (by simp), if_neg (by simp; omega)]
  have e3 : ve tlk (sby (x, y, t) ++ rest) ((vsz x + vsz y : Nat) : Int) = (t, ((vsz x + vsz y + vsz t : Nat) : Int), 0, 0) := by
    unfold ve; rw [g3, if_neg (by simp), if_pos k2]
  unfold sr
  rw [Rs.bind_of e1, Rs.bind_of e2, Rs.bind_of e3, hl]
  push_cast; rfl
end Go.Proofs.Ytdljkpmjamegjaa.Cur
