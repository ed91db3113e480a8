/- As the seat's text, without what nothing here names. -/
import Derived.Test.YtlealkfkddhnnaaGreatK38w
import Derived.Test.YtlealkfkddhnnaaGreatK37w
import Derived.Test.YtlealkfkddhnnaaGreatK20w
namespace Go.Proofs.YtlealkfkddhnnaaGreat.Cur
open Go.RowKit Mem
set_option linter.unusedVariables false
def hhz : Int → List Hd → List Int
  | _, [] => []
  | b, h :: H => (lkz b h.1 ++ vz h.2) ++ hhz (b + 1) H
def hhok : Int → Int → List Hd → Prop
  | _, _, [] => True
  | b, mx, h :: H => lkok b h.1 = true ∧ lbd h.1 ∧ 0 ≤ h.2 ∧ h.2 ≤ mx ∧ h.2 < 18446744073709551616 ∧ hhok (b + 1) (mx - h.2) H
abbrev Bt := Int × Int × List En
def fitn (b n : Int) : Bool := decide (1 ≤ n ∧ n ≤ 16 ∧ b + n ≤ 4611686018427387904)
def hds (L : List En) : List Hd := L.map fun x => (x.1, (x.2.length : Int))
def jn (L : List En) : List Int := (L.map (·.2)).flatten
theorem hds_length (L : List En) : (hds L).length = L.length := by simp [hds]
def bthz (B : Bt) : List Int := vz B.1 ++ (vz B.2.1 ++ (vz (B.2.2.length : Int) ++ hhz B.2.1 (hds B.2.2)))
def BtOk (B : Bt) : Prop := epk B.1 = true ∧ psk B.2.1 = true ∧ 0 ≤ B.1 ∧ B.1 < 18446744073709551616 ∧ 0 ≤ B.2.1 ∧ B.2.1 < 18446744073709551616 ∧ fitn B.2.1 B.2.2.length = true ∧ hhok B.2.1 1048576 (hds B.2.2)
def enall : Int → List En → Bool
  | _, [] => true
  | b, x :: L => enok b x.1 x.2.length && enall (b + 1) L
def btk (B : Bt) : Bool := epk B.1 && psk B.2.1 && fitn B.2.1 B.2.2.length && decide ((jn B.2.2).length ≤ 1048576) && enall B.2.1 B.2.2
theorem hhok_iff : ∀ (L : List En) (b : Int) (m : Nat), m ≤ 1048576 → (∀ x ∈ L, lbd x.1) → (hhok b (m : Int) (hds L) ↔ ((jn L).length ≤ m ∧ enall b L = true))
  | [], b, m, _, _ => by
    refine ⟨fun _ => ⟨?_, rfl⟩, fun _ => trivial⟩
    show ([] : List Int).length ≤ m
    simp
  | x :: L, b, m, hm, hb => by
    have hl : (jn (x :: L)).length = x.2.length + (jn L).length := by show (x.2 ++ jn L).length = _; rw [List.length_append]
    have he : enall b (x :: L) = (enok b x.1 x.2.length && enall (b + 1) L) := rfl
    have hk : enok b x.1 x.2.length = (decide (x.2.length ≤ 1048576) && lkok b x.1) := rfl
    rw [hl, he, hk]
    simp only [Bool.and_eq_true, decide_eq_true_eq]
    constructor
    · rintro ⟨h1, h2, h3, h4, h5, h6⟩
      replace h4 : (x.2.length : Int) ≤ m := h4
      replace h6 : hhok (b + 1) ((m : Int) - (x.2.length : Int)) (hds L) := h6
      rw [show (m : Int) - (x.2.length : Int) = ((m - x.2.length : Nat) : Int) by omega] at h6
      obtain ⟨i1, i2⟩ := (hhok_iff L (b + 1) (m - x.2.length) (by omega) fun y hy => hb y (by simp [hy])).1 h6
      exact ⟨by omega, ⟨by omega, h1⟩, i2⟩
    · rintro ⟨h1, ⟨h2, h3⟩, h4⟩
      refine ⟨h3, hb x (by simp), ?_, ?_, ?_, ?_⟩
      · show (0 : Int) ≤ (x.2.length : Int); omega
      · show (x.2.length : Int) ≤ m; omega
      · show (x.2.length : Int) < 18446744073709551616; omega
      · show hhok (b + 1) ((m : Int) - (x.2.length : Int)) (hds L)
        rw [show (m : Int) - (x.2.length : Int) = ((m - x.2.length : Nat) : Int) by omega]
        exact (hhok_iff L (b + 1) (m - x.2.length) (by omega) fun y hy => hb y (by simp [hy])).2 ⟨by omega, h4⟩
theorem btk_iff {B : Bt} (hb : ∀ x ∈ B.2.2, lbd x.1) (h1 : 0 ≤ B.1) (h2 : B.1 < 18446744073709551616) (h3 : 0 ≤ B.2.1) (h4 : B.2.1 < 18446744073709551616) : btk B = true ↔ BtOk B := by
  have hi := hhok_iff B.2.2 B.2.1 1048576 (Nat.le_refl _) hb
  unfold btk BtOk
  simp only [Bool.and_eq_true, decide_eq_true_eq]
  constructor
  · rintro ⟨⟨⟨⟨a1, a2⟩, a3⟩, a4⟩, a5⟩
    exact ⟨a1, a2, h1, h2, h3, h4, a3, hi.2 ⟨a4, a5⟩⟩
  · rintro ⟨a1, a2, _, _, _, _, a3, a4⟩
    obtain ⟨i1, i2⟩ := hi.1 a4
    exact ⟨⟨⟨⟨a1, a2⟩, a3⟩, i1⟩, i2⟩
theorem enall_at : ∀ {L : List En} {b : Int}, enall b L = true → ∀ k, k < L.length → enok (b + k) (L.getD k en0).1 (L.getD k en0).2.length = true
  | x :: L, b, h, 0, _ => by
    have h : (enok b x.1 x.2.length && enall (b + 1) L) = true := h
    rw [Bool.and_eq_true] at h
    rw [Int.natCast_zero, Int.add_zero]
    exact h.1
  | x :: L, b, h, k + 1, hk => by
    have h : (enok b x.1 x.2.length && enall (b + 1) L) = true := h
    rw [Bool.and_eq_true] at h
    have := enall_at h.2 k (by simpa using hk)
    rw [show b + ((k + 1 : Nat) : Int) = b + 1 + k by omega]
    exact this
theorem enall_of : ∀ {L : List En} {b : Int}, (∀ k, k < L.length → enok (b + k) (L.getD k en0).1 (L.getD k en0).2.length = true) → enall b L = true
  | [], _, _ => rfl
  | x :: L, b, h => by
    show (enok b x.1 x.2.length && enall (b + 1) L) = true
    rw [Bool.and_eq_true]
    have h0 := h 0 (by simp)
    rw [Int.natCast_zero, Int.add_zero] at h0
    refine ⟨h0, enall_of fun k hk => ?_⟩
    have := h (k + 1) (by simpa using hk)
    rw [show b + ((k + 1 : Nat) : Int) = b + 1 + k by omega] at this
    exact this
theorem jn_jk {L : List En} : jn L = jk L L.length := by
  unfold jn jk
  rw [List.take_length]
end Go.Proofs.YtlealkfkddhnnaaGreat.Cur
