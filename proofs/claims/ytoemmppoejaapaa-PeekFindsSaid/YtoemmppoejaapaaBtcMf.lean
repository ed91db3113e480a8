/- As the seat's text, without what nothing here names. -/
import Derived.Test.YtoemmppoejaapaaK38f
import Derived.Test.YtoemmppoejaapaaK37f
import Derived.Test.YtoemmppoejaapaaK20f
namespace Go.Proofs.Ytoemmppoejaapaa.Cur
open Go.RowKit Mem
set_option linter.unusedVariables false
abbrev Bt := Int × Int × List En
def fitn (b n : Int) : Bool := decide (1 ≤ n ∧ n ≤ 16 ∧ b + n ≤ 4611686018427387904)
def hds (L : List En) : List Hd := L.map fun x => (x.1, (x.2.length : Int))
def jn (L : List En) : List Int := (L.map (·.2)).flatten
def enall : Int → List En → Bool
  | _, [] => true
  | b, x :: L => enok b x.1 x.2.length && enall (b + 1) L
def btk (B : Bt) : Bool := epk B.1 && psk B.2.1 && fitn B.2.1 B.2.2.length && decide ((jn B.2.2).length ≤ 1048576) && enall B.2.1 B.2.2
theorem enall_at : ∀ {L : List En} {b : Int}, enall b L = true → ∀ k, k < L.length → enok (b + k) (L.getD k en0).1 (L.getD k en0).2.length = true
  | x :: L, b, h, 0, _ => by
    have h : (enok b x.1 x.2.length && enall (b + 1) L) = true := h
    rw [Bool.and_eq_true] at h
    rw [Int.natCast_zero, Int.add_zero]
    exact h.1
  | x :: L, b, h, k + 1, hk => by
    have h : (enok b x.1 x.2.length && enall (b + 1) L) = true := h
    rw [Bool.and_eq_true] at h
    have := enall_at h.2 k (by simpa using hk)
    rw [show b + ((k + 1 : Nat) : Int) = b + 1 + k by omega]
    exact this
theorem enall_of : ∀ {L : List En} {b : Int}, (∀ k, k < L.length → enok (b + k) (L.getD k en0).1 (L.getD k en0).2.length = true) → enall b L = true
  | [], _, _ => rfl
  | x :: L, b, h => by
    show (enok b x.1 x.2.length && enall (b + 1) L) = true
    rw [Bool.and_eq_true]
    have h0 := h 0 (by simp)
    rw [Int.natCast_zero, Int.add_zero] at h0
    refine ⟨h0, enall_of fun k hk => ?_⟩
    have := h (k + 1) (by simpa using hk)
    rw [show b + ((k + 1 : Nat) : Int) = b + 1 + k by omega] at this
    exact this
theorem jn_jk {L : List En} : jn L = jk L L.length := by
  unfold jn jk
  rw [List.take_length]
end Go.Proofs.Ytoemmppoejaapaa.Cur
