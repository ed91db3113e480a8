/- As the seat's text, without what nothing here names. -/
import Derived.Lib.BitFns
import Derived.Test.YtoemmppoejaapaaK3f
import Derived.Test.YtoemmppoejaapaaK1f
import Derived.Test.YtoemmppoejaapaaShelff
import Derived.Outline
import Derived.Test.YtoemmppoejaapaaK2f
import Derived.WalkMore
import Derived.ScopeJumps
import Derived.Laws.BitsAllLaws
import Derived.IntWalk
import Derived.Deep.LoopGhost
namespace Go.Proofs.Ytoemmppoejaapaa.Cur
set_option linter.unusedVariables false
end Go.Proofs.Ytoemmppoejaapaa.Cur
namespace Go.Proofs.Ytoemmppoejaapaa.Cur
open Go.RowKit Mem
set_option linter.unusedVariables false
end Go.Proofs.Ytoemmppoejaapaa.Cur
namespace Go.Proofs.Ytoemmppoejaapaa.Cur
open Go.RowKit Mem
set_option linter.unusedVariables false
end Go.Proofs.Ytoemmppoejaapaa.Cur
namespace Go.Proofs.Ytoemmppoejaapaa.Cur
open Go.RowKit Mem
set_option linter.unusedVariables false
def vgo : List Int → Nat → Int → Int × Int × Int × Int
  | [], i, _ => (0, 0, 1, i)
  | b :: l, i, acc => if i = 9 ∧ 1 < b then (0, 0, 5, i) else if 0 < i ∧ b = 0 then (0, 0, 4, i) else if b < 128 then (acc + b * 128 ^ i, i + 1, 0, 0) else vgo l (i + 1) (acc + b % 128 * 128 ^ i)
def VgSt (n : Nat) (p q : Int) (g : Int × Int × Int × Int) (v p' c' q' : Int) : Prop :=
  (g.2.2.1 = 0 ∧ v = g.1 ∧ p' = p + g.2.1 ∧ c' = 0 ∧ q' = q) ∨
  (g.2.2.1 ≠ 0 ∧ v = 0 ∧ c' = g.2.2.1 ∧ q' = p + g.2.2.2 ∧ p' = if g.2.2.1 = 1 then (n : Int) else p + g.2.2.2 + 1)
def RdSt (n : Nat) (z : List Int) (p c q v p' c' q' : Int) : Prop :=
  (c ≠ 0 ∧ v = 0 ∧ p' = p ∧ c' = c ∧ q' = q) ∨ (c = 0 ∧ VgSt n p q (vgo (z.drop p.toNat) 0 0) v p' c' q')
theorem RdSt.det {n : Nat} {z : List Int} {p c q v p' c' q' v2 p2 c2 q2 : Int} (h : RdSt n z p c q v p' c' q') (k : RdSt n z p c q v2 p2 c2 q2) : v = v2 ∧ p' = p2 ∧ c' = c2 ∧ q' = q2 := by
  rcases h with ⟨a0, a1, a2, a3, a4⟩ | ⟨a0, ⟨a1, a2, a3, a4, a5⟩ | ⟨a1, a2, a3, a4, a5⟩⟩ <;>
  rcases k with ⟨b0, b1, b2, b3, b4⟩ | ⟨b0, ⟨b1, b2, b3, b4, b5⟩ | ⟨b1, b2, b3, b4, b5⟩⟩ <;>
  first | exact absurd a0 b0 | exact absurd b0 a0 | exact absurd a1 b1 | exact absurd b1 a1 | exact ⟨by omega, by omega, by omega, by omega⟩ | exact ⟨by omega, a5.trans b5.symm, by omega, by omega⟩
theorem wrap_u64 (x : Int) (h0 : 0 ≤ x) (h1 : x < 18446744073709551616) : IntKind.u64.wrap x = x := by
  have e : IntKind.u64.wrap x = x % 18446744073709551616 := by unfold IntKind.wrap; rfl
  rw [e]; exact Int.emod_eq_of_lt h0 h1
end Go.Proofs.Ytoemmppoejaapaa.Cur
namespace Go.Proofs.Ytoemmppoejaapaa.Cur
open Go.RowKit Mem
set_option linter.unusedVariables false
def MostSt (n : Nat) (z : List Int) (p c q mo v p' c' q' : Int) : Prop :=
  ∃ v0 c0 q0, RdSt n z p c q v0 p' c0 q0 ∧ ((mo < v0 ∧ v = 0 ∧ FailSt c0 q0 2 p c' q') ∨ (v0 ≤ mo ∧ v = v0 ∧ c' = c0 ∧ q' = q0))
theorem MostSt.det {n : Nat} {z : List Int} {p c q mo v p' c' q' v2 p2 c2 q2 : Int} (h : MostSt n z p c q mo v p' c' q') (k : MostSt n z p c q mo v2 p2 c2 q2) : v = v2 ∧ p' = p2 ∧ c' = c2 ∧ q' = q2 := by
  obtain ⟨v0, c0, q0, hr, h⟩ := h
  obtain ⟨v1, c1, q1, kr, k⟩ := k
  obtain ⟨rfl, rfl, rfl, rfl⟩ := hr.det kr
  rcases h with ⟨h1, rfl, h2⟩ | ⟨h1, rfl, rfl, rfl⟩ <;> rcases k with ⟨k1, rfl, k2⟩ | ⟨k1, rfl, rfl, rfl⟩
  · obtain ⟨rfl, rfl⟩ := h2.det k2
    exact ⟨rfl, rfl, rfl, rfl⟩
  · omega
  · omega
  · exact ⟨rfl, rfl, rfl, rfl⟩
def IntSt (n : Nat) (z : List Int) (p c q mo v p' c' q' : Int) : Prop :=
  (0 ≤ mo ∧ MostSt n z p c q mo v p' c' q') ∨ (mo < 0 ∧ v = 0 ∧ ∃ v0 c0 q0, RdSt n z p c q v0 p' c0 q0 ∧ FailSt c0 q0 2 p c' q')
theorem IntSt.det {n : Nat} {z : List Int} {p c q mo v p' c' q' v2 p2 c2 q2 : Int} (h : IntSt n z p c q mo v p' c' q') (k : IntSt n z p c q mo v2 p2 c2 q2) : v = v2 ∧ p' = p2 ∧ c' = c2 ∧ q' = q2 := by
  rcases h with ⟨h0, h⟩ | ⟨h0, rfl, v0, c0, q0, hr, hf⟩ <;> rcases k with ⟨k0, k⟩ | ⟨k0, rfl, v1, c1, q1, kr, kf⟩
  · exact h.det k
  · omega
  · omega
  · obtain ⟨rfl, rfl, rfl, rfl⟩ := hr.det kr
    obtain ⟨rfl, rfl⟩ := hf.det kf
    exact ⟨rfl, rfl, rfl, rfl⟩
end Go.Proofs.Ytoemmppoejaapaa.Cur
namespace Go.Proofs.Ytoemmppoejaapaa.Cur
open Go.RowKit Mem
set_option linter.unusedVariables false
def acc (z : List Int) : Nat → Int
  | 0 => 0
  | k + 1 => acc z k + z.getD k 0 % 128 * 128 ^ k
end Go.Proofs.Ytoemmppoejaapaa.Cur
namespace Go.Proofs.Ytoemmppoejaapaa.Cur
open Go.RowKit Mem
set_option linter.unusedVariables false
end Go.Proofs.Ytoemmppoejaapaa.Cur
namespace Go.Proofs.Ytoemmppoejaapaa.Cur
open Go.RowKit Mem
set_option linter.unusedVariables false
end Go.Proofs.Ytoemmppoejaapaa.Cur
namespace Go.Proofs.Ytoemmppoejaapaa.Cur
open Go.RowKit Mem
set_option linter.unusedVariables false
theorem p9 : (128 : Int) ^ 9 = 9223372036854775808 := by decide
end Go.Proofs.Ytoemmppoejaapaa.Cur
