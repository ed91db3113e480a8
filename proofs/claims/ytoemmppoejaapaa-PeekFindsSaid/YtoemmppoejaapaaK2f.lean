/- As the seat's text, without what nothing here names. -/
import Derived.Test.YtoemmppoejaapaaK1f
import Derived.WalkKit
import Derived.WalkSpells
import Derived.WalkLawsBesides
import Derived.OneCell
import Derived.Lib.Hide
import Derived.Deep.QuietTactic
import Derived.BigQuiet
import Derived.Deep.Draws
import Derived.Laws.CopyOwn
import Derived.Deep.RegionLaw
import Derived.Deep.RegionWith
import Derived.Laws.BytesArg
import Derived.Maps.AppendAt
import Derived.Laws.AppendOwnNone
import Derived.Deep.Slices
import Derived.Deep.Strs
import Derived.ProofKit
import Derived.OpenShut
import Derived.Deep.RegionHeld3
import Derived.Outline
namespace Go.Proofs.Ytoemmppoejaapaa.Cur
open Go.RowKit
set_option linter.unusedVariables false
def fq (c q : Int) : Int := if c = 0 then 0 else q
end Go.Proofs.Ytoemmppoejaapaa.Cur
namespace Go.Proofs.Ytoemmppoejaapaa.Cur
open Go.RowKit
set_option linter.unusedVariables false
def FailSt (c q c' q' c2 q2 : Int) : Prop := (c = 0 ∧ c2 = c' ∧ q2 = fq c' q') ∨ (c ≠ 0 ∧ c2 = c ∧ q2 = q)
theorem FailSt.det {c q c' q' c2 q2 c3 q3 : Int} (h : FailSt c q c' q' c2 q2) (k : FailSt c q c' q' c3 q3) : c2 = c3 ∧ q2 = q3 := by
  rcases h with ⟨a, rfl, rfl⟩ | ⟨a, rfl, rfl⟩ <;> rcases k with ⟨b, rfl, rfl⟩ | ⟨b, rfl, rfl⟩ <;> first | exact ⟨rfl, rfl⟩ | exact absurd a b | exact absurd b a
end Go.Proofs.Ytoemmppoejaapaa.Cur
namespace Go.Proofs.Ytoemmppoejaapaa.Cur
open Go.RowKit
set_option linter.unusedVariables false
end Go.Proofs.Ytoemmppoejaapaa.Cur
namespace Go.Proofs.Ytoemmppoejaapaa.Cur
open Go.RowKit
set_option linter.unusedVariables false
end Go.Proofs.Ytoemmppoejaapaa.Cur
namespace Go.Proofs.Ytoemmppoejaapaa.Cur
open Go.RowKit
set_option linter.unusedVariables false
end Go.Proofs.Ytoemmppoejaapaa.Cur
namespace Go.Proofs.Ytoemmppoejaapaa.Cur
open Go.RowKit
set_option linter.unusedVariables false
end Go.Proofs.Ytoemmppoejaapaa.Cur
namespace Go.Proofs.Ytoemmppoejaapaa.Cur
open Go.RowKit Go.ChangeShapes Go.WideShapes
set_option linter.unusedVariables false
section
variable {H : Type} {enc : TypeId × Value → H} {w : World} {base : Nat} {v : Value} {d : DataW H} {p : List MemPlace}
def IsDos (w : World) (A : Option Addr) (n : Nat) : Prop :=
  ∀ i, i < n → ∃ b o x y u, A = some ⟨b, o, none⟩ ∧ w.cell? ⟨b, o + i * 3, none⟩ = some (.int .i64 x) ∧ w.cell? ⟨b, o + i * 3 + 1, none⟩ = some (.int .i64 y) ∧ w.cell? ⟨b, o + i * 3 + 2, none⟩ = some (.int .i64 u) ∧
    (Lit.int .i64 x).wf = true ∧ (Lit.int .i64 y).wf = true ∧ (Lit.int .i64 u).wf = true
theorem IsDos.below {w w' : World} {A : Option Addr} {n : Nat} (h : IsDos w A n) (hb : Below w.heap.size w w') : IsDos w' A n := fun i hi => by
  obtain ⟨b, o, x, y, u, e, h0, h1, h2, r⟩ := h i hi
  exact ⟨b, o, x, y, u, e, (hb.cell (lt_of_cell h0)).trans h0, (hb.cell (lt_of_cell h1)).trans h1, (hb.cell (lt_of_cell h2)).trans h2, r⟩
end
end Go.Proofs.Ytoemmppoejaapaa.Cur
namespace Go.Proofs.Ytoemmppoejaapaa.Cur
open Go.RowKit Mem
set_option linter.unusedVariables false
abbrev cv (s : Value) (p c q : Int) : Value := .agg #[s, .int .i64 p, .int .i64 c, .int .i64 q]
end Go.Proofs.Ytoemmppoejaapaa.Cur
