/- K2: CurA CurB CurC CurD CurE CurF CurG CurH -/
import Derived.Test.YtgdcbfekekefiaaK1
import Derived.WalkKit
import Derived.WalkSpells
import Derived.WalkLawsBesides
import Derived.OneCell
import Derived.Lib.Hide
import Derived.Deep.QuietTactic
import Derived.BigQuiet
import Derived.Deep.Draws
import Derived.Laws.CopyOwn
import Derived.Deep.RegionLaw
import Derived.Deep.RegionWith
import Derived.Laws.BytesArg
import Derived.Maps.AppendAt
import Derived.Laws.AppendOwnNone
import Derived.Deep.Slices
import Derived.Deep.Strs
import Derived.ProofKit
import Derived.OpenShut
import Derived.Deep.RegionHeld3
import Derived.Outline
/- The contracts of the reader's own functions (packages cursor and fault), first part: words for memory, and what reads a reader or makes a fault. -/
/- The contracts of the reader's own functions (package cursor), second part: Skip, End, New, cut, Take, Byte, Since. -/
/- The contracts of the reader's own functions (package cursor), third part: cut, Take, Byte, Since, Part. -/
/- The contracts of the reader's own functions (package cursor), fourth part: Take, Byte, Since, Part. -/
/- Two rows of bytes that are the same are told the same; the document's example is as it says (live). -/
/- Bytes that are appended to a row of the call's own; Take where there are enough bytes. -/
/- What a law's arguments hold, read off the memory in which it is called: bytes, calls, a start. The calls of a reader that has a fault. -/
/- The document's own reader, as a value (package tholepinref02): Fail, Take, End, Part; and the reader's Part. -/
namespace Go.Proofs.Ytgdcbfekekefiaa.Cur
open Go.RowKit
set_option linter.unusedVariables false

/-- The place of a fault with this code. -/
def fq (c q : Int) : Int := if c = 0 then 0 else q

end Go.Proofs.Ytgdcbfekekefiaa.Cur

namespace Go.Proofs.Ytgdcbfekekefiaa.Cur
open Go.RowKit
set_option linter.unusedVariables false

/-- What Skip of x does to place, code and place of the fault. -/
def SkipSt (n : Nat) (p c q x : Int) (ok : Bool) (p' c' q' : Int) : Prop :=
  (c ≠ 0 ∧ ok = false ∧ p' = p ∧ c' = c ∧ q' = q) ∨
  (c = 0 ∧ x < 0 ∧ ok = false ∧ p' = p ∧ c' = 17 ∧ q' = p) ∨
  (c = 0 ∧ (n : Int) - p < x ∧ ok = false ∧ p' = p ∧ c' = 1 ∧ q' = n) ∨
  (c = 0 ∧ 0 ≤ x ∧ x ≤ n - p ∧ ok = true ∧ p' = p + x ∧ c' = c ∧ q' = q)

def FailSt (c q c' q' c2 q2 : Int) : Prop := (c = 0 ∧ c2 = c' ∧ q2 = fq c' q') ∨ (c ≠ 0 ∧ c2 = c ∧ q2 = q)
theorem FailSt.det {c q c' q' c2 q2 c3 q3 : Int} (h : FailSt c q c' q' c2 q2) (k : FailSt c q c' q' c3 q3) : c2 = c3 ∧ q2 = q3 := by
  rcases h with ⟨a, rfl, rfl⟩ | ⟨a, rfl, rfl⟩ <;> rcases k with ⟨b, rfl, rfl⟩ | ⟨b, rfl, rfl⟩ <;> first | exact ⟨rfl, rfl⟩ | exact absurd a b | exact absurd b a
end Go.Proofs.Ytgdcbfekekefiaa.Cur

namespace Go.Proofs.Ytgdcbfekekefiaa.Cur
open Go.RowKit
set_option linter.unusedVariables false

/-- A new row of bytes at block g, which did not lie in w. -/
def CutPost (z : List Int) (f k : Nat) (w : World) (e : Ending) (w' : World) : Prop :=
  ∃ g, e = .returned (.slice (some ⟨g, 0, none⟩) (k - f) (k - f)) ∧ w.heap.size ≤ g ∧ Below w.heap.size w w' ∧ w'.heap[g]? = some (.cells ((piece z f k).map (Value.int .u8)).toArray 5 (0, 0))

end Go.Proofs.Ytgdcbfekekefiaa.Cur

namespace Go.Proofs.Ytgdcbfekekefiaa.Cur
open Go.RowKit
set_option linter.unusedVariables false

/-- What Since hands back. -/
def SincePost (z : List Int) (p f : Int) (w : World) (e : Ending) (w' : World) : Prop :=
  Below w.heap.size w w' ∧ ((0 ≤ f ∧ f ≤ p ∧ ∃ g, e = .returned (.slice (some ⟨g, 0, none⟩) (p.toNat - f.toNat) (p.toNat - f.toNat)) ∧ w.heap.size ≤ g ∧ w'.heap[g]? = some (.cells ((piece z f.toNat p.toNat).map (Value.int .u8)).toArray 5 (0, 0))) ∨
    ((f < 0 ∨ p < f) ∧ e = .returned (.slice none 0 0)))

end Go.Proofs.Ytgdcbfekekefiaa.Cur

namespace Go.Proofs.Ytgdcbfekekefiaa.Cur
open Go.RowKit
set_option linter.unusedVariables false

theorem skip_yes {n : Nat} {p q x : Int} {ok : Bool} {p' c' q' : Int} (h : SkipSt n p 0 q x ok p' c' q') (h0 : 0 ≤ x) (h1 : x ≤ n - p) : ok = true ∧ p' = p + x ∧ c' = 0 ∧ q' = q := by
  rcases h with ⟨h, _⟩ | ⟨_, h, _⟩ | ⟨_, h, _⟩ | ⟨_, _, _, a, b, c, d⟩
  · exact absurd rfl h
  · omega
  · omega
  · exact ⟨a, b, c, d⟩
theorem skip_over {n : Nat} {p q x : Int} {ok : Bool} {p' c' q' : Int} (h : SkipSt n p 0 q x ok p' c' q') (h0 : 0 ≤ x) (h1 : (n : Int) - p < x) : ok = false ∧ p' = p ∧ c' = 1 ∧ q' = n := by
  rcases h with ⟨h, _⟩ | ⟨_, h, _⟩ | ⟨_, _, a, b, c, d⟩ | ⟨_, _, h, _⟩
  · exact absurd rfl h
  · omega
  · exact ⟨a, b, c, d⟩
  · omega

end Go.Proofs.Ytgdcbfekekefiaa.Cur

namespace Go.Proofs.Ytgdcbfekekefiaa.Cur
open Go.RowKit
set_option linter.unusedVariables false

end Go.Proofs.Ytgdcbfekekefiaa.Cur

namespace Go.Proofs.Ytgdcbfekekefiaa.Cur
open Go.RowKit Go.ChangeShapes Go.WideShapes
set_option linter.unusedVariables false

section
variable {H : Type} {enc : TypeId × Value → H} {w : World} {base : Nat} {v : Value} {d : DataW H} {p : List MemPlace}

/-- At an address lie n calls: kind, number, place of each. -/
def IsDos (w : World) (A : Option Addr) (n : Nat) : Prop :=
  ∀ i, i < n → ∃ b o x y u, A = some ⟨b, o, none⟩ ∧ w.cell? ⟨b, o + i * 3, none⟩ = some (.int .i64 x) ∧ w.cell? ⟨b, o + i * 3 + 1, none⟩ = some (.int .i64 y) ∧ w.cell? ⟨b, o + i * 3 + 2, none⟩ = some (.int .i64 u) ∧
    (Lit.int .i64 x).wf = true ∧ (Lit.int .i64 y).wf = true ∧ (Lit.int .i64 u).wf = true

theorem IsDos.below {w w' : World} {A : Option Addr} {n : Nat} (h : IsDos w A n) (hb : Below w.heap.size w w') : IsDos w' A n := fun i hi => by
  obtain ⟨b, o, x, y, u, e, h0, h1, h2, r⟩ := h i hi
  exact ⟨b, o, x, y, u, e, (hb.cell (lt_of_cell h0)).trans h0, (hb.cell (lt_of_cell h1)).trans h1, (hb.cell (lt_of_cell h2)).trans h2, r⟩

theorem addr_flat {b o i j : Nat} : ((⟨b, o, none⟩ : Addr).add (i * 3)).add j = ⟨b, o + i * 3 + j, none⟩ := by
  rw [addr_add_add]
  unfold Addr.add
  split
  · rename_i h
    have h1 : o + i * 3 + j = o := by omega
    rw [h1]
  · simp [Nat.add_assoc]

end

/-! ### A reader that has a fault: nothing is read, and it stays as it is. -/
end Go.Proofs.Ytgdcbfekekefiaa.Cur

namespace Go.Proofs.Ytgdcbfekekefiaa.Cur
open Go.RowKit Mem
set_option linter.unusedVariables false

/-- The document's reader as a value. -/
abbrev cv (s : Value) (p c q : Int) : Value := .agg #[s, .int .i64 p, .int .i64 c, .int .i64 q]

/-- What the document's End does. -/
def REndPost (s : Value) (n : Nat) (p c q : Int) (w : World) (e : Ending) (w' : World) : Prop :=
  ∃ c' q', e = .returned (cv s p c' q') ∧ Below w.heap.size w w' ∧ (if c = 0 ∧ p < n then c' = 9 ∧ q' = p else c' = c ∧ q' = q)

/-- The place up to which a part goes, from p on. -/
def partEnd (n : Nat) (p x : Int) : Nat := (p + (if (n : Int) - p < (if x < 0 then 0 else x) then (n : Int) - p else (if x < 0 then 0 else x))).toNat

theorem partEnd_le (n : Nat) (p x : Int) (h0 : 0 ≤ p) (h1 : p ≤ n) : p.toNat ≤ partEnd n p x ∧ partEnd n p x ≤ n := by
  unfold partEnd
  constructor <;> (repeat' split) <;> omega

def RPartPost (A : Option Addr) (n m : Nat) (p x : Int) (w : World) (e : Ending) (w' : World) : Prop :=
  e = .returned (cv (.slice A (partEnd n p x) m) p 0 0) ∧ Below w.heap.size w w'

/-- What the document's Take hands back. -/
def RTakePost (s : Value) (n : Nat) (z : List Int) (p c q x : Int) (w : World) (e : Ending) (w' : World) : Prop :=
  ∃ ok p' c' q' A k m, e = .returned (.tuple #[cv s p' c' q', .slice A k m]) ∧ Below w.heap.size w w' ∧ SkipSt n p c q x ok p' c' q' ∧ Bs w' A k (if ok = true then piece z p.toNat (p + x).toNat else []) ∧ k ≤ m

def RFailPost (s : Value) (p c q c' q' : Int) (w : World) (e : Ending) (w' : World) : Prop := ∃ c2 q2, e = .returned (cv s p c2 q2) ∧ Below w.heap.size w w' ∧ FailSt c q c' q' c2 q2
end Go.Proofs.Ytgdcbfekekefiaa.Cur
