/- As the seat's text, without what nothing here names. -/
import Derived.Test.YtmiimjgfainclaaGreatK1w
import Derived.WalkKit
import Derived.WalkSpells
import Derived.WalkLawsBesides
import Derived.OneCell
import Derived.Lib.Hide
import Derived.Deep.QuietTactic
import Derived.BigQuiet
import Derived.Deep.Draws
import Derived.Laws.CopyOwn
import Derived.Deep.RegionLaw
import Derived.Deep.RegionWith
import Derived.Laws.BytesArg
import Derived.Maps.AppendAt
import Derived.Laws.AppendOwnNone
import Derived.Deep.Slices
import Derived.Deep.Strs
import Derived.ProofKit
import Derived.OpenShut
import Derived.Deep.RegionHeld3
import Derived.Outline
namespace Go.Proofs.YtmiimjgfainclaaGreat.Cur
open Go.RowKit
set_option linter.unusedVariables false
def IsRd (w : World) (b : Nat) (s : Value) (p c q : Int) : Prop :=
  w.heap[b]? = some (.cells #[s, .int .i64 p, .int .i64 c, .int .i64 q] 100 (0, 0))
theorem IsRd.cells {w : World} {b : Nat} {s : Value} {p c q : Int} (h : IsRd w b s p c q) :
    w.cell? ⟨b, 0, none⟩ = some s ∧ w.cell? ⟨b, 1, none⟩ = some (.int .i64 p) ∧ w.cell? ⟨b, 2, none⟩ = some (.int .i64 c) ∧ w.cell? ⟨b, 3, none⟩ = some (.int .i64 q) := by
  unfold IsRd at h
  simp [World.cell?, h]
theorem IsRd.free {w : World} {b : Nat} {s : Value} {p c q : Int} (h : IsRd w b s p c q) (o : Nat) : w.frozen? ⟨b, o, none⟩ = false := by
  unfold IsRd at h
  simp [World.frozen?, h]
theorem IsRd.lt {w : World} {b : Nat} {s : Value} {p c q : Int} (h : IsRd w b s p c q) : b < w.heap.size := lt_of_block h
theorem IsRd.below {w w' : World} {b : Nat} {s : Value} {p c q : Int} (h : IsRd w b s p c q) (hb : Below w.heap.size w w') : IsRd w' b s p c q := (hb.block b h.lt).trans h
theorem IsRd.kp {w w' : World} {b k : Nat} {s : Value} {p c q : Int} (h : IsRd w b s p c q) (hb : Kp k w w') (hk : b ≠ k) : IsRd w' b s p c q := (hb.block b h.lt hk).trans h
theorem Bs.kp {w w' : World} {A : Option Addr} {n : Nat} {z : List Int} {b : Nat} {s : Value} {p c q : Int} (h : Bs w A n z) (hr : IsRd w b (s) p c q) (hs : ∀ x, s ≠ .int .u8 x) (hb : Kp b w w') : Bs w' A n z :=
  h.keep fun k o x hc => by
    have hne : k ≠ b := by
      rintro rfl
      unfold IsRd at hr
      simp only [World.cell?, hr] at hc
      match o, hc with
      | 0, hc => simp at hc; exact hs x hc
      | 1, hc => simp at hc
      | 2, hc => simp at hc
      | 3, hc => simp at hc
      | o + 4, hc => simp at hc
    exact (World.cell?_of_block (w := w) (hb.block k (lt_of_cell hc) hne)).trans hc
def fq (c q : Int) : Int := if c = 0 then 0 else q
end Go.Proofs.YtmiimjgfainclaaGreat.Cur
namespace Go.Proofs.YtmiimjgfainclaaGreat.Cur
open Go.RowKit
set_option linter.unusedVariables false
theorem IsRd.drewN {w : World} {b : Nat} {s : Value} {p c q : Int} (h : IsRd w b s p c q) (k : Nat) : IsRd (w.drewN k) b s p c q := h
def FailSt (c q c' q' c2 q2 : Int) : Prop := (c = 0 ∧ c2 = c' ∧ q2 = fq c' q') ∨ (c ≠ 0 ∧ c2 = c ∧ q2 = q)
theorem FailSt.det {c q c' q' c2 q2 c3 q3 : Int} (h : FailSt c q c' q' c2 q2) (k : FailSt c q c' q' c3 q3) : c2 = c3 ∧ q2 = q3 := by
  rcases h with ⟨a, rfl, rfl⟩ | ⟨a, rfl, rfl⟩ <;> rcases k with ⟨b, rfl, rfl⟩ | ⟨b, rfl, rfl⟩ <;> first | exact ⟨rfl, rfl⟩ | exact absurd a b | exact absurd b a
end Go.Proofs.YtmiimjgfainclaaGreat.Cur
namespace Go.Proofs.YtmiimjgfainclaaGreat.Cur
open Go.RowKit
set_option linter.unusedVariables false
end Go.Proofs.YtmiimjgfainclaaGreat.Cur
namespace Go.Proofs.YtmiimjgfainclaaGreat.Cur
open Go.RowKit
set_option linter.unusedVariables false
end Go.Proofs.YtmiimjgfainclaaGreat.Cur
namespace Go.Proofs.YtmiimjgfainclaaGreat.Cur
open Go.RowKit
set_option linter.unusedVariables false
end Go.Proofs.YtmiimjgfainclaaGreat.Cur
namespace Go.Proofs.YtmiimjgfainclaaGreat.Cur
open Go.RowKit
set_option linter.unusedVariables false
theorem Own.ne_rd {w : World} {B b : Nat} {v s : Value} {z : List Int} {p c q : Int} (h : Own w B v z) (hr : IsRd w b s p c q) : v.ownBlock ≠ some b := by
  rcases h.2 with ⟨rfl, _⟩ | ⟨g, cap, cur, rfl, _, hh, _⟩
  · simp [Value.ownBlock]
  · intro he
    have : g = b := by simpa [Value.ownBlock] using he
    subst this
    unfold IsRd at hr
    rw [hh] at hr
    simp at hr
theorem Own.kp {w w' : World} {B b : Nat} {v s : Value} {z : List Int} {p c q : Int} (h : Own w B v z) (hr : IsRd w b s p c q) (hb : Kp b w w') : Own w' B v z :=
  h.block fun k hk => hb.block k (World.ownsRow.lt h k hk).2 (fun e => h.ne_rd hr (by rw [hk, e]))
theorem IsRd.grown {w w' : World} {b B : Nat} {s v : Value} {p c q : Int} {z : List Int} (h : IsRd w b s p c q) (hown : Own w B v z) (hg : w.grownBy w' v.ownBlock) : IsRd w' b s p c q :=
  (hg.block b h.lt (fun e => hown.ne_rd h e.symm)).trans h
end Go.Proofs.YtmiimjgfainclaaGreat.Cur
namespace Go.Proofs.YtmiimjgfainclaaGreat.Cur
open Go.RowKit Go.ChangeShapes Go.WideShapes
set_option linter.unusedVariables false
section
variable {H : Type} {enc : TypeId × Value → H} {w : World} {base : Nat} {v : Value} {d : DataW H} {p : List MemPlace}
def IsDos (w : World) (A : Option Addr) (n : Nat) : Prop :=
  ∀ i, i < n → ∃ b o x y u, A = some ⟨b, o, none⟩ ∧ w.cell? ⟨b, o + i * 3, none⟩ = some (.int .i64 x) ∧ w.cell? ⟨b, o + i * 3 + 1, none⟩ = some (.int .i64 y) ∧ w.cell? ⟨b, o + i * 3 + 2, none⟩ = some (.int .i64 u) ∧
    (Lit.int .i64 x).wf = true ∧ (Lit.int .i64 y).wf = true ∧ (Lit.int .i64 u).wf = true
theorem IsDos.below {w w' : World} {A : Option Addr} {n : Nat} (h : IsDos w A n) (hb : Below w.heap.size w w') : IsDos w' A n := fun i hi => by
  obtain ⟨b, o, x, y, u, e, h0, h1, h2, r⟩ := h i hi
  exact ⟨b, o, x, y, u, e, (hb.cell (lt_of_cell h0)).trans h0, (hb.cell (lt_of_cell h1)).trans h1, (hb.cell (lt_of_cell h2)).trans h2, r⟩
end
end Go.Proofs.YtmiimjgfainclaaGreat.Cur
namespace Go.Proofs.YtmiimjgfainclaaGreat.Cur
open Go.RowKit Mem
set_option linter.unusedVariables false
abbrev cv (s : Value) (p c q : Int) : Value := .agg #[s, .int .i64 p, .int .i64 c, .int .i64 q]
end Go.Proofs.YtmiimjgfainclaaGreat.Cur
