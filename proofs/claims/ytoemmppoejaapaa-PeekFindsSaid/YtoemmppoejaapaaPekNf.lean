/- As the seat's text, without what nothing here names. -/
import Derived.Test.YtoemmppoejaapaaPekKf
import Derived.Test.YtoemmppoejaapaaK25f
import Derived.Test.YtoemmppoejaapaaK35f
import Derived.Deep.Cut
import Derived.BigRegion
namespace Go.Proofs.Ytoemmppoejaapaa.Cur
open Go.RowKit Mem
set_option linter.unusedVariables false
set_option maxRecDepth 100000
def CT (p : Int) (l : List Lk) (T : TL) : Nat → TL
  | 0 => T
  | i + 1 => fun t => if t = (l.getD i lk0).1 then some (p :: (l.getD i lk0).2.take 3) else CT p l T i t
def CE (b : Int) (Ls : List (List Lk)) (T : TL) : Nat → TL
  | 0 => T
  | k + 1 => CT (b + k) (Ls.getD k []) (CE b Ls T k) (Ls.getD k []).length
def cgo (T : TL) (x : Lk) : Bool := match T x.1 with
  | none => true
  | some z => decide (x.2 = z)
def cok (p : Int) (l : List Lk) (T : TL) : Nat → Bool
  | 0 => true
  | i + 1 => cok p l T i && cgo (CT p l T i) (l.getD i lk0)
def coe (b : Int) (Ls : List (List Lk)) (T : TL) : Nat → Bool
  | 0 => true
  | k + 1 => coe b Ls T k && cok (b + k) (Ls.getD k []) (CE b Ls T k) (Ls.getD k []).length
def chS (mb cb : Nat) (x : Nat) : Prop := x = mb ∨ x = cb
def ChnI (B0 eb mb cb : Nat) (b : Int) (L : List En) (k i : Nat) (w : World) : Prop :=
  Blk w eb #[.map (some mb)] 61 ∧ Blk w cb #[.bool (coe b (lksOf L) tl0 k && cok (b + k) ((lksOf L).getD k []) (CE b (lksOf L) tl0 k) i)] 4 ∧
  (∃ nn D f, nn ≤ k * 100 + i ∧ MapV w mb nn D ∧ MV D f ∧ TlE w (fun x => B0 ≤ x ∧ ¬ chS mb cb x) f (CT (b + k) ((lksOf L).getD k []) (CE b (lksOf L) tl0 k) i))
theorem ChnI.below {B0 eb mb cb : Nat} {b : Int} {L : List En} (k i : Nat) (w w' : World) (h : ChnI B0 eb mb cb b L k i w) (hb : Below w.heap.size w w') : ChnI B0 eb mb cb b L k i w' := by
  obtain ⟨h1, h2, nn, D, f, q1, q2, q3, q4⟩ := h
  exact ⟨h1.below hb, h2.below hb, nn, D, f, q1, q2.below hb, q3, q4.below hb⟩
theorem ChnI.next {B0 eb mb cb : Nat} {b : Int} {L : List En} (hl : ∀ k, ((lksOf L).getD k []).length ≤ 100) (k : Nat) (w : World) (h : ChnI B0 eb mb cb b L k ((lksOf L).getD k []).length w) : ChnI B0 eb mb cb b L (k + 1) 0 w := by
  obtain ⟨h1, h2, nn, D, f, q1, q2, q3, q4⟩ := h
  have := hl k
  refine ⟨h1, ?_, nn, D, f, by omega, q2, q3, q4⟩
  have e : (coe b (lksOf L) tl0 (k + 1) && cok (b + (k + 1 : Nat)) ((lksOf L).getD (k + 1) []) (CE b (lksOf L) tl0 (k + 1)) 0) = (coe b (lksOf L) tl0 k && cok (b + k) ((lksOf L).getD k []) (CE b (lksOf L) tl0 k) ((lksOf L).getD k []).length) := Bool.and_true _
  rw [e]
  exact h2
end Go.Proofs.Ytoemmppoejaapaa.Cur
