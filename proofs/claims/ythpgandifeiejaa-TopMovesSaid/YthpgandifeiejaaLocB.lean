/- Locate: Stripe; the document's Which and Nodes. -/
import Derived.Test.YthpgandifeiejaaLocA
namespace Go.Proofs.Ythpgandifeiejaa.Cur
open Go.RowKit Mem
set_option linter.unusedVariables false
set_option maxRecDepth 100000


/-- What Stripe tells; what Which tells. -/
def lsv (e : Int) (L : List Stp) (p : Int) : Value := if prok (e, L) = true ∧ psk p = true then .tuple #[.int .i64 (wsi L p), .bool true] else .tuple #[.int .i64 0, .bool false]
def whv (e : Int) (L : List Stp) (p : Int) : Int := if prok (e, L) = true ∧ psk p = true then (wsi L p : Int) else -1
theorem lsv_yes {e : Int} {L : List Stp} {p : Int} (h : prok (e, L) = true) (h2 : psk p = true) : lsv e L p = .tuple #[.int .i64 (wsi L p), .bool true] := if_pos ⟨h, h2⟩
theorem lsv_no {e : Int} {L : List Stp} {p : Int} (h : ¬ (prok (e, L) = true ∧ psk p = true)) : lsv e L p = .tuple #[.int .i64 0, .bool false] := if_neg h
theorem whv_yes {e : Int} {L : List Stp} {p : Int} (h : prok (e, L) = true) (h2 : psk p = true) : whv e L p = (wsi L p : Int) := if_pos ⟨h, h2⟩
theorem whv_no {e : Int} {L : List Stp} {p : Int} (h : ¬ (prok (e, L) = true ∧ psk p = true)) : whv e L p = -1 := if_neg h
/-- The nodes of a position. -/
def wset (L : List Stp) (p : Int) : Nat := ((p - (L.getD (wsi L p) stp0).1) % ((L.getD (wsi L p) stp0).2.2.length : Int)).toNat
def wsn (L : List Stp) (p : Int) : List Int := (L.getD (wsi L p) stp0).2.2.getD (wset L p) []
theorem psk_lt {p : Int} (h : psk p = true) : p < 4611686018427387904 := by
  have := of_decide_eq_true h
  omega

/-- What the document's Nodes hands back: a set where it lies. -/
def WnPost (L : List Stp) (p : Int) (w : World) (e : Ending) (w' : World) : Prop :=
  ∃ a l m, e = .returned (.slice a l m) ∧ l ≤ m ∧ Us w a l (wsn L p) ∧ Below w.heap.size w w'
end Go.Proofs.Ythpgandifeiejaa.Cur
