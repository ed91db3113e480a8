/- As the seat's text, without what nothing here names. -/
import Derived.Test.YtoemmppoejaapaaK33f
namespace Go.Proofs.Ytoemmppoejaapaa.Cur
open Go.RowKit Mem
set_option linter.unusedVariables false
abbrev TL := Int → Option (List Int)
def tl0 : TL := fun _ => none
def fl (l : List Lk) (s : Int) : Option (List Int) := (l.find? fun x => x.1 == s).map (·.2)
theorem fl_cons (x : Lk) (l : List Lk) (s : Int) : fl (x :: l) s = if x.1 = s then some x.2 else fl l s := by
  unfold fl
  by_cases h : x.1 = s
  · rw [if_pos h, List.find?_cons_of_pos (by simpa using h)]; rfl
  · rw [if_neg h, List.find?_cons_of_neg (by simpa using h)]
theorem fl_append (l m : List Lk) (s : Int) : fl (l ++ m) s = match fl l s with
  | some z => some z
  | none => fl m s := by
  induction l with
  | nil => rfl
  | cons x l ih =>
    rw [List.cons_append, fl_cons, fl_cons]
    by_cases h : x.1 = s
    · rw [if_pos h, if_pos h]
    · rw [if_neg h, if_neg h, ih]
end Go.Proofs.Ytoemmppoejaapaa.Cur
