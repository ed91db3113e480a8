/- As the seat's text, without what nothing here names. -/
import Derived.Test.YtmiimjgfainclaaGreatK1w
namespace Go.Proofs.YtmiimjgfainclaaGreat.Seq
open Go Go.RowKit Mem
set_option linter.unusedVariables false
section
variable {P : Program} {ops : Array Oper} {S : World → Prop} {Q : Exit → Act → World → Prop}
def opt (c : Bool) (v : Value) : Value := match c with
  | true => v
  | false => undef
theorem wanted_t {o : Oper} {tmps : Array Value} {j : Nat} {c : Bool} (hg : o.guard = some (j, true)) (hy : yielded ops tmps j = some c) : Region.wanted o (yielded ops tmps) = c := by
  unfold Region.wanted
  rw [hg]
  simp only [hy]
  cases c <;> rfl
theorem wanted_f {o : Oper} {tmps : Array Value} {j : Nat} {c : Bool} (hg : o.guard = some (j, false)) (hy : yielded ops tmps j = some c) : Region.wanted o (yielded ops tmps) = !c := by
  unfold Region.wanted
  rw [hg]
  simp only [hy]
  cases c <;> rfl
theorem Seq.may {o : Oper} {rest : List Oper} {a : Act} {w : World} (c : Bool) (v : Value) (hw : Region.wanted o (yielded ops a.tmps) = c) (hv : c = true → ∀ w, S w → (execOp a.eval o).run P w = .ok (.value v) w) (h : Seq P ops S Q rest (a.put o.dst (opt c v)) w) :
    Seq P ops S Q (o :: rest) a w := by
  cases c
  · exact Seq.skip hw h
  · exact Seq.det v hw (hv rfl) h
theorem Seq.maymk {o : Oper} {rest : List Oper} {a : Act} {w : World} (c : Bool) (v : Value) (hm : making o = true) (hS : S w) (hw : Region.wanted o (yielded ops a.tmps) = c)
    (hc : c = true → ∀ (K : Act → World → Prop) (Q' : Exit → Act → World → Prop), Shut (∀ w', S w' → K (a.put o.dst v) w') → o.wp P a w K Q') (h : ∀ w', S w' → Seq P ops S Q rest (a.put o.dst (opt c v)) w') : Seq P ops S Q (o :: rest) a w := by
  cases c
  · exact Seq.skip hw (h w hS)
  · exact Seq.make hm hw fun K Q' hK => hc rfl K Q' fun w' hw' => hK.out _ _ hw' (h w' hw')
end
end Go.Proofs.YtmiimjgfainclaaGreat.Seq
