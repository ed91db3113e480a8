/- As the seat's text, without what nothing here names. -/
import Derived.Test.YtmiimjgfainclaaGreatK13w
import Derived.Test.YtmiimjgfainclaaGreatK16w
import Derived.Test.YtmiimjgfainclaaGreatK12w
import Derived.Test.YtmiimjgfainclaaGreatK2w
namespace Go.Proofs.YtmiimjgfainclaaGreat.Cur
open Go.RowKit Mem
set_option linter.unusedVariables false
section
variable {T : List Tk} {M B : Int} {n : Nat} {z : List Int}
end
end Go.Proofs.YtmiimjgfainclaaGreat.Cur
namespace Go.Proofs.YtmiimjgfainclaaGreat.Cur
open Go.RowKit Mem
set_option linter.unusedVariables false
def FP {α : Type} (g : Rs α) (n : Int) : Prop := g.2.2.1 ≠ 0 → 0 ≤ g.2.2.2 ∧ g.2.2.2 ≤ n
theorem FP.bind {α β : Type} {g : Rs α} {d : β} {f : α → Int → Rs β} {n : Int} (h : FP g n) (k : g.2.2.1 = 0 → FP (f g.1 g.2.1) n) : FP (g.bind d f) n := by
  unfold Rs.bind
  split
  · rename_i hc
    exact fun _ => h hc
  · rename_i hc
    exact k (by simpa using hc)
theorem FP.ok {α : Type} {x : α} {p n : Int} : FP (x, p, 0, 0) n := fun h => absurd rfl h
end Go.Proofs.YtmiimjgfainclaaGreat.Cur
namespace Go.Proofs.YtmiimjgfainclaaGreat.Cur
open Go.RowKit Go.Shelf Mem
attribute [local go_sem] Oper.semAt_some
set_option linter.unusedVariables false
set_option maxRecDepth 100000
theorem bsame_any (A B : Option Addr) (n m c d : Nat) (y z : List Int) (w : World) (ha : Bs w A n y) (hb : Bs w B m z) (hy : ∀ x ∈ y, 0 ≤ x ∧ x < 256) (hz : ∀ x ∈ z, 0 ≤ x ∧ x < 256) :
    Calls Tryz.prog 13 #[.slice A n c, .slice B m d] w fun e w' => e = .returned (.bool (decide (y = z))) ∧ w = w' := by
  have h1 := run_convert_bs c ha
  have h2 := run_convert_bs d hb
  have hs : ((strOfNums y).toList == (strOfNums z).toList) = decide (y = z) := by
    by_cases h : y = z
    · subst h; simp
    · rw [decide_eq_false h, beq_eq_false_iff_ne]
      exact fun e => h (strOfNums_inj hy hz (bstr_inj e))
  generalize strOfNums y = s at *
  generalize strOfNums z = t at *
  generalize decide (y = z) = r at *
  clear hy hz ha hb
  go_enter Tryz.func13, Tryz.ntmps13
  go_wp2
  go_ret
  exact ⟨rfl, rfl⟩
end Go.Proofs.YtmiimjgfainclaaGreat.Cur
