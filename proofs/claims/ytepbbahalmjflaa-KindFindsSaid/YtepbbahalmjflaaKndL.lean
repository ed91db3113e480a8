/- Kinds: the document's example. -/
import Derived.Test.YtepbbahalmjflaaKndC
import Derived.Test.YtepbbahalmjflaaKndE
namespace Go.Proofs.Ytepbbahalmjflaa.Cur
open Go.RowKit Mem
set_option linter.unusedVariables false
set_option maxRecDepth 100000

/-- A later world of the same memory. -/
def HkW (w w' : World) : Prop := Below w.heap.size w w'
theorem live27_any (w : World) : Calls Try.prog 14 #[] w (BPost (.bool true) w) := by
  have e1 : kans 1 9 = true := by decide
  have e2 : kans 1 10 = false := by decide
  have e3 : kh 12 16 = true := by decide
  unfold BPost
  go_enter Try.func14, Try.ntmps14
  go_wp2_with fail
  refine (kans_any 1 9 _).mono ?_
  rintro e w1 ⟨rfl, hb1⟩
  rw [e1]
  go_wp2_with fail
  refine (kans_any 1 10 _).mono ?_
  rintro e w2 ⟨rfl, hb2⟩
  rw [e2]
  go_wp2_with fail
  refine (khas_any 12 16 _ (by decide) (by decide)).mono ?_
  rintro e w3 ⟨rfl, hb3⟩
  rw [e3]
  go_wp2
  go_ret
  exact ⟨rfl, (hb1.trans (hb2.mono hb1.size)).trans (hb3.mono (hb1.trans (hb2.mono hb1.size)).size)⟩
end Go.Proofs.Ytepbbahalmjflaa.Cur
