/- The tables as the rows lay them. -/
import Derived.Test.YtncomjeidlahlaaDoorK7
import Derived.Test.YtncomjeidlahlaaDoorRows
import Derived.Lib.LaidTab
namespace Go.Proofs.YtncomjeidlahlaaDoor.Cur
open Go.RowKit Mem CrcM
set_option linter.unusedVariables false
theorem gLow : Tryd.prog.globalNamed "tholepin/crc.lower" = some 0 := by kernel_rfl
theorem gUpp : Tryd.prog.globalNamed "tholepin/crc.upper" = some 1 := by kernel_rfl
theorem tLow : (Tryd.prog.globals[0]?).map (·.type) = some 109 := by kernel_rfl
theorem tUpp : (Tryd.prog.globals[1]?).map (·.type) = some 109 := by kernel_rfl
theorem tbs_of_laid {W : World} (h : laidMet Tryd.prog [("tholepin/crc.lower", Rows.laid_tholepin_crc_lower), ("tholepin/crc.upper", Rows.laid_tholepin_crc_upper)] W) : Tbs W := by
  obtain ⟨ps, ⟨g1, t1, cs1, f1, p1, q1, hg1, ht1, hv1, hd1, ⟨g2, t2, cs2, f2, p2, q2, hg2, ht2, hv2, hd2, _, _⟩, _⟩, _, _⟩ := h
  obtain rfl := Option.some.inj (gLow.symm.trans hg1)
  obtain rfl := Option.some.inj (tLow.symm.trans ht1)
  obtain rfl := Option.some.inj (gUpp.symm.trans hg2)
  obtain rfl := Option.some.inj (tUpp.symm.trans ht2)
  have e1 := Lib.cells_of_tab Tryd.underlying109 Tryd.underlying55 (by kernel_rfl) (by kernel_rfl) (k := .u32) (zs := low.map Int.ofNat) (p := p1) hd1
  have e2 := Lib.cells_of_tab Tryd.underlying109 Tryd.underlying55 (by kernel_rfl) (by kernel_rfl) (k := .u32) (zs := upp.map Int.ofNat) (p := p2) hd2
  refine ⟨fun i hi => ?_, fun i hi => ?_⟩
  · rw [World.var?_cell gLow hv1 i, ← Array.getElem?_toList, e1]
    have hl : i < low.length := hi
    simp [List.getD_eq_getElem?_getD, List.getElem?_eq_getElem hl]
  · rw [World.var?_cell gUpp hv2 i, ← Array.getElem?_toList, e2]
    have hl : i < upp.length := hi
    simp [List.getD_eq_getElem?_getD, List.getElem?_eq_getElem hl]
end Go.Proofs.YtncomjeidlahlaaDoor.Cur
