/- The table of powers as the rows lay it. -/
import Derived.Test.YtogfjejodoefeaaDoorWrdA
import Derived.Test.YtogfjejodoefeaaDoorRows
import Derived.Lib.LaidTab
namespace Go.Proofs.YtogfjejodoefeaaDoor.Cur
open Go.RowKit Mem
set_option linter.unusedVariables false
theorem gPow : Tryd.prog.globalNamed "internal/strconv.uint64pow10" = some 1 := by kernel_rfl
theorem tPow : (Tryd.prog.globals[1]?).map (·.type) = some 79 := by kernel_rfl
theorem tbs_of_laid {W : World} (h : laidMet Tryd.prog [("math/bits.deBruijn32tab", Rows.laid_math_bits_deBruijn32tab), ("math/bits.deBruijn64tab", Rows.laid_math_bits_deBruijn64tab), ("internal/strconv.uint64pow10", Rows.laid_internal_strconv_uint64pow10)] W) : Tbs W := by
  obtain ⟨ps, ⟨g1, t1, cs1, f1, p1, q1, hg1, ht1, hv1, hd1, ⟨g2, t2, cs2, f2, p2, q2, hg2, ht2, hv2, hd2, ⟨g3, t3, cs3, f3, p3, q3, hg3, ht3, hv3, hd3, _, _⟩, _⟩, _⟩, _, _⟩ := h
  obtain rfl := Option.some.inj (gPow.symm.trans hg3)
  obtain rfl := Option.some.inj (tPow.symm.trans ht3)
  have e3 := Lib.cells_of_tab Tryd.underlying79 Tryd.underlying33 (by kernel_rfl) (by kernel_rfl) (k := .u64) (zs := Lib.pow10Tab) (p := p3) hd3
  unfold Tbs Lib.TabIs
  rw [hv3, ← e3]
end Go.Proofs.YtogfjejodoefeaaDoor.Cur
