/- Two rows of bytes that are the same are told the same. -/
import Derived.Test.YtkedmhopajpkhaaByw
import Derived.WalkKit
import Derived.WalkSpells
import Derived.WalkLawsBesides
import Derived.Lib.Hide
namespace Go.Proofs.Ytkedmhopajpkhaa.Cur
open Go.RowKit Mem
set_option linter.unusedVariables false

set_option maxHeartbeats 400000 in
theorem same_any (A B : Option Addr) (n m c d : Nat) (z : List Int) (w : World) (ha : Bs w A n z) (hb : Bs w B m z) :
    Calls Try.prog 12 #[.slice A n c, .slice B m d] w fun e w' => e = .returned (.bool true) ∧ w = w' := by
  have h1 := run_convert_bs c ha
  have h2 := run_convert_bs d hb
  obtain ⟨s, hs⟩ : ∃ s, s = strOfNums z := ⟨_, rfl⟩
  rw [← hs] at h1 h2
  clear hs
  go_enter Try.func12, Try.ntmps12
  go_wp2
  go_ret
  exact ⟨rfl, rfl⟩

end Go.Proofs.Ytkedmhopajpkhaa.Cur
