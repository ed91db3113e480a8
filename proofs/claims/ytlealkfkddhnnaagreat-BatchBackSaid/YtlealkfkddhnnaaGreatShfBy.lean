/- As the seat's text, without what nothing here names. -/
import Derived.Test.YtlealkfkddhnnaaGreatK18y
import Derived.Test.YtlealkfkddhnnaaGreatShfMy
namespace Go.Proofs.YtlealkfkddhnnaaGreat.Cur
open Go.RowKit Mem
set_option linter.unusedVariables false
theorem bl_sh (z : List Int) (mo : Int) {k p : Int} (hk : 0 ≤ k) (hp : 0 ≤ p) (hl : k ≤ z.length) : Sh k (bl z mo (p + k)) (bl (z.drop k.toNat) mo p) := by
  unfold bl
  exact (vm_sh z mo hk hp).bind fun v p1 h1 => tk_sh z v hk h1 hl
theorem bc_sh (z : List Int) (n way : Int) {k p : Int} (hk : 0 ≤ k) (hp : 0 ≤ p) (hl : k ≤ z.length) : Sh k (bc z n way (p + k)) (bc (z.drop k.toNat) n way p) := by
  unfold bc
  by_cases hw : way = 0
  · rw [if_pos hw, if_pos hw]
    exact tk_sh z n hk hp hl
  · rw [if_neg hw, if_neg hw]
    refine (bl_sh z 1048576 hk hp hl).bind fun t p1 h1 => ?_
    by_cases hc : (exv t n).2.1 ≠ 0
    · rw [if_pos hc, if_pos hc]
      exact ⟨rfl, rfl, fun e => absurd e hc, fun _ => by show p1 + k - t.length + _ = p1 - t.length + _ + k; omega⟩
    · rw [if_neg hc, if_neg hc]
      by_cases h2 : ((exv t n).1.length : Int) < n
      · rw [if_pos h2, if_pos h2]
        exact Sh.fail _ _ _ (by decide)
      · rw [if_neg h2, if_neg h2]
        exact Sh.done _ _ _ h1
theorem bk_sh (z : List Int) (most : Int) {k p : Int} (hk : 0 ≤ k) (hp : 0 ≤ p) (hl : k ≤ z.length) : Sh k (bk z most (p + k)) (bk (z.drop k.toNat) most p) := by
  unfold bk
  refine (vm_sh z _ hk hp).bind fun n p1 h1 => (tk_sh z 1 hk h1 hl).bind fun wy p2 h2 => ?_
  by_cases hw : 1 < wy.getD 0 0
  · rw [if_pos hw, if_pos hw]
    exact Sh.fail _ _ _ (by decide)
  · rw [if_neg hw, if_neg hw]
    exact bc_sh z n _ hk h2 hl
theorem bks_sh (z : List Int) (most : Int) {k p : Int} (hk : 0 ≤ k) (hp : 0 ≤ p) (hl : k ≤ z.length) : Sh k (bks z most (p + k)) (bks (z.drop k.toNat) most p) := by
  unfold bks
  refine (bk_sh z most hk hp hl).bind fun y p1 h1 => ?_
  rw [piece_sh z hk hp h1]
  by_cases hw : piece (z.drop k.toNat) p.toNat p1.toNat = bkb y
  · rw [if_pos hw, if_pos hw]
    exact Sh.done _ _ _ h1
  · rw [if_neg hw, if_neg hw]
    exact Sh.fail _ _ _ (by decide)
end Go.Proofs.YtlealkfkddhnnaaGreat.Cur
