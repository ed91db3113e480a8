/- As the seat's text, without what nothing here names. -/
import Derived.Test.YtlealkfkddhnnaaGreatBtcIv
import Derived.Test.YtlealkfkddhnnaaGreatBtcKv
import Derived.Test.YtlealkfkddhnnaaGreatBtcTv
import Derived.Test.YtlealkfkddhnnaaGreatShfBv
import Derived.Test.YtlealkfkddhnnaaGreatK18v
namespace Go.Proofs.YtlealkfkddhnnaaGreat.Cur
open Go.RowKit Mem
set_option linter.unusedVariables false
set_option maxRecDepth 100000
def NoGr (z : List Int) : Prop := ∀ i, i + 1 < z.length → ¬ (128 ≤ z.getD i 0 ∧ 3 ≤ z.getD (i + 1) 0)
theorem NoGr.drop {z : List Int} (h : NoGr z) (k : Nat) : NoGr (z.drop k) := fun i hi hg => by
  rw [List.length_drop] at hi
  refine h (k + i) (by omega) ?_
  rw [List.getD_eq_getElem?_getD, List.getD_eq_getElem?_getD, List.getElem?_drop, List.getElem?_drop] at hg
  rw [List.getD_eq_getElem?_getD, List.getD_eq_getElem?_getD]
  exact hg
theorem nogr_vgo {l : List Int} (h : NoGr l) (hby : ∀ x ∈ l, 0 ≤ x ∧ x < 256) : (vgo l 0 0).1 ≤ 383 := by
  rcases l with _ | ⟨b, l⟩
  · rw [vgo_nil]; show (0 : Int) ≤ 383; decide
  · have hb := hby b (by simp)
    by_cases h1 : b < 128
    · rw [vgo_done (by omega) (by omega) h1]
      show (0 : Int) + b * 128 ^ 0 ≤ 383
      omega
    · rw [vgo_more (by omega) (by omega)]
      rcases l with _ | ⟨c, l⟩
      · rw [vgo_nil]; show (0 : Int) ≤ 383; decide
      · have hc := hby c (by simp)
        have hn := h 0 (by simp)
        have hc3 : c < 3 := by
          refine Int.not_le.1 fun h3 => hn ⟨?_, ?_⟩
          · show 128 ≤ b; omega
          · show 3 ≤ c; exact h3
        by_cases h0 : c = 0
        · rw [vgo_zero (by omega) h0]; show (0 : Int) ≤ 383; decide
        · rw [vgo_done (by omega) (by omega) (by omega)]
          show (0 : Int) + b % 128 * 128 ^ 0 + c * 128 ^ (0 + 1) ≤ 383
          omega
theorem nogr_vm {z : List Int} (h : NoGr z) (hby : ∀ x ∈ z, 0 ≤ x ∧ x < 256) (mo p : Int) : (vm z mo p).1 ≤ 383 := by
  have h1 : (vg z p).1 ≤ 383 := nogr_vgo (h.drop p.toNat) fun x hx => hby x (List.mem_of_mem_drop hx)
  unfold vm
  split
  · show (0 : Int) ≤ 383; decide
  · split
    · show (0 : Int) ≤ 383; decide
    · exact h1
theorem nogr_few {z : List Int} (h : NoGr z) (hby : ∀ x ∈ z, 0 ≤ x ∧ x < 256) (mo p : Int) : Few z mo p := by
  have := nogr_vm h hby mo p
  unfold Few
  omega
theorem bk_len {z : List Int} (hby : ∀ x ∈ z, 0 ≤ x ∧ x < 256) {most p : Int} {M : Int} (hm : 0 ≤ M) (h : (vm z (min most 1048576) p).1 ≤ M) : ((bk z most p).1.length : Int) ≤ M := by
  have hv : 0 ≤ (vm z (min most 1048576) p).1 := by
    unfold vm
    split
    · exact Int.le_refl _
    · split
      · exact Int.le_refl _
      · exact vg_bd z p hby
  unfold bk
  refine Rs.bind_val (P := fun l : List Int => (l.length : Int) ≤ M) hm fun _ => ?_
  refine Rs.bind_val (P := fun l : List Int => (l.length : Int) ≤ M) hm fun _ => ?_
  split
  · exact hm
  · unfold bc
    split
    · exact Int.le_trans (tk_lenx hv) h
    · refine Rs.bind_val (P := fun l : List Int => (l.length : Int) ≤ M) hm fun _ => ?_
      split
      · exact hm
      · split
        · exact hm
        · have hb := bl_byte hby 1048576 ((tk z 1 (vm z (min most 1048576) p).2.1).2.1)
          have := (exv_fine (z := (bl z 1048576 (tk z 1 (vm z (min most 1048576) p).2.1).2.1).1) (bound := (vm z (min most 1048576) p).1) hb.1).1
          show ((exv _ _).1.length : Int) ≤ M
          omega
theorem bks_len {z : List Int} (hby : ∀ x ∈ z, 0 ≤ x ∧ x < 256) {most p : Int} {M : Int} (hm : 0 ≤ M) (h : (vm z (min most 1048576) p).1 ≤ M) : ((bks z most p).1.length : Int) ≤ M := by
  unfold bks
  refine Rs.bind_val (P := fun l : List Int => (l.length : Int) ≤ M) hm fun _ => ?_
  split
  · exact bk_len hby hm h
  · exact hm
theorem nogr_KL {z : List Int} (h : NoGr z) (hby : ∀ x ∈ z, 0 ≤ x ∧ x < 256) (p : Int) : (KL z p).1.length ≤ 500 := by
  have : ((KL z p).1.length : Int) ≤ 383 := bk_len hby (by omega) (nogr_vm h hby _ p)
  omega
theorem nogr_KS {z : List Int} (h : NoGr z) (hby : ∀ x ∈ z, 0 ≤ x ∧ x < 256) (p : Int) : (KS z p).1.length ≤ 500 := by
  have : ((KS z p).1.length : Int) ≤ 383 := bks_len hby (by omega) (nogr_vm h hby _ p)
  omega
end Go.Proofs.YtlealkfkddhnnaaGreat.Cur
