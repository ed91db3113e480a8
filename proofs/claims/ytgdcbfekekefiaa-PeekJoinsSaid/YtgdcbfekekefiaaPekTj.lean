/- As the seat's text, without what nothing here names. -/
import Derived.Test.YtgdcbfekekefiaaPekRj
import Derived.Test.YtgdcbfekekefiaaPekCj
namespace Go.Proofs.Ytgdcbfekekefiaa.Cur
open Go.RowKit Mem
set_option linter.unusedVariables false
set_option maxRecDepth 100000
theorem jn_part (L : List En) (l k : Nat) : (jn ((L.drop l).take k)).length ≤ (jn L).length := by
  have e : L = L.take l ++ ((L.drop l).take k ++ (L.drop l).drop k) := by rw [List.take_append_drop, List.take_append_drop]
  have h : ∀ A B : List En, (jn (A ++ B)).length = (jn A).length + (jn B).length := fun A B => by unfold jn; simp
  have h2 := congrArg (fun z => (jn z).length) e
  rw [h, h] at h2
  omega
theorem part_at (L : List En) (l k i : Nat) (hi : i < k) : ((L.drop l).take k).getD i en0 = L.getD (l + i) en0 := by
  rw [List.getD_eq_getElem?_getD, List.getD_eq_getElem?_getD, List.getElem?_take, if_pos hi, List.getElem?_drop]
theorem btk_part {e b : Int} {L : List En} {l k : Nat} (h : btk (e, b, L) = true) (b0 : 0 ≤ b) (hk : 1 ≤ k) (hlk : l + k ≤ L.length) : btk (e, b + l, (L.drop l).take k) = true := by
  have hlen : ((L.drop l).take k).length = k := by rw [List.length_take, List.length_drop]; omega
  unfold btk at h ⊢
  simp only [Bool.and_eq_true] at h ⊢
  obtain ⟨⟨⟨⟨h1, h2⟩, h3⟩, h4⟩, h5⟩ := h
  have h6 := of_decide_eq_true h3
  have h7 := of_decide_eq_true h4
  refine ⟨⟨⟨⟨h1, ?_⟩, ?_⟩, ?_⟩, ?_⟩
  · exact decide_eq_true (by omega)
  · rw [hlen]
    exact decide_eq_true (by omega)
  · have := jn_part L l k
    exact decide_eq_true (by omega)
  · refine enall_of fun i hi => ?_
    rw [hlen] at hi
    rw [part_at L l k i hi]
    have := enall_at h5 (l + i) (by omega)
    rw [show b + ((l + i : Nat) : Int) = b + l + i by omega] at this
    exact this
end Go.Proofs.Ytgdcbfekekefiaa.Cur
