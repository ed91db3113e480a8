/- Peek: what is cut out of a chained batch is chained (plain). -/
import Derived.Test.YtgdcbfekekefiaaPekR
import Derived.Test.YtgdcbfekekefiaaPekC
namespace Go.Proofs.Ytgdcbfekekefiaa.Cur
open Go.RowKit Mem
set_option linter.unusedVariables false
set_option maxRecDepth 100000

theorem cgo_iff {T : TL} {x : Lk} : cgo T x = true ↔ T x.1 = none ∨ T x.1 = some x.2 := by
  unfold cgo
  rcases T x.1 with _ | z
  · simp
  · simp only [decide_eq_true_eq, reduceCtorEq, Option.some.injEq, false_or]
    exact eq_comm
theorem chnb_chn {e b : Int} {L : List En} (h : btk (e, b, L) = true) : chnb e b L = true ↔ chn exb b (lksOf L) tl0 := by
  rw [chnb_iff h, chn_iff]
  have hl : (lksOf L).length = L.length := by unfold lksOf; simp
  constructor
  · intro h2 i hi x hx
    rw [lksOf_at] at hx
    obtain ⟨j, hj, rfl⟩ := List.mem_iff_getElem.1 hx
    have := h2 i (by omega) j hj
    rw [List.getD_eq_getElem?_getD, List.getElem?_eq_getElem hj] at this
    exact cgo_iff.1 this
  · intro h2 i hi j hj
    refine cgo_iff.2 (h2 i (by omega) _ ?_)
    rw [lksOf_at, List.getD_eq_getElem?_getD (l := (L.getD i en0).1), List.getElem?_eq_getElem hj]
    exact List.getElem_mem _
theorem jn_part (L : List En) (l k : Nat) : (jn ((L.drop l).take k)).length ≤ (jn L).length := by
  have e : L = L.take l ++ ((L.drop l).take k ++ (L.drop l).drop k) := by rw [List.take_append_drop, List.take_append_drop]
  have h : ∀ A B : List En, (jn (A ++ B)).length = (jn A).length + (jn B).length := fun A B => by unfold jn; simp
  have h2 := congrArg (fun z => (jn z).length) e
  rw [h, h] at h2
  omega
theorem part_at (L : List En) (l k i : Nat) (hi : i < k) : ((L.drop l).take k).getD i en0 = L.getD (l + i) en0 := by
  rw [List.getD_eq_getElem?_getD, List.getD_eq_getElem?_getD, List.getElem?_take, if_pos hi, List.getElem?_drop]
theorem btk_part {e b : Int} {L : List En} {l k : Nat} (h : btk (e, b, L) = true) (b0 : 0 ≤ b) (hk : 1 ≤ k) (hlk : l + k ≤ L.length) : btk (e, b + l, (L.drop l).take k) = true := by
  have hlen : ((L.drop l).take k).length = k := by rw [List.length_take, List.length_drop]; omega
  unfold btk at h ⊢
  simp only [Bool.and_eq_true] at h ⊢
  obtain ⟨⟨⟨⟨h1, h2⟩, h3⟩, h4⟩, h5⟩ := h
  have h6 := of_decide_eq_true h3
  have h7 := of_decide_eq_true h4
  refine ⟨⟨⟨⟨h1, ?_⟩, ?_⟩, ?_⟩, ?_⟩
  · exact decide_eq_true (by omega)
  · rw [hlen]
    exact decide_eq_true (by omega)
  · have := jn_part L l k
    exact decide_eq_true (by omega)
  · refine enall_of fun i hi => ?_
    rw [hlen] at hi
    rw [part_at L l k i hi]
    have := enall_at h5 (l + i) (by omega)
    rw [show b + ((l + i : Nat) : Int) = b + l + i by omega] at this
    exact this
theorem chnb_part {e b : Int} {L : List En} {l k : Nat} (h : chnb e b L = true) (b0 : 0 ≤ b) (hk : 1 ≤ k) (hlk : l + k ≤ L.length) : chnb e (b + l) ((L.drop l).take k) = true := by
  have hb : btk (e, b, L) = true := by
    unfold chnb at h
    exact (Bool.and_eq_true _ _ ▸ h).1
  have h2 := (chnb_chn hb).1 h
  refine (chnb_chn (btk_part hb b0 hk hlk)).2 ?_
  have h3 := chn_cut l k h2
  have e1 : lksOf ((L.drop l).take k) = ((lksOf L).drop l).take k := by unfold lksOf; rw [List.map_take, List.map_drop]
  rw [e1]
  exact h3
end Go.Proofs.Ytgdcbfekekefiaa.Cur
