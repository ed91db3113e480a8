/- As the seat's text, without what nothing here names. -/
import Derived.Test.YtlealkfkddhnnaaGreatBtcAx
import Derived.Test.YtlealkfkddhnnaaGreatK39x
import Derived.Test.YtlealkfkddhnnaaGreatK38x
namespace Go.Proofs.YtlealkfkddhnnaaGreat.Cur
open Go.RowKit Mem
set_option linter.unusedVariables false
set_option maxRecDepth 100000
def CpB (w : World) (B g n k : Nat) (L : List En) (cur : Array Value) (lo hi : Nat → Nat) : Prop :=
  Blk w g cur 62 ∧ n * 2 ≤ cur.size ∧ B ≤ g ∧ (∀ i, i < k → (∃ a l m b r j, cur[i * 2]? = some (.slice a l m) ∧ cur[i * 2 + 1]? = some (.slice b r j) ∧ CpIn w (lo i) (hi i) a l m b r j (L.getD i en0).1 (L.getD i en0).2) ∧ g < lo i ∧ hi i ≤ w.heap.size) ∧ ∀ i j, i < j → j < k → hi i ≤ lo j
theorem CpB.below {w w' : World} {B g n k : Nat} {L : List En} {cur : Array Value} {lo hi : Nat → Nat} (h : CpB w B g n k L cur lo hi) (hb : Below w.heap.size w w') : CpB w' B g n k L cur lo hi := by
  obtain ⟨h1, h2, h3, h4, h5⟩ := h
  refine ⟨h1.below hb, h2, h3, fun i hi => ?_, h5⟩
  obtain ⟨⟨a, l, m, b, r, j, q1, q2, q3⟩, q4, q5⟩ := h4 i hi
  exact ⟨⟨a, l, m, b, r, j, q1, q2, q3.below hb⟩, q4, Nat.le_trans q5 hb.size⟩
theorem CpB.next {w : World} {B g n k : Nat} {L : List En} {cur : Array Value} {lo hi : Nat → Nat} {a b : Option Addr} {l m r j x y : Nat} (h : CpB w B g n k L cur lo hi) (hk : k < n) (hv : CpIn w x y a l m b r j (L.getD k en0).1 (L.getD k en0).2) (hg : g < x) (hy : y ≤ w.heap.size) (hx : ∀ i, i < k → hi i ≤ x) :
    CpB ((w.setCell ⟨g, k * 2, none⟩ (.slice a l m)).setCell ⟨g, k * 2 + 1, none⟩ (.slice b r j)) B g n (k + 1) L ((cur.set! (k * 2) (.slice a l m)).set! (k * 2 + 1) (.slice b r j)) (fun i => if i = k then x else lo i) (fun i => if i = k then y else hi i) := by
  obtain ⟨h1, h2, h3, h4, h5⟩ := h
  have hkp : ∀ b', b' ≠ g → ((w.setCell ⟨g, k * 2, none⟩ (.slice a l m)).setCell ⟨g, k * 2 + 1, none⟩ (.slice b r j)).heap[b']? = w.heap[b']? := fun b' hb' => by
    rw [Below.heap_setCell _ _ _ _ hb', Below.heap_setCell _ _ _ _ hb']
  have hsz : ((w.setCell ⟨g, k * 2, none⟩ (.slice a l m)).setCell ⟨g, k * 2 + 1, none⟩ (.slice b r j)).heap.size = w.heap.size := by simp
  have hg3 := get2 cur (k * 2) (.slice a l m) (.slice b r j) (by omega)
  refine ⟨(h1.set (k * 2) _).set (k * 2 + 1) _, by simpa using h2, h3, fun i hi => ?_, fun i i' hii hi' => ?_⟩
  · dsimp only
    rcases Nat.lt_or_ge i k with h6 | h6
    · obtain ⟨⟨a', l', m', b', r', j', q1, q2, q3⟩, q4, q5⟩ := h4 i h6
      rw [if_neg (by omega), if_neg (by omega), hsz]
      refine ⟨⟨a', l', m', b', r', j', ?_, ?_, q3.keep fun c hc1 hc2 _ => hkp c (by omega)⟩, q4, q5⟩
      · rw [hg3, if_neg (by omega), if_neg (by omega)]; exact q1
      · rw [hg3, if_neg (by omega), if_neg (by omega)]; exact q2
    · obtain rfl : i = k := by omega
      rw [if_pos rfl, if_pos rfl, hsz]
      refine ⟨⟨a, l, m, b, r, j, ?_, ?_, hv.keep fun c hc1 hc2 _ => hkp c (by omega)⟩, hg, hy⟩
      · rw [hg3, if_neg (by omega), if_pos rfl]
      · rw [hg3, if_pos rfl]
  · dsimp only
    rw [if_neg (by omega)]
    by_cases he : i' = k
    · rw [if_pos he]; exact hx i (by omega)
    · rw [if_neg he]; exact h5 i i' hii (by omega)
theorem CpIn.ene {w : World} {lo hi : Nat} {A : Option Addr} {n m : Nat} {B : Option Addr} {r k : Nat} {L : List Lk} {D : List Int} (h : CpIn w lo hi A n m B r k L D) (hD : ∀ x ∈ D, 0 ≤ x ∧ x < 256) : EnE.R w (fun b => lo ≤ b ∧ b < hi) [.slice A n m, .slice B r k] (L, D) := by
  obtain ⟨h1, h2, h3, h4, h5, h6, h7, h8, h9⟩ := h
  exact EnE.mk h1 h2 h8 h3.1 h4 h9 (Bs.sq h3 hD h5)
theorem CpB.ens {w : World} {B g n : Nat} {L : List En} {cur : Array Value} {lo hi : Nat → Nat} (h : CpB w B g n n L cur lo hi) (hl : L.length = n) (hD : ∀ x ∈ L, ∀ y ∈ x.2, 0 ≤ y ∧ y < 256) : Ens w (fun b => B ≤ b) (some ⟨g, 0, none⟩) n L := by
  obtain ⟨h1, h2, h3, h4, h5⟩ := h
  refine ens_of_cells hl h3 fun i hi => ?_
  obtain ⟨⟨a, l, m, b, r, j, q1, q2, q3⟩, q4, q5⟩ := h4 i hi
  refine ⟨_, _, ⟨h1.cell _ q1, h1.cell _ q2⟩, ?_⟩
  have hm : L.getD i en0 ∈ L := by
    rw [List.getD_eq_getElem?_getD, List.getElem?_eq_getElem (by omega)]
    exact List.getElem_mem _
  have := q3.ene (hD _ hm)
  exact EnE.mono this fun b hb _ => by omega
end Go.Proofs.YtlealkfkddhnnaaGreat.Cur
