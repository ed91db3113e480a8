/- As the seat's text, without what nothing here names. -/
import Derived.Test.YtlealkfkddhnnaaGreatBtcFv
namespace Go.Proofs.YtlealkfkddhnnaaGreat.Cur
open Go.RowKit Mem
set_option linter.unusedVariables false
set_option maxRecDepth 100000
theorem Hs2.blk {w : World} {B : Nat} {vH vS : Value} {L : List En} {S : List Int} (h : Hs2 w B vH vS L S) (hn : 0 < L.length) : ∃ g cap cur, vH = .slice (some ⟨g, 0, none⟩) L.length cap ∧ B ≤ g ∧ g < w.heap.size ∧ vS.ownBlock ≠ some g ∧ cur.size = cap * 2 ∧ CpE w B g L.length L.length (fun i => L.getD i en0) cur := by
  obtain ⟨⟨cs, hch, how, hdis⟩, hN, hne⟩ := h
  have hfl := hch.flat
  rcases how.2 with ⟨e, h9⟩ | ⟨g, cap, cur, e, hB, hh, hcap, hmx, hsz, htk⟩
  · exact absurd h9 (by omega)
  · have hlt : g < w.heap.size := Blk.lt hh
    refine ⟨g, cap, cur, e, hB, hlt, hne g (by rw [e]; rfl), hsz, hh, by rw [hsz]; exact Nat.mul_le_mul_right 2 hcap, fun i hi => ?_⟩
    have hx : L[i]? = some (L.getD i en0) := by rw [List.getD_eq_getElem?_getD, List.getElem?_eq_getElem hi]; rfl
    obtain ⟨c, hR, hc⟩ := hch.at_ i _ hx
    obtain ⟨_, _, _, k, o, ek, hcell⟩ : _ ∧ _ ∧ _ ∧ ∃ k o, some (⟨g, 0, none⟩ : Addr) = some ⟨k, o, none⟩ ∧ ∀ i v, cs.flatten[i]? = some v → w.cell? ⟨k, o + i, none⟩ = some v := by
      obtain ⟨q1, q2, q3, q4⟩ := own_rw how e
      exact ⟨q1, q2, q3, q4 (by have h2 : EnE.k = 2 := rfl; rw [hfl, h2]; omega)⟩
    injection ek with ek
    injection ek with e1 e2
    subst e1 e2
    obtain ⟨a, m, b, j, rfl, _⟩ := ent_parts hR
    have k0 := hcell _ _ (hc 0 _ rfl)
    have k1 := hcell _ _ (hc 1 _ rfl)
    have h2 : EnE.k = 2 := rfl
    rw [h2, Nat.zero_add] at k0 k1
    have hs2 : i * 2 + 1 < cur.size := by rw [hsz]; have h3 : cap * EnE.k = cap * 2 := rfl; omega
    have c0 := Blk.cell (w := w) hh (i * 2) (v := cur[i * 2]'(by omega)) (Array.getElem?_eq_getElem (by omega))
    have c1 := Blk.cell (w := w) hh (i * 2 + 1) (v := cur[i * 2 + 1]'hs2) (Array.getElem?_eq_getElem hs2)
    refine ⟨_, _, ⟨?_, ?_⟩, EnE.mono hR fun b hb _ => ⟨hb.1, fun e9 => hb.2.1 (by rw [e, e9]; rfl)⟩⟩
    · rw [Array.getElem?_eq_getElem (by omega)]
      rw [Nat.add_zero] at k0
      rw [c0] at k0
      exact k0
    · rw [Array.getElem?_eq_getElem hs2]
      rw [c1] at k1
      exact k1
theorem CpE.setD {w : World} {B g n : Nat} {f : Nat → En} {cur : Array Value} (h : CpE w B g n n f cur) {k : Nat} (hk : k < n) {A : Option Addr} {r m : Nat} {D : List Int} (hD : D.length = r) (hm : r ≤ m) (hA : A = none → m = 0) (hq : Sq U8E w (fun b => B ≤ b ∧ b ≠ g) A D) :
    CpE (w.setCell ⟨g, k * 2 + 1, none⟩ (.slice A r m)) B g n n (fun i => if i = k then ((f k).1, D) else f i) (cur.set! (k * 2 + 1) (.slice A r m)) := by
  obtain ⟨h1, h2, h3⟩ := h
  have hkp : ∀ b', b' ≠ g → (w.setCell ⟨g, k * 2 + 1, none⟩ (.slice A r m)).heap[b']? = w.heap[b']? := fun b' hb' => by rw [Below.heap_setCell _ _ _ _ hb']
  have hget : ∀ x, (cur.set! (k * 2 + 1) (.slice A r m))[x]? = if x = k * 2 + 1 then some (.slice A r m) else cur[x]? := fun x => by
    rw [Array.set!_eq_setIfInBounds, Array.getElem?_setIfInBounds]
    by_cases hx : x = k * 2 + 1
    · subst hx; rw [if_pos rfl, if_pos rfl, if_pos (by omega)]
    · rw [if_neg (fun e => hx e.symm), if_neg hx]
  refine ⟨h1.set (k * 2 + 1) _, by simpa using h2, fun i hi => ?_⟩
  obtain ⟨a, b, ⟨q1, q2⟩, hR⟩ := h3 i hi
  dsimp only
  by_cases hik : i = k
  · subst hik
    rw [if_pos rfl]
    obtain ⟨A1, m1, B1, k1, e, p1, p2, p3, p4, p5, p6, p7, p8⟩ := ent_parts hR
    injection e with e1 e2
    subst e1
    refine ⟨_, .slice A r m, ⟨?_, ?_⟩, EnE.keep (EnE.mk p3 p1 p2 hD hm hA hq) fun b hb _ => hkp b hb.2⟩
    · rw [hget, if_neg (by omega)]; exact q1
    · rw [hget, if_pos rfl]
  · rw [if_neg hik]
    refine ⟨a, b, ⟨?_, ?_⟩, EnE.keep hR fun b hb _ => hkp b hb.2⟩
    · rw [hget, if_neg (by omega)]; exact q1
    · rw [hget, if_neg (by omega)]; exact q2
theorem CpE.cast {w : World} {B g n k : Nat} {f f' : Nat → En} {cur : Array Value} (h : CpE w B g n k f cur) (hf : ∀ i, i < k → f i = f' i) : CpE w B g n k f' cur := by
  obtain ⟨h1, h2, h3⟩ := h
  refine ⟨h1, h2, fun i hi => ?_⟩
  rw [← hf i hi]
  exact h3 i hi
theorem CpE.wide {w : World} {B B' g n k : Nat} {f : Nat → En} {cur : Array Value} (h : CpE w B g n k f cur) (hB : B' ≤ B) : CpE w B' g n k f cur := by
  obtain ⟨h1, h2, h3⟩ := h
  refine ⟨h1, h2, fun i hi => ?_⟩
  obtain ⟨a, b, hv, hR⟩ := h3 i hi
  exact ⟨a, b, hv, EnE.mono hR fun b hb _ => ⟨Nat.le_trans hB hb.1, hb.2⟩⟩
theorem CpE.keep {w w' : World} {B g n k : Nat} {f : Nat → En} {cur : Array Value} (h : CpE w B g n k f cur) (hg : B ≤ g) (hk : ∀ b, B ≤ b → b < w.heap.size → w'.heap[b]? = w.heap[b]?) : CpE w' B g n k f cur := by
  obtain ⟨h1, h2, h3⟩ := h
  refine ⟨(hk g hg h1.lt).trans h1, h2, fun i hi => ?_⟩
  obtain ⟨a, b, hv, hR⟩ := h3 i hi
  exact ⟨a, b, hv, EnE.keep hR fun b hb hl => hk b hb.1 hl⟩
end Go.Proofs.YtlealkfkddhnnaaGreat.Cur
