/- Stripes each set of which lies in a block of its own: one set changed. -/
import Derived.Test.YtghlediibhnloaaSwpC
import Derived.Test.YtghlediibhnloaaSwpM
import Derived.Test.YtghlediibhnloaaStpI
namespace Go.Proofs.Ytghlediibhnloaa.Cur
open Go.RowKit Mem
set_option linter.unusedVariables false
set_option maxRecDepth 100000

theorem hli_cases : ∀ (S : List (List Int)) (x : Int), (hli S x = -1 ∧ ∀ l ∈ S, l.contains x = false) ∨ ∃ k : Nat, k < S.length ∧ hli S x = k ∧ (S.getD k []).contains x = true
  | [], x => .inl ⟨rfl, fun l h => by simp at h⟩
  | l :: S, x => by
    by_cases h : l.contains x = true
    · right
      exact ⟨0, by simp, by unfold hli; rw [if_pos h]; rfl, h⟩
    · have hf : l.contains x = false := by simpa using h
      rcases hli_cases S x with ⟨h1, h2⟩ | ⟨k, h1, h2, h3⟩
      · left
        refine ⟨by unfold hli; rw [if_neg h, h1]; rfl, fun r hr => ?_⟩
        rcases List.mem_cons.1 hr with rfl | hr
        · exact hf
        · exact h2 r hr
      · right
        refine ⟨k + 1, by simp; omega, by unfold hli; rw [if_neg h, h2, if_neg (by omega)]; omega, by simpa using h3⟩
/-- No node stands in two sets. -/
theorem sok_apart : ∀ {S A : List (List Int)}, sok A S = true → ∀ {x : Int} {k : Nat}, k < S.length → (S.getD k []).contains x = true → (∀ l ∈ A, l.contains x = false) ∧ ∀ j, j < S.length → j ≠ k → (S.getD j []).contains x = false
  | [], _, _, _, _, hk, _ => absurd hk (by simp)
  | l :: S, A, h, x, k, hk, hc => by
    unfold sok at h
    rw [Bool.and_eq_true] at h
    obtain ⟨h1, h2⟩ := h
    have htw : ∀ s ∈ A, ∀ y ∈ l, s.contains y = false := by
      unfold seok at h1
      simp only [Bool.and_eq_true, Bool.not_eq_true'] at h1
      have h3 := h1.2
      unfold tw at h3
      rw [List.any_eq_false] at h3
      intro s hs y hy
      have h4 := h3 s hs
      simp only [List.any_eq_true, not_exists, not_and] at h4
      simpa using h4 y hy
    rcases k with _ | k
    · have hx : x ∈ l := by
        have : l.contains x = true := by simpa using hc
        rwa [List.contains_eq_mem, decide_eq_true_eq] at this
      refine ⟨fun s hs => htw s hs x hx, fun j hj hjk => ?_⟩
      rcases j with _ | j
      · exact absurd rfl hjk
      · have hj' : j < S.length := by simpa using hj
        by_cases hc2 : (S.getD j []).contains x = true
        · have := (sok_apart h2 hj' hc2).1 l (by simp)
          rw [List.contains_eq_mem, decide_eq_false_iff_not] at this
          exact absurd hx this
        · simpa using hc2
    · have hk' : k < S.length := by simpa using hk
      have hc' : (S.getD k []).contains x = true := by simpa using hc
      obtain ⟨i1, i2⟩ := sok_apart h2 hk' hc'
      refine ⟨fun s hs => i1 s (by simp [hs]), fun j hj hjk => ?_⟩
      rcases j with _ | j
      · have := i1 l (by simp)
        simpa using this
      · have := i2 j (by simpa using hj) (by omega)
        simpa using this
/-- In a valid stripe one set alone is changed. -/
theorem sws_set {o d : Int} {S : List (List Int)} (h : sok [] S = true) {k : Nat} (hk : k < S.length) (hc : (S.getD k []).contains o = true) : sws o d S = S.set k (putl o d (S.getD k [])) := by
  have hap := (sok_apart h hk hc).2
  unfold sws
  apply List.ext_getElem (by simp)
  intro j h1 h2
  have hj : j < S.length := by simpa using h1
  have e : S.getD j [] = S[j] := by rw [List.getD_eq_getElem?_getD, List.getElem?_eq_getElem hj]; rfl
  rw [List.getElem_map, List.getElem_set]
  by_cases hjk : k = j
  · subst hjk
    rw [if_pos rfl, e]
    rw [e] at hc
    rw [if_pos hc]
  · rw [if_neg hjk]
    have := hap j hj (fun e => hjk e.symm)
    rw [e] at this
    rw [if_neg (by rw [this]; decide)]
theorem sws_none {o d : Int} {S : List (List Int)} (h : ∀ l ∈ S, l.contains o = false) : sws o d S = S := by
  unfold sws
  conv => rhs; rw [← List.map_id S]
  exact List.map_congr_left fun l hl => by rw [if_neg (by rw [h l hl]; decide)]; rfl
theorem getD_set_self {α : Type} {l : List α} {i : Nat} {x d : α} (hi : i < l.length) : (l.set i x).getD i d = x := by
  rw [List.getD_eq_getElem?_getD, List.getElem?_set_self (by simpa using hi)]; rfl
theorem getD_set_ne {α : Type} {l : List α} {i j : Nat} {x d : α} (h : j ≠ i) : (l.set i x).getD j d = l.getD j d := by
  rw [List.getD_eq_getElem?_getD, List.getElem?_set_ne (fun e => h e.symm), List.getD_eq_getElem?_getD]
/-- The cell of a set. -/
theorem StpD.cells {w : World} {W : Nat} {v : Value} {L : List Stp} {a : Nat → Nat} {b : Nat → Nat → Nat} (h : StpD w W v L a b) {i : Nat} (hi : i < L.length) : ∃ g cap c, v = .slice (some ⟨g, 0, none⟩) L.length cap ∧ W ≤ g ∧ g < w.heap.size ∧ w.cell? ⟨g, i * 3, none⟩ = some (.int .u64 (L.getD i stp0).1) ∧ w.cell? ⟨g, i * 3 + 1, none⟩ = some (.int .u64 (L.getD i stp0).2.1) ∧
    w.cell? ⟨g, i * 3 + 2, none⟩ = some (.slice (some ⟨a i, 0, none⟩) (L.getD i stp0).2.2.length c) ∧ (L.getD i stp0).2.2.length ≤ c ∧ Sts w (fun x => x = a i ∨ ∃ k, k < (L.getD i stp0).2.2.length ∧ x = b i k) (some ⟨a i, 0, none⟩) (L.getD i stp0).2.2.length (L.getD i stp0).2.2 ∧
    (∀ j, w.frozen? ⟨a i, j, none⟩ = false) ∧ ∀ k, k < (L.getD i stp0).2.2.length → ∃ u, w.cell? ⟨a i, k, none⟩ = some u ∧ SetD w W u ((L.getD i stp0).2.2.getD k []) (b i k) := by
  obtain ⟨g, cap, rfl, _, hg, hgl, _⟩ := h.form (by omega)
  obtain ⟨cs, h1, h2⟩ := h
  obtain ⟨u, c0, c1, c2, f0, t0, hu, hA⟩ := h2 i hi
  obtain ⟨c, rfl, hc, hst⟩ := hA.sts hu
  obtain ⟨cs2, h3, h4⟩ := hA
  refine ⟨g, cap, c, rfl, hg, hgl, (World.ownsRow.cellAt h1 _ (by omega)).trans c0, (World.ownsRow.cellAt h1 _ (by omega)).trans c1, (World.ownsRow.cellAt h1 _ (by omega)).trans c2, hc, hst, fun j => World.ownsRow.frozenAt h3 j, fun k hk => ?_⟩
  obtain ⟨u, h5, h6⟩ := h4 k hk
  exact ⟨u, (World.ownsRow.cellAt h3 _ (by omega)).trans h5, h6⟩
/-- One set is changed in its block. -/
theorem StpD.num {w w' : World} {W : Nat} {v u2 : Value} {L : List Stp} {a : Nat → Nat} {b : Nat → Nat → Nat} {i k : Nat} {z' : List Int} (h : StpD w W v L a b) (hA : Apt L.length (slen L) a b) (hi : i < L.length) (hk : k < slen L i) (hc : w.cell? ⟨a i, k, none⟩ = some u2)
    (hks : Ks (fun x => x = b i k) w w') (hd : SetD w' W u2 z' (b i k)) : StpD w' W v (L.set i ((L.getD i stp0).1, (L.getD i stp0).2.1, (L.getD i stp0).2.2.set k z')) a b := by
  have hlts := fun j hj => h.lts (i := j) hj
  obtain ⟨g, cap, rfl, _, hg, hgl, cg, hgb⟩ := h.form (by omega)
  obtain ⟨_, _, cb, hbb⟩ := (hlts i hi).2 k hk
  obtain ⟨cs, h1, h2⟩ := h
  refine ⟨cs, ?_, fun j hj => ?_⟩
  · rw [List.length_set]
    exact own_block h1 fun x hx => by
      injection hx with hx
      have hx2 : g = x := hx
      subst hx2
      exact hks.block _ hgl (blk_ne hgb hbb (by decide))
  · rw [List.length_set] at hj
    by_cases hji : j = i
    · subst hji
      rw [getD_set_self hi]
      obtain ⟨u, c0, c1, c2, f0, t0, hu, hAr⟩ := h2 j hi
      obtain ⟨_, _, ca, hab⟩ := (hlts j hi).1
      obtain ⟨c, rfl, _, _⟩ := hAr.sts hu
      obtain ⟨cs2, h3, h4⟩ := hAr
      refine ⟨_, c0, c1, c2, f0, t0, hu, cs2, ?_, fun l hl => ?_⟩
      · rw [List.length_set]
        exact own_block h3 fun x hx => by
          rw [hu] at hx
          injection hx with hx
          subst hx
          exact hks.block _ hab.lt (blk_ne hab hbb (by decide))
      · rw [List.length_set] at hl
        by_cases hlk : l = k
        · subst hlk
          rw [getD_set_self hk]
          exact ⟨u2, (World.ownsRow.cellAt h3 _ (by omega)).symm.trans hc, hd⟩
        · rw [getD_set_ne hlk]
          obtain ⟨u3, h5, h6⟩ := h4 l hl
          exact ⟨u3, h5, h6.keep (hks.block _ h6.blk.2.2.1 fun e => hlk (hA.2 j l j k hi hi hl hk e).2)⟩
    · rw [getD_set_ne hji]
      obtain ⟨u, c0, c1, c2, f0, t0, hu, hAr⟩ := h2 j hj
      obtain ⟨_, _, ca, hab⟩ := (hlts j hj).1
      refine ⟨u, c0, c1, c2, f0, t0, hu, hAr.keep hu (hks.block _ hab.lt (blk_ne hab hbb (by decide))) fun l hl => ?_⟩
      obtain ⟨_, hl2, _⟩ := (hlts j hj).2 l hl
      exact hks.block _ hl2 fun e => hji (hA.2 j l i k hj hi hl hk e).1
/-- One set is put in the place of another one. -/
theorem StpD.cell {w : World} {W b' : Nat} {v u2 : Value} {L : List Stp} {a : Nat → Nat} {b : Nat → Nat → Nat} {i k : Nat} {z' : List Int} (h : StpD w W v L a b) (hA : Apt L.length (slen L) a b) (hi : i < L.length) (hk : k < slen L i) (hd : SetD w W u2 z' b') :
    StpD (w.setCell ⟨a i, k, none⟩ u2) W v (L.set i ((L.getD i stp0).1, (L.getD i stp0).2.1, (L.getD i stp0).2.2.set k z')) a (fun j => if j = i then (fun l => if l = k then b' else b i l) else b j) := by
  have hlts := fun j hj => h.lts (i := j) hj
  obtain ⟨g, cap, rfl, _, hg, hgl, cg, hgb⟩ := h.form (by omega)
  obtain ⟨_, _, ca, hab⟩ := (hlts i hi).1
  have hkp : ∀ {x : Nat}, x ≠ a i → (w.setCell ⟨a i, k, none⟩ u2).heap[x]? = w.heap[x]? := fun hx => Below.heap_setCell _ _ _ _ (fun e => hx e)
  obtain ⟨cs, h1, h2⟩ := h
  refine ⟨cs, ?_, fun j hj => ?_⟩
  · rw [List.length_set]
    exact own_block h1 fun x hx => by
      injection hx with hx
      have hx2 : g = x := hx
      subst hx2
      exact hkp (blk_ne hgb hab (by decide))
  · rw [List.length_set] at hj
    by_cases hji : j = i
    · subst hji
      rw [getD_set_self hi]
      simp only [if_true]
      obtain ⟨u, c0, c1, c2, f0, t0, hu, hAr⟩ := h2 j hi
      obtain ⟨c, rfl, _, _⟩ := hAr.sts hu
      obtain ⟨cs2, h3, h4⟩ := hAr
      have hs := (World.ownsRow.stored h3 k u2).1
      refine ⟨_, c0, c1, c2, f0, t0, hu, cs2.set k u2, by rw [List.length_set]; exact hs, fun l hl => ?_⟩
      rw [List.length_set] at hl
      have hl2 : cs2.length = (L.getD j stp0).2.2.length * 1 := h3.1
      by_cases hlk : l = k
      · subst hlk
        rw [getD_set_self hk]
        simp only [if_true]
        obtain ⟨cb, hcb⟩ := hd.blk.1
        exact ⟨u2, by rw [List.getElem?_set_self (by omega)], hd.keep (hkp (blk_ne hcb hab (by decide)))⟩
      · rw [getD_set_ne hlk]
        simp only [hlk, if_false]
        obtain ⟨u3, h5, h6⟩ := h4 l hl
        obtain ⟨cb, hcb⟩ := h6.blk.1
        exact ⟨u3, by rw [List.getElem?_set_ne (fun e => hlk e.symm)]; exact h5, h6.keep (hkp (blk_ne hcb hab (by decide)))⟩
    · rw [getD_set_ne hji]
      simp only [hji, if_false]
      obtain ⟨u, c0, c1, c2, f0, t0, hu, hAr⟩ := h2 j hj
      refine ⟨u, c0, c1, c2, f0, t0, hu, hAr.keep hu (hkp fun e => hji (hA.1 j i hj hi e)) fun l hl => ?_⟩
      obtain ⟨_, _, cb, hcb⟩ := (hlts j hj).2 l hl
      exact hkp (blk_ne hcb hab (by decide))
theorem StpD.far {w : World} {W Q o : Nat} {v x : Value} {L : List Stp} {a : Nat → Nat} {b : Nat → Nat → Nat} {u : Array Value} (h : StpD w W v L a b) (hL : 0 < L.length) (hQ : Blk w Q u 25) : StpD (w.setCell ⟨Q, o, none⟩ x) W v L a b := by
  have hkp : ∀ {y : Nat}, y ≠ Q → (w.setCell ⟨Q, o, none⟩ x).heap[y]? = w.heap[y]? := fun hx => Below.heap_setCell _ _ _ _ (fun e => hx e)
  refine h.keep (fun g hg => ?_) (fun i hi => ?_) fun i k hi hk => ?_
  · obtain ⟨g', cap, rfl, _, _, _, cg, hgb⟩ := h.form hL
    injection hg with hg
    have hg2 : g' = g := hg
    subst hg2
    exact hkp (blk_ne hgb hQ (by decide))
  · obtain ⟨_, _, ca, hab⟩ := (h.lts hi).1
    exact hkp (blk_ne hab hQ (by decide))
  · obtain ⟨_, _, cb, hbb⟩ := (h.lts hi).2 k hk
    exact hkp (blk_ne hbb hQ (by decide))
end Go.Proofs.Ytghlediibhnloaa.Cur
