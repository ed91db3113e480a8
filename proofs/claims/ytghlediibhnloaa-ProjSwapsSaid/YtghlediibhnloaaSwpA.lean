/- Stripes each set of which lies in a block of its own. -/
import Derived.Test.YtghlediibhnloaaPrjO
import Derived.Test.YtghlediibhnloaaPrjF
namespace Go.Proofs.Ytghlediibhnloaa.Cur
open Go.RowKit Mem
set_option linter.unusedVariables false
set_option maxRecDepth 100000

/-- A set in a block of its own. -/
def SetD (w : World) (W : Nat) (v : Value) (z : List Int) (b : Nat) : Prop := v.ownBlock = some b ∧ OwnU w W v z ∧ ∀ x ∈ z, 0 ≤ x ∧ x < 18446744073709551616
/-- Sets, in an array of the call's own. -/
def ArrD (w : World) (W : Nat) (v : Value) (S : List (List Int)) (b : Nat → Nat) : Prop := ∃ cs, w.ownsRow W 101 1 v S.length cs ∧ ∀ k, k < S.length → ∃ u, cs[k]? = some u ∧ SetD w W u (S.getD k []) (b k)
/-- Stripes, in an array of the call's own. -/
def StpD (w : World) (W : Nat) (v : Value) (L : List Stp) (a : Nat → Nat) (b : Nat → Nat → Nat) : Prop := ∃ cs, w.ownsRow W 60 3 v L.length cs ∧ ∀ i, i < L.length → ∃ u, cs[i * 3]? = some (.int .u64 (L.getD i stp0).1) ∧ cs[i * 3 + 1]? = some (.int .u64 (L.getD i stp0).2.1) ∧ cs[i * 3 + 2]? = some u ∧
  (0 ≤ (L.getD i stp0).1 ∧ (L.getD i stp0).1 < 18446744073709551616) ∧ (0 ≤ (L.getD i stp0).2.1 ∧ (L.getD i stp0).2.1 < 18446744073709551616) ∧ u.ownBlock = some (a i) ∧ ArrD w W u (L.getD i stp0).2.2 (b i)
/-- No block twice. -/
def Apt (n : Nat) (len : Nat → Nat) (a : Nat → Nat) (b : Nat → Nat → Nat) : Prop :=
  (∀ i j, i < n → j < n → a i = a j → i = j) ∧ ∀ i k j l, i < n → j < n → k < len i → l < len j → b i k = b j l → i = j ∧ k = l

theorem row_blk {w : World} {W : Nat} {e : TypeId} {s : Nat} {v : Value} {n : Nat} {xs : List Value} {g : Nat} (h : w.ownsRow W e s v n xs) (hg : v.ownBlock = some g) : (∃ cur, Blk w g cur e) ∧ W ≤ g ∧ g < w.heap.size ∧ ∃ c, v = .slice (some ⟨g, 0, none⟩) n c ∧ n ≤ c := by
  have hlt := World.ownsRow.lt h g hg
  rcases h.2 with ⟨e, _⟩ | ⟨g', cap, cur, e, hB, hh, hcap, _⟩
  · rw [e] at hg; cases hg
  · rw [e] at hg
    injection hg with hg
    have hg2 : g' = g := hg
    subst hg2
    exact ⟨⟨cur, hh⟩, hlt.1, hlt.2, cap, e, hcap⟩
theorem blk_ne {w : World} {b b' : Nat} {c c' : Array Value} {t t' : Nat} (h : Blk w b c t) (h' : Blk w b' c' t') (ht : t ≠ t') : b ≠ b' := fun e => by
  subst e
  have h2 : some (Obj.cells c t (0, 0)) = some (Obj.cells c' t' (0, 0)) := h.symm.trans h'
  injection h2 with h2
  injection h2 with _ h2 _
  exact ht h2
theorem SetD.keep {w w' : World} {W : Nat} {v : Value} {z : List Int} {b : Nat} (h : SetD w W v z b) (hk : w'.heap[b]? = w.heap[b]?) : SetD w' W v z b :=
  ⟨h.1, own_block h.2.1 fun k hk' => by rw [h.1] at hk'; injection hk' with e; subst e; exact hk, h.2.2⟩
theorem SetD.blk {w : World} {W : Nat} {v : Value} {z : List Int} {b : Nat} (h : SetD w W v z b) : (∃ cur, Blk w b cur 22) ∧ W ≤ b ∧ b < w.heap.size ∧ ∃ c, v = .slice (some ⟨b, 0, none⟩) z.length c ∧ z.length ≤ c := row_blk h.2.1 h.1
theorem ArrD.blk {w : World} {W : Nat} {v : Value} {S : List (List Int)} {b : Nat → Nat} {a : Nat} (h : ArrD w W v S b) (ha : v.ownBlock = some a) : (∃ cur, Blk w a cur 101) ∧ W ≤ a ∧ a < w.heap.size ∧ ∃ c, v = .slice (some ⟨a, 0, none⟩) S.length c ∧ S.length ≤ c := by
  obtain ⟨cs, h1, _⟩ := h
  exact row_blk h1 ha
theorem ArrD.keep {w w' : World} {W : Nat} {v : Value} {S : List (List Int)} {b : Nat → Nat} {a : Nat} (h : ArrD w W v S b) (ha : v.ownBlock = some a) (hk : w'.heap[a]? = w.heap[a]?) (hk2 : ∀ k, k < S.length → w'.heap[b k]? = w.heap[b k]?) : ArrD w' W v S b := by
  obtain ⟨cs, h1, h2⟩ := h
  refine ⟨cs, own_block h1 fun k hk' => by rw [ha] at hk'; injection hk' with e; subst e; exact hk, fun k hk => ?_⟩
  obtain ⟨u, h3, h4⟩ := h2 k hk
  exact ⟨u, h3, h4.keep (hk2 k hk)⟩
theorem ArrD.lt {w : World} {W : Nat} {v : Value} {S : List (List Int)} {b : Nat → Nat} (h : ArrD w W v S b) {k : Nat} (hk : k < S.length) : W ≤ b k ∧ b k < w.heap.size := by
  obtain ⟨cs, h1, h2⟩ := h
  obtain ⟨u, h3, h4⟩ := h2 k hk
  exact ⟨h4.blk.2.1, h4.blk.2.2.1⟩
theorem ArrD.below {w w' : World} {W : Nat} {v : Value} {S : List (List Int)} {b : Nat → Nat} {a : Nat} (h : ArrD w W v S b) (ha : v.ownBlock = some a) (hb : Below w.heap.size w w') : ArrD w' W v S b :=
  h.keep ha (hb.block _ (h.blk ha).2.2.1) fun k hk => hb.block _ (h.lt hk).2
/-- They are sets that lie at an address. -/
theorem ArrD.sts {w : World} {W : Nat} {v : Value} {S : List (List Int)} {b : Nat → Nat} {a : Nat} (h : ArrD w W v S b) (ha : v.ownBlock = some a) : ∃ c, v = .slice (some ⟨a, 0, none⟩) S.length c ∧ S.length ≤ c ∧ Sts w (fun x => x = a ∨ ∃ k, k < S.length ∧ x = b k) (some ⟨a, 0, none⟩) S.length S := by
  obtain ⟨_, hW, hlt, c, rfl, hc⟩ := h.blk ha
  obtain ⟨cs, h1, h2⟩ := h
  refine ⟨c, rfl, hc, sts_of_cells rfl (.inl rfl) fun i hi => ?_⟩
  obtain ⟨u, h3, h4⟩ := h2 i hi
  have hcell := World.ownsRow.cells h1 ha i u h3
  have e0 : (Addr.add ⟨a, 0, none⟩ i) = ⟨a, i, none⟩ := by
    unfold Addr.add
    by_cases h0 : i = 0 <;> simp [h0]
  rw [e0] at hcell
  exact ⟨u, hcell, (SlE U64E).mono (OwnU.el h4.2.1 h4.2.2) fun x hx _ => .inr ⟨i, hi, by have := h4.1.symm.trans hx; injection this with e; exact e.symm⟩⟩

theorem StpD.form {w : World} {W : Nat} {v : Value} {L : List Stp} {a : Nat → Nat} {b : Nat → Nat → Nat} (h : StpD w W v L a b) (hL : 0 < L.length) : ∃ g c, v = .slice (some ⟨g, 0, none⟩) L.length c ∧ L.length ≤ c ∧ W ≤ g ∧ g < w.heap.size ∧ (∃ cur, Blk w g cur 60) := by
  obtain ⟨cs, h1, _⟩ := h
  rcases h1.2 with ⟨_, h0⟩ | ⟨g, cap, cur, e, hB, hh, hcap, _⟩
  · omega
  · exact ⟨g, cap, e, hcap, hB, lt_of_block hh, cur, hh⟩
theorem StpD.keep {w w' : World} {W : Nat} {v : Value} {L : List Stp} {a : Nat → Nat} {b : Nat → Nat → Nat} (h : StpD w W v L a b) (hv : ∀ g, v.ownBlock = some g → w'.heap[g]? = w.heap[g]?) (ha : ∀ i, i < L.length → w'.heap[a i]? = w.heap[a i]?)
    (hb : ∀ i k, i < L.length → k < (L.getD i stp0).2.2.length → w'.heap[b i k]? = w.heap[b i k]?) : StpD w' W v L a b := by
  obtain ⟨cs, h1, h2⟩ := h
  refine ⟨cs, own_block h1 hv, fun i hi => ?_⟩
  obtain ⟨u, c0, c1, c2, f0, t0, hu, hA⟩ := h2 i hi
  exact ⟨u, c0, c1, c2, f0, t0, hu, hA.keep hu (ha i hi) fun k hk => hb i k hi hk⟩
theorem StpD.lts {w : World} {W : Nat} {v : Value} {L : List Stp} {a : Nat → Nat} {b : Nat → Nat → Nat} (h : StpD w W v L a b) {i : Nat} (hi : i < L.length) : (W ≤ a i ∧ a i < w.heap.size ∧ ∃ cur, Blk w (a i) cur 101) ∧ ∀ k, k < (L.getD i stp0).2.2.length → W ≤ b i k ∧ b i k < w.heap.size ∧ ∃ cur, Blk w (b i k) cur 22 := by
  obtain ⟨cs, h1, h2⟩ := h
  obtain ⟨u, _, _, _, _, _, hu, hA⟩ := h2 i hi
  refine ⟨⟨(hA.blk hu).2.1, (hA.blk hu).2.2.1, (hA.blk hu).1⟩, fun k hk => ?_⟩
  obtain ⟨cs2, _, h4⟩ := hA
  obtain ⟨u2, _, h5⟩ := h4 k hk
  exact ⟨h5.blk.2.1, h5.blk.2.2.1, h5.blk.1⟩
theorem StpD.below {w w' : World} {W : Nat} {v : Value} {L : List Stp} {a : Nat → Nat} {b : Nat → Nat → Nat} (h : StpD w W v L a b) (hb : Below w.heap.size w w') : StpD w' W v L a b := by
  have hlt : ∀ g, v.ownBlock = some g → g < w.heap.size := by
    obtain ⟨cs, h1, _⟩ := h
    exact fun g hg => (World.ownsRow.lt h1 g hg).2
  exact h.keep (fun g hg => hb.block _ (hlt g hg)) (fun i hi => hb.block _ (h.lts hi).1.2.1) fun i k hi hk => hb.block _ ((h.lts hi).2 k hk).2.1
/-- They are stripes of the call's own. -/
theorem StpD.own {w : World} {W Q : Nat} {v : Value} {L : List Stp} {a : Nat → Nat} {b : Nat → Nat → Nat} {u : Array Value} (h : StpD w W v L a b) (hL : 0 < L.length) (hQ : Blk w Q u 25) : OwnPq w W Q v L := by
  obtain ⟨g, c, rfl, hc, hg, hgl, cur, hgb⟩ := h.form hL
  have hlts := fun i hi => h.lts (i := i) hi
  obtain ⟨cs, h1, h2⟩ := h
  have hgQ : g ≠ Q := blk_ne hgb hQ (by decide)
  obtain ⟨ds, xs, l1, l2, hp⟩ := pick_n (p := fun i d x => x = L.getD i stp0 ∧ ∃ u, d = [.int .u64 (L.getD i stp0).1, .int .u64 (L.getD i stp0).2.1, u] ∧ (cs[i * 3]? = some (.int .u64 (L.getD i stp0).1) ∧ cs[i * 3 + 1]? = some (.int .u64 (L.getD i stp0).2.1) ∧ cs[i * 3 + 2]? = some u) ∧
      StE.R w (fun x => W ≤ x ∧ x ≠ Q ∧ (Value.slice (some ⟨g, 0, none⟩) L.length c).ownBlock ≠ some x) d (L.getD i stp0)) L.length fun i hi => by
    obtain ⟨u, c0, c1, c2, f0, t0, hu, hA⟩ := h2 i hi
    obtain ⟨c', rfl, hc', hst⟩ := hA.sts hu
    have hl := hlts i hi
    obtain ⟨⟨ha1, ha2, ca, ha3⟩, hbk⟩ := hl
    refine ⟨_, _, rfl, _, rfl, ⟨c0, c1, c2⟩, StE.mk f0 t0 rfl hc' (fun e => by cases e) (hst.mono fun x hx _ => ?_)⟩
    rcases hx with rfl | ⟨k, hk, rfl⟩
    · exact ⟨ha1, blk_ne ha3 hQ (by decide), fun e => by injection e with e; exact blk_ne hgb ha3 (by decide) e⟩
    · obtain ⟨hb1, hb2, cb, hb3⟩ := hbk k hk
      exact ⟨hb1, blk_ne hb3 hQ (by decide), fun e => by injection e with e; exact blk_ne hgb hb3 (by decide) e⟩
  have hxs : xs = L := by
    apply List.ext_getElem l2
    intro i h1 h2
    have := (hp i (ds[i]'(by omega)) xs[i] (List.getElem?_eq_getElem _) (List.getElem?_eq_getElem _)).1
    rw [this, List.getD_eq_getElem?_getD, List.getElem?_eq_getElem h2]; rfl
  subst hxs
  have hch : Ch StE w (fun x => W ≤ x ∧ x ≠ Q ∧ (Value.slice (some ⟨g, 0, none⟩) xs.length c).ownBlock ≠ some x) ds xs := Ch.of l1 fun i d x hd hx => by
    obtain ⟨e, u, e2, _, hR⟩ := hp i d x hd hx
    rw [e]; exact hR
  have hfl : ds.flatten.length = xs.length * 3 := hch.flat
  have hlen : ∀ d ∈ ds, d.length = 3 := hch.lens
  have hcs : cs = ds.flatten := by
    apply List.ext_getElem?
    intro j
    by_cases hj : j < xs.length * 3
    · have hv := List.getElem?_eq_getElem (l := ds.flatten) (by rw [hfl]; exact hj : j < ds.flatten.length)
      obtain ⟨i', jj, d, e, hjj, hdi, hdv⟩ := flat_at hlen j _ hv
      have hi' := (List.getElem?_eq_some_iff.1 hdi).1
      obtain ⟨_, u, rfl, ⟨q1, q2, q3⟩, _⟩ := hp i' d _ hdi (List.getElem?_eq_getElem (by omega))
      rw [hv]
      generalize ds.flatten[j] = x at hdv
      subst e
      rcases jj with _ | _ | _ | jj
      · simp at hdv; subst hdv; exact q1
      · simp at hdv; subst hdv; exact q2
      · simp at hdv; subst hdv; exact q3
      · omega
    · rw [List.getElem?_eq_none (by rw [h1.1]; omega), List.getElem?_eq_none (by rw [hfl]; omega)]
  subst hcs
  refine ⟨⟨ds, hch, h1, fun g' hg' hh => hh.2.2 hg'⟩, fun e => by injection e with e; exact hgQ e⟩
theorem SetD.mono3 {w : World} {W W' : Nat} {v : Value} {z : List Int} {b : Nat} (h : SetD w W v z b) (hW : W' ≤ W) : SetD w W' v z b := ⟨h.1, ⟨h.2.1.1, h.2.1.2.imp id fun ⟨g, c, cur, e1, e2, e3⟩ => ⟨g, c, cur, e1, by omega, e3⟩⟩, h.2.2⟩
theorem ArrD.mono3 {w : World} {W W' : Nat} {v : Value} {S : List (List Int)} {b : Nat → Nat} (h : ArrD w W v S b) (hW : W' ≤ W) : ArrD w W' v S b := by
  obtain ⟨cs, h1, h2⟩ := h
  refine ⟨cs, ⟨h1.1, h1.2.imp id fun ⟨g, c, cur, e1, e2, e3⟩ => ⟨g, c, cur, e1, by omega, e3⟩⟩, fun i hi => ?_⟩
  obtain ⟨u, hu, hd⟩ := h2 i hi
  exact ⟨u, hu, hd.mono3 hW⟩
theorem StpD.mono3 {w : World} {W W' : Nat} {v : Value} {L : List Stp} {a : Nat → Nat} {b : Nat → Nat → Nat} (h : StpD w W v L a b) (hW : W' ≤ W) : StpD w W' v L a b := by
  obtain ⟨cs, h1, h2⟩ := h
  refine ⟨cs, ⟨h1.1, h1.2.imp id fun ⟨g, c, cur, e1, e2, e3⟩ => ⟨g, c, cur, e1, by omega, e3⟩⟩, fun i hi => ?_⟩
  obtain ⟨u, c0, c1, c2, f0, t0, hu, hA⟩ := h2 i hi
  exact ⟨u, c0, c1, c2, f0, t0, hu, hA.mono3 hW⟩
theorem Apt.next {k : Nat} {len a : Nat → Nat} {b : Nat → Nat → Nat} {sz a' : Nat} {b' : Nat → Nat} (h : Apt k len a b) (h1 : ∀ i, i < k → a i < sz ∧ ∀ j, j < len i → b i j < sz) (h2 : sz ≤ a') (h3 : ∀ j, j < len k → sz ≤ b' j) (h4 : ∀ j l, j < len k → l < len k → b' j = b' l → j = l) :
    Apt (k + 1) len (fun i => if i = k then a' else a i) (fun i => if i = k then b' else b i) := by
  refine ⟨fun i j hi hj e => ?_, fun i x j y hi hj hx hy e => ?_⟩
  · by_cases hik : i = k
    · by_cases hjk : j = k
      · omega
      · have := (h1 j (by omega)).1
        simp only [hik, hjk, if_true, if_false] at e
        omega
    · by_cases hjk : j = k
      · have := (h1 i (by omega)).1
        simp only [hik, hjk, if_true, if_false] at e
        omega
      · simp only [hik, hjk, if_false] at e
        exact h.1 i j (by omega) (by omega) e
  · by_cases hik : i = k
    · subst hik
      by_cases hjk : j = i
      · subst hjk
        simp only [if_true] at e
        exact ⟨rfl, h4 x y hx hy e⟩
      · have := (h1 j (by omega)).2 y hy
        have := h3 x hx
        simp only [hjk, if_true, if_false] at e
        omega
    · by_cases hjk : j = k
      · subst hjk
        have := (h1 i (by omega)).2 x hx
        have := h3 y hy
        simp only [hik, if_true, if_false] at e
        omega
      · simp only [hik, hjk, if_false] at e
        exact h.2 i x j y (by omega) (by omega) hx hy e
end Go.Proofs.Ytghlediibhnloaa.Cur
