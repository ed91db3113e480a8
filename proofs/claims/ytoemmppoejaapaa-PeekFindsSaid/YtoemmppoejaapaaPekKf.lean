/- As the seat's text, without what nothing here names. -/
import Derived.Test.YtoemmppoejaapaaPekIf
import Derived.Test.YtoemmppoejaapaaPekJf
import Derived.Test.YtoemmppoejaapaaBtcJf
namespace Go.Proofs.Ytoemmppoejaapaa.Cur
open Go.RowKit Mem
set_option linter.unusedVariables false
set_option maxRecDepth 100000
def lksOf (L : List En) : List (List Lk) := L.map (·.1)
theorem lksOf_at (L : List En) (k : Nat) : (lksOf L).getD k [] = (L.getD k en0).1 := by
  unfold lksOf
  rw [List.getD_eq_getElem?_getD, List.getD_eq_getElem?_getD, List.getElem?_map]
  cases L[k]? <;> rfl
def thL (b : Int) (L : List En) (T : TL) (k : Nat) : List Lk := (List.range (L.getD k en0).1.length).map (nwl (b + k) (L.getD k en0).1 (TE b (lksOf L) T k))
def thEn (b : Int) (L : List En) (T : TL) : List En := (List.range L.length).map fun k => (thL b L T k, (L.getD k en0).2)
theorem thL_len (b : Int) (L : List En) (T : TL) (k : Nat) : (thL b L T k).length = (L.getD k en0).1.length := by unfold thL; simp
theorem thL_at (b : Int) (L : List En) (T : TL) {k i : Nat} (hi : i < (L.getD k en0).1.length) : (thL b L T k).getD i lk0 = nwl (b + k) (L.getD k en0).1 (TE b (lksOf L) T k) i := by
  unfold thL
  rw [List.getD_eq_getElem?_getD, List.getElem?_map, List.getElem?_range hi]; rfl
theorem thEn_len (b : Int) (L : List En) (T : TL) : (thEn b L T).length = L.length := by unfold thEn; simp
theorem thEn_at (b : Int) (L : List En) (T : TL) {k : Nat} (hk : k < L.length) : (thEn b L T).getD k en0 = (thL b L T k, (L.getD k en0).2) := by
  unfold thEn
  rw [List.getD_eq_getElem?_getD, List.getElem?_map, List.getElem?_range hk]; rfl
def hdOf (cur : Array Value) : Hdr := fun k => match cur[k * 2]? with
  | some (.slice a l m) => (a, l, m)
  | _ => (none, 0, 0)
def gkOf (cur : Array Value) (k : Nat) : Nat := match (hdOf cur k).1 with
  | some a => a.block
  | none => 0
theorem cpb_at {w : World} {B g n : Nat} {L : List En} {cur : Array Value} {lo hi : Nat → Nat} (h : CpB w B g n n L cur lo hi) {k : Nat} (hk : k < n) :
    ∃ a l m b r j, hdOf cur k = (a, l, m) ∧ cur[k * 2]? = some (.slice a l m) ∧ cur[k * 2 + 1]? = some (.slice b r j) ∧ CpIn w (lo k) (hi k) a l m b r j (L.getD k en0).1 (L.getD k en0).2 ∧ g < lo k ∧ hi k ≤ w.heap.size ∧ l = (L.getD k en0).1.length ∧
      (0 < l → a = some ⟨gkOf cur k, 0, none⟩ ∧ lo k ≤ gkOf cur k ∧ gkOf cur k < hi k) := by
  obtain ⟨h1, h2, h3, h4, h5⟩ := h
  obtain ⟨⟨a, l, m, b, r, j, q1, q2, q3⟩, q4, q5⟩ := h4 k hk
  have e : hdOf cur k = (a, l, m) := by unfold hdOf; rw [q1]
  refine ⟨a, l, m, b, r, j, e, q1, q2, q3, q4, q5, q3.1.1.symm, fun h0 => ?_⟩
  obtain ⟨g', cur', e1, p1, p2, _⟩ := q3.2.2.2.2.2.1 h0
  have e2 : gkOf cur k = g' := by unfold gkOf; rw [e, e1]
  rw [e2]
  exact ⟨e1, p1, p2⟩
theorem cpb_apart {w : World} {B g n : Nat} {L : List En} {cur : Array Value} {lo hi : Nat → Nat} (h : CpB w B g n n L cur lo hi) {i j x y : Nat} (hi' : i < n) (hj : j < n) (hij : i ≠ j) (hx : lo i ≤ x ∧ x < hi i) (hy : lo j ≤ y ∧ y < hi j) : x ≠ y := by
  obtain ⟨h1, h2, h3, h4, h5⟩ := h
  rcases Nat.lt_or_gt_of_ne hij with h6 | h6
  · have := h5 i j h6 hj; omega
  · have := h5 j i h6 hi'; omega
theorem thI_start {w : World} {B0 eb mb n : Nat} {b : Int} {B g : Nat} {L : List En} {cur : Array Value} {lo hi : Nat → Nat} {N0 : Nat} {D : DataW Value} {f : Int → Option Value} {T : TL} (h : CpB w B g n n L cur lo hi) (hl : L.length = n)
    (he : Blk w eb #[.map (some mb)] 61) (hm : MapV w mb N0 D) (hf : MV D f) (ht : TlE w (fun x => B0 ≤ x ∧ x ≠ mb ∧ x < B) f T) (hmb : mb < B) :
    ThI B0 eb mb n N0 b (gkOf cur) (lksOf L) T 0 0 w := by
  have hg : ∀ j, j < n → 0 < ((lksOf L).getD j []).length → B ≤ gkOf cur j ∧ gkOf cur j < w.heap.size := fun j hj h0 => by
    obtain ⟨a, l, m, b, r, j', q1, q2, q3, q4, q5, q6, q7, q8⟩ := cpb_at h hj
    rw [lksOf_at] at h0
    obtain ⟨_, p1, p2⟩ := q8 (by omega)
    have := h.2.2.1
    omega
  refine ⟨he, ⟨N0, D, f, by omega, hm, hf, ht.mono fun x hx hl => ⟨hx.1, fun hs => ?_⟩⟩, fun j hj => ?_, fun x hs => ?_⟩
  · rcases hs with hs | ⟨j, hj, h0, rfl⟩
    · exact hx.2.1 hs
    · have := hg j hj h0; omega
  · rw [if_neg (by omega), show (if j = 0 then 0 else 0) = 0 by split <;> rfl]
    intro h0
    obtain ⟨a, l, m, b, r, j', q1, q2, q3, q4, q5, q6, q7, q8⟩ := cpb_at h hj
    rw [lksOf_at] at h0 ⊢
    obtain ⟨e1, p1, p2⟩ := q8 (by omega)
    obtain ⟨g', cur', e2, _, _, p5, p6⟩ := q4.2.2.2.2.2.1 (by omega)
    rw [e1] at e2
    injection e2 with e2
    injection e2 with e2
    rw [← e2] at p5
    obtain ⟨g9, o9, e3, _, _, hc⟩ := q4.1.cells (by omega)
    rw [e1] at e3
    injection e3 with e3
    injection e3 with e4 e5
    subst e5
    have hcell : ∀ i, i < l → cur'[i * 2]? = some (.int .u64 ((L.getD j en0).1.getD i lk0).1) ∧ ∃ v, cur'[i * 2 + 1]? = some v := fun i hi => by
      obtain ⟨x, z, a', l', m', d1, _, _, _, _, _, _, _, _, d2⟩ := hc i hi
      obtain ⟨d3, d4⟩ := d2 w (Below.refl _ _)
      rw [← e4, Nat.zero_add] at d3 d4
      unfold Blk at p5
      simp only [World.cell?, p5] at d3 d4
      refine ⟨?_, ?_⟩
      · rw [d1]; simpa using d3
      · exact ⟨_, by simpa using d4⟩
    refine ⟨cur', p5, ?_, fun i hi => ⟨(hcell i (by omega)).1, fun h => by omega⟩⟩
    obtain ⟨v, hv⟩ := (hcell (l - 1) (by omega)).2
    have := (Array.getElem?_eq_some_iff.1 hv).1
    omega
  · rcases hs with rfl | ⟨j, hj, h0, rfl⟩
    · exact World.ownsMap.lt hm
    · exact (hg j hj h0).2
theorem ksS_far {w : World} {mb n : Nat} {B g : Nat} {L : List En} {cur : Array Value} {lo hi : Nat → Nat} (h : CpB w B g n n L cur lo hi) (hl : L.length = n) {x : Nat} (hx : x ≠ mb) (hno : ∀ j, j < n → 0 < (L.getD j en0).1.length → x ≠ gkOf cur j) : ¬ thS mb n (gkOf cur) (lksOf L) x := fun hs => by
  rcases hs with hs | ⟨j, hj, h0, e⟩
  · exact hx hs
  · rw [lksOf_at] at h0; exact hno j hj h0 e
theorem thI_end {w w' : World} {B0 eb mb n : Nat} {b : Int} {B g : Nat} {L : List En} {cur : Array Value} {lo hi : Nat → Nat} {N0 : Nat} {T : TL} (h : CpB w B g n n L cur lo hi) (hl : L.length = n) (hD : ∀ x ∈ L, ∀ y ∈ x.2, 0 ≤ y ∧ y < 256)
    (hmb : mb < B) (hB0 : B0 ≤ B) (hk : Ks (thS mb n (gkOf cur) (lksOf L)) w w') (hI : ThI B0 eb mb n N0 b (gkOf cur) (lksOf L) T n 0 w') : Ens w' (fun x => B0 ≤ x) (some ⟨g, 0, none⟩) n (thEn b L T) := by
  have hgB := h.2.2.1
  have hgn : ¬ thS mb n (gkOf cur) (lksOf L) g := ksS_far h hl (by omega) fun j hj h0 => by
    obtain ⟨a, l, m, b, r, j', q1, q2, q3, q4, q5, q6, q7, q8⟩ := cpb_at h hj
    have := q8 (by omega)
    omega
  have hG := ks_blk hk h.1 hgn
  refine ens_of_cells (by rw [thEn_len, hl]) (by omega) fun i hi => ?_
  obtain ⟨a, l, m, b', r, j', q1, q2, q3, q4, q5, q6, q7, q8⟩ := cpb_at h hi
  refine ⟨_, _, ⟨hG.cell _ q2, hG.cell _ q3⟩, ?_⟩
  rw [thEn_at b L T (by omega)]
  obtain ⟨c1, c2, c3, c4, c5, c6, c7, c8, c9⟩ := q4
  have hmem : L.getD i en0 ∈ L := by
    rw [List.getD_eq_getElem?_getD, List.getElem?_eq_getElem (by omega)]
    exact List.getElem_mem _
  have hbs : Bs w' b' r (L.getD i en0).2 := by
    refine ⟨c3.1, fun h0 => ?_⟩
    obtain ⟨g1, o1, e1, hc⟩ := c3.2 h0
    obtain ⟨g2, cur2, e2, p1, p2, p3, _⟩ := c7 h0
    rw [e1] at e2
    injection e2 with e2
    injection e2 with e3 e4
    subst e3 e4
    refine ⟨g1, 0, e1, fun x y hy => ?_⟩
    have hcc := hc x y hy
    refine (ks_cell hk p3.lt (ksS_far h hl (by omega) fun j hj h1 e => ?_)).trans hcc
    obtain ⟨a2, l2, m2, b2, r2, j2, s1, s2, s3, s4, s5, s6, s7, s8⟩ := cpb_at h hj
    obtain ⟨t1, t2, t3⟩ := s8 (by omega)
    by_cases hij : i = j
    · subst hij
      obtain ⟨g3, cur3, e5, _, _, p5, _⟩ := s4.2.2.2.2.2.1 (by omega)
      rw [t1] at e5
      injection e5 with e5
      injection e5 with e5
      rw [← e5, ← e] at p5
      exact blk_ne26 p3 p5 (by decide) rfl
    · exact cpb_apart h hi hj hij ⟨p1, p2⟩ ⟨t2, t3⟩ e
  have hsq : Sq U8E w' (fun x => B0 ≤ x) b' (L.getD i en0).2 := Bs.sq hbs (hD _ hmem) fun h0 ad ha => by
    have := c5 h0 ad ha
    omega
  have hlk : Lks w' (fun x => B0 ≤ x) a l (thL b L T i) := by
    by_cases h0 : 0 < l
    · obtain ⟨e1, p1, p2⟩ := q8 h0
      have hLn := hI.2.2.1 i hi
      rw [if_pos hi] at hLn
      obtain ⟨cur2, d1, d2, d3⟩ := hLn (by rw [lksOf_at]; omega)
      rw [lksOf_at] at d3
      rw [e1]
      refine lks_of_cells (by rw [thL_len, q7]) (by omega) fun x hx => ?_
      obtain ⟨d4, d5⟩ := d3 x (by omega)
      obtain ⟨A2, m2, d6, d7⟩ := d5 (by omega)
      rw [thL_at b L T (by omega)]
      exact ⟨_, _, ⟨d1.cell _ d4, d1.cell _ d6⟩, LkE.mono d7 fun y hy _ => hy.1⟩
    · have h1 : l = 0 := by omega
      have h2 : thL b L T i = [] := List.eq_nil_of_length_eq_zero (by rw [thL_len]; omega)
      rw [h1, h2]
      exact ⟨rfl, Sq.nil _ _ _ _⟩
  exact EnE.mk hlk c2 c8 c3.1 c4 c9 hsq
theorem cpb_vis {w : World} {n : Nat} {B g : Nat} {L : List En} {cur : Array Value} {lo hi : Nat → Nat} (h : CpB w B g n n L cur lo hi) (hl : L.length = n) (hs : ∀ k, (L.getD k en0).1.length ≤ 100) (S : Nat → Prop) (hg : ¬ S g) : VisR w S (some ⟨g, 0, none⟩) n (hdOf cur) := fun h0 => by
  refine ⟨g, 0, rfl, hg, h.1.lt, fun k hk => ?_⟩
  obtain ⟨a, l, m, b', r, j', q1, q2, q3, q4, q5, q6, q7, q8⟩ := cpb_at h hk
  rw [q1]
  refine ⟨by rw [Nat.zero_add]; exact h.1.cell _ q2, fun h1 => ⟨_, _, (q8 h1).1⟩, by have := hs k; dsimp only; omega⟩
end Go.Proofs.Ytoemmppoejaapaa.Cur
