/- As the seat's text, without what nothing here names. -/
import Derived.Test.YtoemmppoejaapaaPekYt
import Derived.Test.YtoemmppoejaapaaBtcEt
import Derived.Test.YtoemmppoejaapaaK38t
namespace Go.Proofs.Ytoemmppoejaapaa.Cur
open Go.RowKit Mem
set_option linter.unusedVariables false
set_option maxRecDepth 100000
theorem slw_int {w : World} {g c g' o : Nat} {v : Value} {s : Option Addr × Nat × Nat} {t : IntKind} {x : Int} (hc : w.cell? ⟨g, c, none⟩ = some (.slice s.1 s.2.1 s.2.2)) (h : w.cell? ⟨g', o, none⟩ = some (.int t x)) : (w.setCell ⟨g, c, none⟩ v).cell? ⟨g', o, none⟩ = some (.int t x) := by
  rw [World.cell?_setCell_other, h]
  intro e
  rw [e, h] at hc
  cases hc
theorem us_slw {w : World} {g c n : Nat} {v : Value} {s : Option Addr × Nat × Nat} {A : Option Addr} {z : List Int} (hc : w.cell? ⟨g, c, none⟩ = some (.slice s.1 s.2.1 s.2.2)) (h : Us w A n z) : Us (w.setCell ⟨g, c, none⟩ v) A n z := by
  refine ⟨h.1, fun hn => ?_⟩
  obtain ⟨k, o, e, hcc⟩ := h.2 hn
  refine ⟨k, o, e, fun i u hu => ?_⟩
  have h1 := hcc i u hu
  rw [List.getElem?_map, Option.map_eq_some_iff] at hu
  obtain ⟨x, _, rfl⟩ := hu
  exact slw_int hc h1
theorem bs_slw {w : World} {g c n : Nat} {v : Value} {s : Option Addr × Nat × Nat} {A : Option Addr} {z : List Int} (hc : w.cell? ⟨g, c, none⟩ = some (.slice s.1 s.2.1 s.2.2)) (h : Bs w A n z) : Bs (w.setCell ⟨g, c, none⟩ v) A n z := by
  refine ⟨h.1, fun hn => ?_⟩
  obtain ⟨k, o, e, hcc⟩ := h.2 hn
  exact ⟨k, o, e, fun i x hx => slw_int hc (hcc i x hx)⟩
theorem lke_slw {w : World} {g c : Nat} {v : Value} {s : Option Addr × Nat × Nat} {P : Nat → Prop} {cs : List Value} {x : Lk} (hc : w.cell? ⟨g, c, none⟩ = some (.slice s.1 s.2.1 s.2.2)) (h : LkE.R w P cs x) : LkE.R (w.setCell ⟨g, c, none⟩ v) P cs x := by
  obtain ⟨A, m, rfl, b0, h1, h2, h3, h4, h5, _⟩ := link_parts h
  exact LkE.mk b0 rfl h1 h2 ((us_slw hc h3).sq h4 h5)
theorem ch_slw {w : World} {g c : Nat} {v : Value} {s : Option Addr × Nat × Nat} {P : Nat → Prop} (hc : w.cell? ⟨g, c, none⟩ = some (.slice s.1 s.2.1 s.2.2)) : ∀ {cs : List (List Value)} {L : List Lk}, Ch LkE w P cs L → Ch LkE (w.setCell ⟨g, c, none⟩ v) P cs L
  | [], [], _ => trivial
  | c1 :: cs, x :: xs, h => ⟨lke_slw hc h.1, ch_slw hc h.2⟩
  | [], _ :: _, h => h.elim
  | _ :: _, [], h => h.elim
theorem lks_slw {w : World} {g c n : Nat} {v : Value} {s : Option Addr × Nat × Nat} {P : Nat → Prop} {A : Option Addr} {L : List Lk} (hc : w.cell? ⟨g, c, none⟩ = some (.slice s.1 s.2.1 s.2.2)) (h : Lks w P A n L) (hA : ∀ a, A = some a → 0 < n → a.block ≠ g) : Lks (w.setCell ⟨g, c, none⟩ v) P A n L := by
  obtain ⟨hl, cs, h1, h2⟩ := h
  refine ⟨hl, cs, ch_slw hc h1, fun hn => ?_⟩
  obtain ⟨k, o, e, hP, hcc⟩ := h2 hn
  have hn0 : 0 < n := by
    rw [h1.flat, hl] at hn
    exact Nat.pos_of_mul_pos_right hn
  refine ⟨k, o, e, hP, fun i u hu => ?_⟩
  rw [World.cell?_setCell_other, hcc i u hu]
  intro e2
  injection e2 with e2
  exact hA _ e hn0 e2.symm
def LnR (y : Nat) (w : World) (g : Nat) (l : List Lk) : Prop :=
  ∃ cur, Blk w g cur 51 ∧ l.length * 2 ≤ cur.size ∧ ∀ j, j < l.length → ∃ A m, cur[j * 2]? = some (.int .u64 (l.getD j lk0).1) ∧ cur[j * 2 + 1]? = some (.slice A (l.getD j lk0).2.length m) ∧
    LkE.R w (fun b => b ≠ y) [.int .u64 (l.getD j lk0).1, .slice A (l.getD j lk0).2.length m] (l.getD j lk0)
theorem LnR.lt {y : Nat} {w : World} {g : Nat} {l : List Lk} (h : LnR y w g l) : g < w.heap.size := by
  obtain ⟨cur, h1, _⟩ := h
  exact h1.lt
theorem LnR.below {y : Nat} {w w' : World} {g : Nat} {l : List Lk} (h : LnR y w g l) (hb : Below w.heap.size w w') : LnR y w' g l := by
  obtain ⟨cur, h1, h2, h3⟩ := h
  refine ⟨cur, h1.below hb, h2, fun j hj => ?_⟩
  obtain ⟨A, m, q1, q2, q3⟩ := h3 j hj
  exact ⟨A, m, q1, q2, LkE.keep q3 fun b _ hl => hb.block b hl⟩
theorem LnR.slw {y : Nat} {w : World} {g c g' : Nat} {v : Value} {s : Option Addr × Nat × Nat} {l : List Lk} (hc : w.cell? ⟨g, c, none⟩ = some (.slice s.1 s.2.1 s.2.2)) (h : LnR y w g' l) (hg : g' ≠ g) : LnR y (w.setCell ⟨g, c, none⟩ v) g' l := by
  obtain ⟨cur, h1, h2, h3⟩ := h
  refine ⟨cur, h1.far c v hg, h2, fun j hj => ?_⟩
  obtain ⟨A, m, q1, q2, q3⟩ := h3 j hj
  exact ⟨A, m, q1, q2, lke_slw hc q3⟩
theorem LnR.cell {y : Nat} {w : World} {g : Nat} {l : List Lk} (h : LnR y w g l) {i : Nat} (hi : i < l.length) : ∃ A m, w.cell? ⟨g, i * 2, none⟩ = some (.int .u64 (l.getD i lk0).1) ∧ w.cell? ⟨g, i * 2 + 1, none⟩ = some (.slice A (l.getD i lk0).2.length m) ∧
    LkE.R w (fun b => b ≠ y) [.int .u64 (l.getD i lk0).1, .slice A (l.getD i lk0).2.length m] (l.getD i lk0) := by
  obtain ⟨cur, h1, h2, h3⟩ := h
  obtain ⟨A, m, q1, q2, q3⟩ := h3 i hi
  exact ⟨A, m, h1.cell _ q1, h1.cell _ q2, q3⟩
theorem LnR.free {y : Nat} {w : World} {g : Nat} {l : List Lk} (h : LnR y w g l) (o : Nat) : w.frozen? ⟨g, o, none⟩ = false := by
  obtain ⟨cur, h1, _⟩ := h
  exact h1.free o
theorem LnR.put {y : Nat} {w : World} {g i m : Nat} {l : List Lk} {A : Option Addr} {z : List Int} (h : LnR y w g l) (hi : i < l.length) (hz : LkE.R w (fun b => b ≠ y) [.int .u64 (l.getD i lk0).1, .slice A z.length m] ((l.getD i lk0).1, z)) :
    LnR y (w.setCell ⟨g, i * 2 + 1, none⟩ (.slice A z.length m)) g (l.set i ((l.getD i lk0).1, z)) := by
  obtain ⟨A0, m0, _, hc, _⟩ := h.cell hi
  replace hc : w.cell? ⟨g, i * 2 + 1, none⟩ = some (.slice (A0, (l.getD i lk0).2.length, m0).1 (A0, (l.getD i lk0).2.length, m0).2.1 (A0, (l.getD i lk0).2.length, m0).2.2) := hc
  obtain ⟨cur, h1, h2, h3⟩ := h
  refine ⟨_, h1.set (i * 2 + 1) _, by rw [List.length_set]; simpa using h2, fun j hj => ?_⟩
  rw [List.length_set] at hj
  have e : (l.set i ((l.getD i lk0).1, z)).getD j lk0 = if i = j then ((l.getD i lk0).1, z) else l.getD j lk0 := by
    rw [List.getD_eq_getElem?_getD, List.getElem?_set]
    by_cases e : i = j
    · rw [if_pos e, if_pos e, if_pos hi]; rfl
    · rw [if_neg e, if_neg e, ← List.getD_eq_getElem?_getD]
  rw [e]
  obtain ⟨A1, m1, q1, q2, q3⟩ := h3 j hj
  by_cases e2 : i = j
  · subst e2
    rw [if_pos rfl]
    refine ⟨A, m, ?_, ?_, lke_slw hc hz⟩
    · rw [Array.getElem?_setIfInBounds_ne (by omega)]; exact q1
    · rw [Array.getElem?_setIfInBounds_self_of_lt (by omega)]
  · rw [if_neg e2]
    refine ⟨A1, m1, ?_, ?_, lke_slw hc q3⟩
    · rw [Array.getElem?_setIfInBounds_ne (by omega)]; exact q1
    · rw [Array.getElem?_setIfInBounds_ne (by omega)]; exact q2
theorem LnR.lks {y : Nat} {w : World} {g : Nat} {l : List Lk} (h : LnR y w g l) (hg : g ≠ y) : Lks w (fun b => b ≠ y) (some ⟨g, 0, none⟩) l.length l := lks_of_cells rfl hg fun i hi => by
  obtain ⟨A, m, q1, q2, q3⟩ := h.cell hi
  exact ⟨_, _, ⟨q1, q2⟩, q3⟩
def OutR (y : Nat) (w : World) (gO n : Nat) (cur : Array Value) (gk : Nat → Nat) (L : List En) : Prop :=
  Blk w gO cur 31 ∧ n * 2 ≤ cur.size ∧ L.length = n ∧ (∀ j, j < n → ∃ a m b kk, cur[j * 2]? = some (.slice a (L.getD j en0).1.length m) ∧ (L.getD j en0).1.length ≤ m ∧ (a = none → m = 0) ∧
    cur[j * 2 + 1]? = some (.slice b (L.getD j en0).2.length kk) ∧ (L.getD j en0).2.length ≤ kk ∧ (b = none → kk = 0) ∧ Bs w b (L.getD j en0).2.length (L.getD j en0).2 ∧ ((∀ x ∈ (L.getD j en0).2, 0 ≤ x ∧ x < 256) ∧ (0 < (L.getD j en0).2.length → ∀ a, b = some a → a.block ≠ y)) ∧
    (0 < (L.getD j en0).1.length → a = some ⟨gk j, 0, none⟩ ∧ LnR y w (gk j) (L.getD j en0).1 ∧ gk j ≠ gO)) ∧
  ∀ j j', j < n → j' < n → j ≠ j' → 0 < (L.getD j en0).1.length → 0 < (L.getD j' en0).1.length → gk j ≠ gk j'
theorem OutR.below {y : Nat} {w w' : World} {gO n : Nat} {cur : Array Value} {gk : Nat → Nat} {L : List En} (h : OutR y w gO n cur gk L) (hb : Below w.heap.size w w') : OutR y w' gO n cur gk L := by
  obtain ⟨h1, h2, h3, h4, h5⟩ := h
  refine ⟨h1.below hb, h2, h3, fun j hj => ?_, h5⟩
  obtain ⟨a, m, b, kk, q1, q2, q3, q4, q5, q6, q7, q8, q9⟩ := h4 j hj
  exact ⟨a, m, b, kk, q1, q2, q3, q4, q5, q6, q7.below hb, q8, fun h0 => ⟨(q9 h0).1, (q9 h0).2.1.below hb, (q9 h0).2.2⟩⟩
theorem OutR.ens {y : Nat} {w : World} {gO n : Nat} {cur : Array Value} {gk : Nat → Nat} {L : List En} (h : OutR y w gO n cur gk L) (hgO : gO ≠ y) (hgk : ∀ j, j < n → 0 < (L.getD j en0).1.length → gk j ≠ y) : Ens w (fun b => b ≠ y) (some ⟨gO, 0, none⟩) n L := by
  obtain ⟨h1, h2, h3, h4, h5⟩ := h
  refine ens_of_cells h3 hgO fun j hj => ?_
  obtain ⟨a, m, b, kk, q1, q2, q3, q4, q5, q6, q7, q8, q9⟩ := h4 j hj
  refine ⟨_, _, ⟨h1.cell _ q1, h1.cell _ q4⟩, EnE.mk ?_ q2 q3 rfl q5 q6 (Bs.sq q7 q8.1 q8.2)⟩
  rcases Nat.eq_zero_or_pos (L.getD j en0).1.length with h0 | h0
  · have e : (L.getD j en0).1 = [] := List.eq_nil_of_length_eq_zero h0
    have h9 : Lks w (fun b => b ≠ y) a ([] : List Lk).length [] := ⟨rfl, Sq.nil _ _ _ _⟩
    rw [← e] at h9
    exact h9
  · obtain ⟨e, hl, _⟩ := q9 h0
    rw [e]
    exact hl.lks (hgk j hj h0)
theorem OutR.at_ {y : Nat} {w : World} {gO n : Nat} {cur : Array Value} {gk : Nat → Nat} {L : List En} (h : OutR y w gO n cur gk L) {k : Nat} (hk : k < n) : ∃ a m, w.cell? ⟨gO, k * 2, none⟩ = some (.slice a (L.getD k en0).1.length m) ∧ (L.getD k en0).1.length ≤ m ∧ (0 < (L.getD k en0).1.length → a = some ⟨gk k, 0, none⟩ ∧ LnR y w (gk k) (L.getD k en0).1 ∧ gk k ≠ gO) := by
  obtain ⟨h1, h2, h3, h4, h5⟩ := h
  obtain ⟨a, m, b, kk, q1, q2, q3, q4, q5, q6, q7, q8, q9⟩ := h4 k hk
  exact ⟨a, m, h1.cell _ q1, q2, q9⟩
theorem getD_set_en {L : List En} {k j : Nat} {x : En} (hk : k < L.length) : (L.set k x).getD j en0 = if k = j then x else L.getD j en0 := by
  rw [List.getD_eq_getElem?_getD, List.getElem?_set]
  by_cases e : k = j
  · rw [if_pos e, if_pos e, if_pos hk]; rfl
  · rw [if_neg e, if_neg e, ← List.getD_eq_getElem?_getD]
theorem OutR.put {y : Nat} {w : World} {gO n k i m : Nat} {cur : Array Value} {gk : Nat → Nat} {L : List En} {A : Option Addr} {z : List Int} (h : OutR y w gO n cur gk L) (hk : k < n) (hi : i < (L.getD k en0).1.length)
    (hz : LkE.R w (fun b => b ≠ y) [.int .u64 ((L.getD k en0).1.getD i lk0).1, .slice A z.length m] (((L.getD k en0).1.getD i lk0).1, z)) :
    OutR y (w.setCell ⟨gk k, i * 2 + 1, none⟩ (.slice A z.length m)) gO n cur gk (L.set k ((L.getD k en0).1.set i (((L.getD k en0).1.getD i lk0).1, z), (L.getD k en0).2)) := by
  obtain ⟨h1, h2, h3, h4, h5⟩ := h
  obtain ⟨_, _, _, _, _, _, _, _, _, _, _, _, q9⟩ := h4 k hk
  obtain ⟨_, hl, hne⟩ := q9 (by omega)
  obtain ⟨A0, m0, _, hc, _⟩ := hl.cell hi
  replace hc : w.cell? ⟨gk k, i * 2 + 1, none⟩ = some (.slice (A0, ((L.getD k en0).1.getD i lk0).2.length, m0).1 (A0, ((L.getD k en0).1.getD i lk0).2.length, m0).2.1 (A0, ((L.getD k en0).1.getD i lk0).2.length, m0).2.2) := hc
  have hlen : ∀ j, ((L.set k ((L.getD k en0).1.set i (((L.getD k en0).1.getD i lk0).1, z), (L.getD k en0).2)).getD j en0).1.length = (L.getD j en0).1.length := fun j => by
    rw [getD_set_en (by omega)]
    by_cases e : k = j
    · subst e; rw [if_pos rfl]; exact List.length_set
    · rw [if_neg e]
  have hdat : ∀ j, ((L.set k ((L.getD k en0).1.set i (((L.getD k en0).1.getD i lk0).1, z), (L.getD k en0).2)).getD j en0).2 = (L.getD j en0).2 := fun j => by
    rw [getD_set_en (by omega)]
    by_cases e : k = j
    · subst e; rw [if_pos rfl]
    · rw [if_neg e]
  refine ⟨h1.far _ _ (fun e => hne e.symm), h2, by rw [List.length_set]; exact h3, fun j hj => ?_, fun j j' hj hj' hne2 g1 g2 => ?_⟩
  · obtain ⟨a, m', b, kk, q1, q2, q3, q4, q5, q6, q7, q8, q9⟩ := h4 j hj
    rw [hlen, hdat]
    refine ⟨a, m', b, kk, q1, q2, q3, q4, q5, q6, bs_slw hc q7, q8, fun h0 => ⟨(q9 h0).1, ?_, (q9 h0).2.2⟩⟩
    rw [getD_set_en (by omega)]
    by_cases e : k = j
    · subst e; rw [if_pos rfl]; exact hl.put hi hz
    · rw [if_neg e]
      exact (q9 h0).2.1.slw hc (fun e2 => h5 j k hj hk (fun e3 => e e3.symm) h0 (by omega) e2)
  · rw [hlen] at g1 g2
    exact h5 j j' hj hj' hne2 g1 g2
def pth (p : Int) (l : List Lk) (T : TL) (i : Nat) : List Lk := (List.range l.length).map fun j => if j < i then nwl p l T j else ((l.getD j lk0).1, [])
def pen (b : Int) (L : List En) (T : TL) (k i : Nat) : List En := (List.range L.length).map fun (j : Nat) => (pth (b + j) (L.getD j en0).1 (TE b (lksOf L) T j) (if j < k then (L.getD j en0).1.length else if j = k then i else 0), (L.getD j en0).2)
theorem pth_len (p : Int) (l : List Lk) (T : TL) (i : Nat) : (pth p l T i).length = l.length := by unfold pth; simp
theorem pth_at (p : Int) (l : List Lk) (T : TL) (i : Nat) {j : Nat} (hj : j < l.length) : (pth p l T i).getD j lk0 = if j < i then nwl p l T j else ((l.getD j lk0).1, []) := by
  unfold pth
  rw [List.getD_eq_getElem?_getD, List.getElem?_map, List.getElem?_range hj]; rfl
theorem pth_str (p : Int) (l : List Lk) (T : TL) (i : Nat) {j : Nat} (hj : j < l.length) : ((pth p l T i).getD j lk0).1 = (l.getD j lk0).1 := by
  rw [pth_at p l T i hj]
  split <;> rfl
theorem pen_len (b : Int) (L : List En) (T : TL) (k i : Nat) : (pen b L T k i).length = L.length := by unfold pen; simp
theorem pen_at (b : Int) (L : List En) (T : TL) (k i : Nat) {j : Nat} (hj : j < L.length) : (pen b L T k i).getD j en0 = (pth (b + j) (L.getD j en0).1 (TE b (lksOf L) T j) (if j < k then (L.getD j en0).1.length else if j = k then i else 0), (L.getD j en0).2) := by
  unfold pen
  rw [List.getD_eq_getElem?_getD, List.getElem?_map, List.getElem?_range hj]; rfl
theorem ext_lk {A B : List Lk} (h : A.length = B.length) (he : ∀ j, j < A.length → A.getD j lk0 = B.getD j lk0) : A = B := by
  apply List.ext_getElem h
  intro j h1 h2
  have := he j h1
  rwa [getD_of h1, getD_of h2] at this
theorem ext_en {A B : List En} (h : A.length = B.length) (he : ∀ j, j < A.length → A.getD j en0 = B.getD j en0) : A = B := by
  apply List.ext_getElem h
  intro j h1 h2
  have := he j h1
  rw [List.getD_eq_getElem?_getD, List.getElem?_eq_getElem h1, List.getD_eq_getElem?_getD, List.getElem?_eq_getElem h2] at this
  exact this
theorem pth_0 (p : Int) (l : List Lk) (T : TL) : pth p l T 0 = bareL l := ext_lk (by rw [pth_len, bareL_len]) fun j hj => by
  rw [pth_len] at hj
  rw [pth_at p l T 0 hj, if_neg (by omega), bareL_at l hj]
theorem pen_0 (b : Int) (L : List En) (T : TL) : pen b L T 0 0 = bareEn L := ext_en (by rw [pen_len, bareEn_len]) fun j hj => by
  rw [pen_len] at hj
  rw [pen_at b L T 0 0 hj, bareEn_at, if_neg (by omega)]
  have : (if j = 0 then 0 else 0) = 0 := by split <;> rfl
  rw [this, pth_0]
theorem pen_end (b : Int) (L : List En) (T : TL) : pen b L T L.length 0 = thEn b L T := ext_en (by rw [pen_len, thEn_len]) fun j hj => by
  rw [pen_len] at hj
  rw [pen_at b L T _ 0 hj, thEn_at b L T hj, if_pos hj]
  congr 1
  refine ext_lk (by rw [pth_len, thL_len]) fun i hi => ?_
  rw [pth_len] at hi
  rw [pth_at _ _ _ _ hi, if_pos hi, thL_at b L T hi]
theorem pen_next (b : Int) (L : List En) (T : TL) {k : Nat} (hk : k < L.length) : pen b L T k (L.getD k en0).1.length = pen b L T (k + 1) 0 := ext_en (by rw [pen_len, pen_len]) fun j hj => by
  rw [pen_len] at hj
  rw [pen_at b L T _ _ hj, pen_at b L T _ _ hj]
  congr 2
  by_cases h1 : j < k
  · rw [if_pos h1, if_pos (by omega)]
  · rw [if_neg h1]
    by_cases h2 : j = k
    · subst h2; rw [if_pos rfl, if_pos (by omega)]
    · rw [if_neg h2, if_neg (by omega)]
      split <;> rfl
theorem pen_set (b : Int) (L : List En) (T : TL) {k i : Nat} (hk : k < L.length) (hi : i < (L.getD k en0).1.length) :
    (pen b L T k i).set k ((((pen b L T k i).getD k en0).1.set i ((((pen b L T k i).getD k en0).1.getD i lk0).1, (TT (b + k) (L.getD k en0).1 (TE b (lksOf L) T k) i ((L.getD k en0).1.getD i lk0).1).getD [])), ((pen b L T k i).getD k en0).2) = pen b L T k (i + 1) := by
  refine ext_en (by rw [List.length_set, pen_len, pen_len]) fun j hj => ?_
  rw [List.length_set, pen_len] at hj
  rw [getD_set_en (by rw [pen_len]; exact hk)]
  by_cases e : k = j
  · subst e
    rw [if_pos rfl, pen_at b L T k (i + 1) hk, pen_at b L T k i hk, if_neg (Nat.lt_irrefl _), if_neg (Nat.lt_irrefl _), if_pos rfl, if_pos rfl]
    dsimp only
    congr 1
    refine ext_lk (by rw [List.length_set, pth_len, pth_len]) fun j hj2 => ?_
    rw [List.length_set, pth_len] at hj2
    rw [List.getD_eq_getElem?_getD, List.getElem?_set, pth_at _ _ _ (i + 1) hj2, pth_len]
    by_cases e : i = j
    · subst e
      rw [if_pos rfl, if_pos hi, if_pos (by omega), pth_str _ _ _ _ hi]
      rfl
    · rw [if_neg e, ← List.getD_eq_getElem?_getD, pth_at _ _ _ i hj2]
      by_cases h2 : j < i
      · rw [if_pos h2, if_pos (by omega)]
      · rw [if_neg h2, if_neg (by omega)]
  · rw [if_neg e, pen_at b L T k i hj, pen_at b L T k (i + 1) hj]
    congr 2
    by_cases h1 : j < k
    · rw [if_pos h1, if_pos h1]
    · rw [if_neg h1, if_neg h1, if_neg (fun h => e h.symm), if_neg (fun h => e h.symm)]
theorem pen_same (b : Int) (L : List En) (T : TL) {k i : Nat} (hk : k < L.length) (hi : i < (L.getD k en0).1.length) (hT : (TT (b + k) (L.getD k en0).1 (TE b (lksOf L) T k) i ((L.getD k en0).1.getD i lk0).1).getD [] = []) : pen b L T k i = pen b L T k (i + 1) := by
  refine ext_en (by rw [pen_len, pen_len]) fun j hj => ?_
  rw [pen_len] at hj
  rw [pen_at b L T k i hj, pen_at b L T k (i + 1) hj]
  by_cases e : j = k
  · subst e
    rw [if_neg (Nat.lt_irrefl _), if_neg (Nat.lt_irrefl _), if_pos rfl, if_pos rfl]
    congr 1
    refine ext_lk (by rw [pth_len, pth_len]) fun j2 hj2 => ?_
    rw [pth_len] at hj2
    rw [pth_at _ _ _ i hj2, pth_at _ _ _ (i + 1) hj2]
    by_cases e : j2 = i
    · subst e
      rw [if_neg (Nat.lt_irrefl _), if_pos (by omega)]
      show _ = ((_, _) : Lk)
      rw [hT]
    · by_cases h2 : j2 < i
      · rw [if_pos h2, if_pos (by omega)]
      · rw [if_neg h2, if_neg (by omega)]
  · congr 2
    by_cases h1 : j < k
    · rw [if_pos h1, if_pos h1]
    · rw [if_neg h1, if_neg h1, if_neg e, if_neg e]
def bcs : List Lk → List Value
  | [] => []
  | x :: l => .int .u64 x.1 :: .slice none 0 0 :: bcs l
theorem bcs_snoc : ∀ (l : List Lk) (x : Lk), bcs (l ++ [x]) = bcs l ++ [.int .u64 x.1, .slice none 0 0]
  | [], x => rfl
  | y :: l, x => by
    show _ :: _ :: bcs (l ++ [x]) = _
    rw [bcs_snoc l x]; rfl
theorem bcs_at : ∀ (l : List Lk) {i : Nat}, i < l.length → (bcs l)[i * 2]? = some (.int .u64 (l.getD i lk0).1) ∧ (bcs l)[i * 2 + 1]? = some (.slice none 0 0)
  | x :: l, 0, _ => ⟨rfl, rfl⟩
  | x :: l, i + 1, h => by
    have := bcs_at l (i := i) (by simpa using h)
    rw [show (i + 1) * 2 = i * 2 + 1 + 1 by omega]
    simpa [bcs] using this
theorem own_blk {w : World} {B e size n : Nat} {v : Value} {xs : List Value} (h : w.ownsRow B e size v n xs) (hn : 0 < n) : ∃ g cap cur, v = .slice (some ⟨g, 0, none⟩) n cap ∧ B ≤ g ∧ n ≤ cap ∧ Blk w g cur e ∧ n * size ≤ cur.size ∧ ∀ (i : Nat) (u : Value), xs[i]? = some u → cur[i]? = some u := by
  rcases h.2 with ⟨_, h0⟩ | ⟨g, cap, cur, e, hg, hh, h1, _, h3, h4⟩
  · omega
  · refine ⟨g, cap, cur, e, hg, h1, hh, by rw [h3]; exact Nat.mul_le_mul_right _ h1, fun i u hu => ?_⟩
    rw [← h4, List.getElem?_take] at hu
    split at hu
    · simpa using hu
    · cases hu
theorem lnr_of {y : Nat} {w : World} {B : Nat} {v : Value} {l : List Lk} (h : w.ownsRow B 51 2 v l.length (bcs l)) (hb : ∀ x ∈ l, 0 ≤ x.1 ∧ x.1 < 18446744073709551616) (hn : 0 < l.length) : ∃ g cap, v = .slice (some ⟨g, 0, none⟩) l.length cap ∧ B ≤ g ∧ l.length ≤ cap ∧ LnR y w g (bareL l) := by
  obtain ⟨g, cap, cur, e, h1, h2, h3, h4, h5⟩ := own_blk h hn
  refine ⟨g, cap, e, h1, h2, cur, h3, by rw [bareL_len]; exact h4, fun j hj => ?_⟩
  rw [bareL_len] at hj
  rw [bareL_at l hj]
  obtain ⟨q1, q2⟩ := bcs_at l hj
  refine ⟨none, 0, h5 _ _ q1, h5 _ _ q2, ?_⟩
  exact LkE.mk (by rw [getD_of hj]; exact hb l[j] (List.getElem_mem _)) rfl (Nat.le_refl _) (fun _ => rfl) (Sq.nil _ _ _ _)
def gkL (xs : List Value) (j : Nat) : Nat := match xs[j * 2]? with
  | some (.slice (some a) _ _) => a.block
  | _ => 0
def BrI (y : Nat) (W w : World) (B : Nat) (v : Value) (L : List En) (i : Nat) (xs : List Value) : Prop :=
  w.ownsRow B 31 2 v i xs ∧ (∀ j, j < i → ∃ a m b kk, xs[j * 2]? = some (.slice a (L.getD j en0).1.length m) ∧ (L.getD j en0).1.length ≤ m ∧ (a = none → m = 0) ∧
    xs[j * 2 + 1]? = some (.slice b (L.getD j en0).2.length kk) ∧ (L.getD j en0).2.length ≤ kk ∧ (b = none → kk = 0) ∧ Bs W b (L.getD j en0).2.length (L.getD j en0).2 ∧ ((∀ x ∈ (L.getD j en0).2, 0 ≤ x ∧ x < 256) ∧ (0 < (L.getD j en0).2.length → ∀ a, b = some a → a.block ≠ y)) ∧
    (0 < (L.getD j en0).1.length → a = some ⟨gkL xs j, 0, none⟩ ∧ LnR y w (gkL xs j) (bareL (L.getD j en0).1) ∧ B ≤ gkL xs j ∧ v.ownBlock ≠ some (gkL xs j))) ∧
  ∀ j j', j < j' → j' < i → 0 < (L.getD j en0).1.length → 0 < (L.getD j' en0).1.length → gkL xs j < gkL xs j'
theorem lnr_bare_keep {y : Nat} {w w' : World} {g : Nat} {l : List Lk} (h : LnR y w g (bareL l)) (hg : w'.heap[g]? = w.heap[g]?) : LnR y w' g (bareL l) := by
  obtain ⟨cur, c1, c2, c3⟩ := h
  refine ⟨cur, hg.trans c1, c2, fun j' hj' => ?_⟩
  obtain ⟨A', m', p1, p2, p3⟩ := c3 j' hj'
  refine ⟨A', m', p1, p2, ?_⟩
  rw [bareL_len] at hj'
  rw [bareL_at _ hj'] at p3 ⊢
  obtain ⟨A1, m1, e, b0, r1, r2, _⟩ := link_parts p3
  injection e with _ e
  injection e with e
  injection e with e1 e2 e3
  subst e1 e3
  exact LkE.mk b0 rfl r1 r2 (Sq.nil _ _ _ _)
theorem BrI.keep {y : Nat} {W w w' : World} {B i : Nat} {v : Value} {L : List En} {xs : List Value} (h : BrI y W w B v L i xs) (hk : ∀ k, B ≤ k → k < w.heap.size → w'.heap[k]? = w.heap[k]?) : BrI y W w' B v L i xs := by
  obtain ⟨h1, h2, h3⟩ := h
  refine ⟨own_block h1 fun k hk' => hk k (own_ge h1 k hk') (World.ownsRow.lt h1 k hk').2, fun j hj => ?_, h3⟩
  obtain ⟨a, m, b, kk, q1, q2, q3, q4, q5, q6, q7, q8, q9⟩ := h2 j hj
  exact ⟨a, m, b, kk, q1, q2, q3, q4, q5, q6, q7, q8, fun h0 => ⟨(q9 h0).1, lnr_bare_keep (q9 h0).2.1 (hk _ (q9 h0).2.2.1 (q9 h0).2.1.lt), (q9 h0).2.2⟩⟩
theorem BrI.below {y : Nat} {W w w' : World} {B i : Nat} {v : Value} {L : List En} {xs : List Value} (h : BrI y W w B v L i xs) (hb : Below w.heap.size w w') : BrI y W w' B v L i xs := h.keep fun k _ hl => hb.block k hl
theorem gkL_app {xs ys : List Value} {j : Nat} (h : j * 2 < xs.length) : gkL (xs ++ ys) j = gkL xs j := by
  unfold gkL
  rw [List.getElem?_append_left h]
theorem BrI.next {y : Nat} {W w w' : World} {B i m kk : Nat} {v v' : Value} {L : List En} {xs : List Value} {a b : Option Addr} (h : BrI y W w B v L i xs) {lo : Nat} (hlo : ∀ k, v.ownBlock = some k → k < lo) (hl2 : ∀ j, j < i → 0 < (L.getD j en0).1.length → gkL xs j < lo) (hBlo : B ≤ lo)
    (hm : (L.getD i en0).1.length ≤ m) (ha : a = none → m = 0) (hkk : (L.getD i en0).2.length ≤ kk) (hbn : b = none → kk = 0) (hB : Bs W b (L.getD i en0).2.length (L.getD i en0).2) (hby : (∀ x ∈ (L.getD i en0).2, 0 ≤ x ∧ x < 256) ∧ (0 < (L.getD i en0).2.length → ∀ a, b = some a → a.block ≠ y))
    (hg : 0 < (L.getD i en0).1.length → ∃ g, a = some ⟨g, 0, none⟩ ∧ LnR y w g (bareL (L.getD i en0).1) ∧ lo ≤ g)
    (ho : w'.ownsRow B 31 2 v' (i + 1) (xs ++ [.slice a (L.getD i en0).1.length m, .slice b (L.getD i en0).2.length kk])) (hgr : w.grownBy w' v.ownBlock) (hr : Gr v.ownBlock v'.ownBlock w) :
    BrI y W w' B v' L (i + 1) (xs ++ [.slice a (L.getD i en0).1.length m, .slice b (L.getD i en0).2.length kk]) := by
  obtain ⟨h1, h2, h3⟩ := h
  have hxs : xs.length = i * 2 := h1.1
  have hlast : 0 < (L.getD i en0).1.length → ∀ g, a = some ⟨g, 0, none⟩ → gkL (xs ++ [.slice a (L.getD i en0).1.length m, .slice b (L.getD i en0).2.length kk]) i = g := fun h0 g e => by
    unfold gkL
    rw [List.getElem?_append_right (by omega), hxs, Nat.sub_self, e]; rfl
  have hne : ∀ g, LnR y w g (bareL (L.getD i en0).1) → lo ≤ g → v'.ownBlock ≠ some g := fun g hl hlg e => by
    rcases hr with e2 | ⟨g', e2, hg'⟩
    · rw [e2] at e; have := hlo g e; omega
    · rw [e2] at e; injection e with e; have := hl.lt; omega
  refine ⟨ho, fun j hj => ?_, fun j j' hjj hj' l1 l2 => ?_⟩
  · by_cases e : j = i
    · subst e
      refine ⟨a, m, b, kk, by rw [List.getElem?_append_right (by omega), hxs, Nat.sub_self]; rfl, hm, ha, by rw [List.getElem?_append_right (by omega), hxs, show j * 2 + 1 - j * 2 = 1 by omega]; rfl, hkk, hbn, hB, hby, fun h0 => ?_⟩
      obtain ⟨g, e, hl, hlg⟩ := hg h0
      rw [hlast h0 g e]
      exact ⟨e, lnr_bare_keep hl (hgr.block g hl.lt fun e => by have := hlo g e.symm; omega), by omega, hne g hl hlg⟩
    · obtain ⟨a', m', b', kk', q1, q2, q3, q4, q5, q6, q7, q8, q9⟩ := h2 j (by omega)
      rw [gkL_app (by omega)]
      refine ⟨a', m', b', kk', by rw [List.getElem?_append_left (by omega)]; exact q1, q2, q3, by rw [List.getElem?_append_left (by omega)]; exact q4, q5, q6, q7, q8, fun h0 => ?_⟩
      obtain ⟨r1, r2, r3, r4⟩ := q9 h0
      refine ⟨r1, lnr_bare_keep r2 (hgr.block _ r2.lt fun e => r4 e.symm), r3, fun e => ?_⟩
      rcases hr with e2 | ⟨g', e2, hg'⟩
      · rw [e2] at e; exact r4 e
      · rw [e2] at e; injection e with e; have := r2.lt; omega
  · by_cases e : j' = i
    · subst e
      obtain ⟨g, e, hl, hlg⟩ := hg l2
      rw [hlast l2 g e, gkL_app (by omega)]
      have := hl2 j hjj l1
      omega
    · rw [gkL_app (by omega), gkL_app (by omega)]
      exact h3 j j' hjj (by omega) l1 l2
theorem BrI.out {y : Nat} {W w : World} {B n : Nat} {v : Value} {L : List En} {xs : List Value} (h : BrI y W w B v L n xs) (hl : L.length = n) (hn : 0 < n) (hb : Below W.heap.size W w) : ∃ g cap cur, v = .slice (some ⟨g, 0, none⟩) n cap ∧ n ≤ cap ∧ B ≤ g ∧ OutR y w g n cur (gkL xs) (bareEn L) ∧ ∀ j, j < n → 0 < (L.getD j en0).1.length → B ≤ gkL xs j := by
  obtain ⟨h1, h2, h3⟩ := h
  obtain ⟨g, cap, cur, e, p1, p2, p3, p4, p5⟩ := own_blk h1 hn
  have hob : v.ownBlock = some g := by rw [e]; rfl
  refine ⟨g, cap, cur, e, p2, p1, ⟨p3, p4, by rw [bareEn_len]; exact hl, fun j hj => ?_, fun j j' hj hj' hne l1 l2 => ?_⟩, fun j hj h0 => ?_⟩
  · obtain ⟨a, m, b, kk, q1, q2, q3, q4, q5, q6, q7, q8, q9⟩ := h2 j hj
    rw [bareEn_at]
    dsimp only
    rw [bareL_len]
    exact ⟨a, m, b, kk, p5 _ _ q1, q2, q3, p5 _ _ q4, q5, q6, q7.below hb, q8, fun h0 => ⟨(q9 h0).1, (q9 h0).2.1, fun e2 => (q9 h0).2.2.2 (by rw [hob, e2])⟩⟩
  · rw [bareEn_at] at l1 l2
    dsimp only at l1 l2
    rw [bareL_len] at l1 l2
    rcases Nat.lt_or_gt_of_ne hne with h4 | h4
    · have := h3 j j' h4 hj' l1 l2; omega
    · have := h3 j' j h4 hj l2 l1; omega
  · obtain ⟨a, m, b, kk, q1, q2, q3, q4, q5, q6, q7, q8, q9⟩ := h2 j hj
    exact (q9 h0).2.2.1
theorem BrI.nil (y : Nat) (W w : World) (B : Nat) (L : List En) : BrI y W w B (.slice none 0 0) L 0 [] := ⟨World.ownsRow_nil w B _ _, fun j hj => by omega, fun j j' _ hj => by omega⟩
end Go.Proofs.Ytoemmppoejaapaa.Cur
