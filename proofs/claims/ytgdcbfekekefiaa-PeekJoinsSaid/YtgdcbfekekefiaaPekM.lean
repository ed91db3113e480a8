/- Threads, laid ahead: the tails as a function of the stream; which rows of links are chained; what threading makes of them. E p z: backs extended at a position. -/
import Derived.Test.YtgdcbfekekefiaaK33
namespace Go.Proofs.Ytgdcbfekekefiaa.Cur
open Go.RowKit Mem
set_option linter.unusedVariables false

/-- The tails: the backs that the next link of a stream gets, if there is a tail of it. -/
abbrev TL := Int → Option (List Int)
def tl0 : TL := fun _ => none
/-- The backs of the first link of a stream. -/
def fl (l : List Lk) (s : Int) : Option (List Int) := (l.find? fun x => x.1 == s).map (·.2)
/-- The tails behind an entry with these links. -/
def adv (E : Int → List Int → List Int) (p : Int) (l : List Lk) (T : TL) : TL := fun s => match fl l s with
  | some z => some (E p z)
  | none => T s
/-- Are entries chained, from a position and from tails on? -/
def chn (E : Int → List Int → List Int) : Int → List (List Lk) → TL → Prop
  | _, [], _ => True
  | p, l :: Ls, T => (∀ x ∈ l, T x.1 = none ∨ T x.1 = some x.2) ∧ chn E (p + 1) Ls (adv E p l T)
def TLe (T T' : TL) : Prop := ∀ s v, T s = some v → T' s = some v
theorem tle0 (T : TL) : TLe tl0 T := fun s v h => by cases h
theorem adv_mono {E : Int → List Int → List Int} {p : Int} {l : List Lk} {T T' : TL} (h : TLe T T') : TLe (adv E p l T) (adv E p l T') := fun s v hv => by
  unfold adv at hv ⊢
  rcases hf : fl l s with _ | z
  · rw [hf] at hv
    exact h s v hv
  · rw [hf] at hv
    exact hv
theorem chn_mono {E : Int → List Int → List Int} : ∀ {Ls : List (List Lk)} {p : Int} {T T' : TL}, TLe T T' → chn E p Ls T' → chn E p Ls T
  | [], _, _, _, _, _ => trivial
  | l :: Ls, p, T, T', h, hc => ⟨fun x hx => by
      rcases hT : T x.1 with _ | v
      · exact .inl rfl
      · have h2 := h _ _ hT
        rcases hc.1 x hx with h3 | h3
        · rw [h3] at h2; cases h2
        · rw [h3] at h2; exact .inr h2.symm, chn_mono (adv_mono h) hc.2⟩
theorem chn_drop {E : Int → List Int → List Int} : ∀ {Ls : List (List Lk)} {p : Int} {T : TL} (k : Nat), chn E p Ls T → chn E (p + k) (Ls.drop k) tl0
  | Ls, p, T, 0, h => by
    rw [Int.natCast_zero, Int.add_zero, List.drop_zero]
    exact chn_mono (tle0 T) h
  | [], p, T, k + 1, _ => by rw [List.drop_nil]; trivial
  | l :: Ls, p, T, k + 1, h => by
    rw [List.drop_succ_cons, show p + ((k + 1 : Nat) : Int) = p + 1 + k by omega]
    exact chn_drop k h.2
theorem chn_take {E : Int → List Int → List Int} : ∀ {Ls : List (List Lk)} {p : Int} {T : TL} (k : Nat), chn E p Ls T → chn E p (Ls.take k) T
  | _, _, _, 0, _ => by rw [List.take_zero]; trivial
  | [], _, _, k + 1, _ => by rw [List.take_nil]; trivial
  | l :: Ls, p, T, k + 1, h => by
    rw [List.take_succ_cons]
    exact ⟨h.1, chn_take k h.2⟩
/-- WHAT IS CUT OUT OF A CHAINED ONE IS CHAINED. -/
theorem chn_cut {E : Int → List Int → List Int} {Ls : List (List Lk)} {p : Int} {T : TL} (f k : Nat) (h : chn E p Ls T) : chn E (p + f) ((Ls.drop f).take k) tl0 := chn_take k (chn_drop f h)
/-- Links with the tails' backs. -/
def thl (T : TL) (l : List Lk) : List Lk := l.map fun x => (x.1, (T x.1).getD [])
/-- Threaded entries. -/
def thr (E : Int → List Int → List Int) : Int → List (List Lk) → TL → List (List Lk)
  | _, [], _ => []
  | p, l :: Ls, T => thl T l :: thr E (p + 1) Ls (adv E p (thl T l) T)
/-- The tails in the end. -/
def tho (E : Int → List Int → List Int) : Int → List (List Lk) → TL → TL
  | _, [], T => T
  | p, l :: Ls, T => tho E (p + 1) Ls (adv E p (thl T l) T)
theorem thl_thl (T : TL) (l : List Lk) : thl T (thl T l) = thl T l := by
  unfold thl
  rw [List.map_map]
  rfl
theorem thr_length (E : Int → List Int → List Int) : ∀ (Ls : List (List Lk)) (p : Int) (T : TL), (thr E p Ls T).length = Ls.length
  | [], _, _ => rfl
  | l :: Ls, p, T => by show (thr E (p + 1) Ls _).length + 1 = Ls.length + 1; rw [thr_length]
/-- A THREADED ONE IS CHAINED, .. -/
theorem thr_chn (E : Int → List Int → List Int) : ∀ (Ls : List (List Lk)) (p : Int) (T : TL), chn E p (thr E p Ls T) T
  | [], _, _ => trivial
  | l :: Ls, p, T => ⟨fun x hx => by
      obtain ⟨y, _, rfl⟩ := List.mem_map.1 hx
      show T y.1 = none ∨ T y.1 = some ((T y.1).getD [])
      rcases T y.1 with _ | v
      · exact .inl rfl
      · exact .inr rfl, thr_chn E Ls (p + 1) _⟩
/-- .. and, threaded once more by the same tails, the same. -/
theorem thr_thr (E : Int → List Int → List Int) : ∀ (Ls : List (List Lk)) (p : Int) (T : TL), thr E p (thr E p Ls T) T = thr E p Ls T ∧ tho E p (thr E p Ls T) T = tho E p Ls T
  | [], _, _ => ⟨rfl, rfl⟩
  | l :: Ls, p, T => by
    obtain ⟨h1, h2⟩ := thr_thr E Ls (p + 1) (adv E p (thl T l) T)
    refine ⟨?_, ?_⟩
    · show thl T (thl T l) :: thr E (p + 1) (thr E (p + 1) Ls (adv E p (thl T l) T)) (adv E p (thl T (thl T l)) T) = thl T l :: thr E (p + 1) Ls (adv E p (thl T l) T)
      rw [thl_thl, h1]
    · show tho E (p + 1) (thr E (p + 1) Ls (adv E p (thl T l) T)) (adv E p (thl T (thl T l)) T) = tho E (p + 1) Ls (adv E p (thl T l) T)
      rw [thl_thl, h2]
theorem chn_from0 {E : Int → List Int → List Int} {Ls : List (List Lk)} {p : Int} {T : TL} (h : chn E p Ls T) : chn E p Ls tl0 := chn_mono (tle0 T) h
/-- The tails ahead of entry i. -/
def tlat (E : Int → List Int → List Int) (p : Int) (Ls : List (List Lk)) (T : TL) : Nat → TL
  | 0 => T
  | i + 1 => adv E (p + i) (Ls.getD i []) (tlat E p Ls T i)
theorem tlat_cons (E : Int → List Int → List Int) (p : Int) (l : List Lk) (Ls : List (List Lk)) (T : TL) : ∀ i : Nat, tlat E p (l :: Ls) T (i + 1) = tlat E (p + 1) Ls (adv E p l T) i
  | 0 => by
    show adv E (p + ((0 : Nat) : Int)) l T = adv E p l T
    rw [Int.natCast_zero, Int.add_zero]
  | i + 1 => by
    show adv E (p + ((i + 1 : Nat) : Int)) (Ls.getD i []) (tlat E p (l :: Ls) T (i + 1)) = adv E (p + 1 + i) (Ls.getD i []) (tlat E (p + 1) Ls (adv E p l T) i)
    rw [tlat_cons E p l Ls T i, show p + ((i + 1 : Nat) : Int) = p + 1 + i by omega]
/-- CHAINED is: each link has what the tails ahead of its entry say. -/
theorem chn_iff {E : Int → List Int → List Int} : ∀ {Ls : List (List Lk)} {p : Int} {T : TL}, chn E p Ls T ↔ ∀ i, i < Ls.length → ∀ x ∈ Ls.getD i [], tlat E p Ls T i x.1 = none ∨ tlat E p Ls T i x.1 = some x.2
  | [], _, _ => ⟨fun _ i hi => by simp at hi, fun _ => trivial⟩
  | l :: Ls, p, T => by
    have ih := chn_iff (E := E) (Ls := Ls) (p := p + 1) (T := adv E p l T)
    constructor
    · rintro ⟨h1, h2⟩ i hi x hx
      rcases i with _ | i
      · exact h1 x hx
      · rw [tlat_cons]
        exact ih.1 h2 i (by simpa using hi) x hx
    · intro h
      refine ⟨fun x hx => h 0 (by simp) x hx, ih.2 fun i hi x hx => ?_⟩
      have := h (i + 1) (by simpa using hi) x hx
      rw [tlat_cons] at this
      exact this
theorem tlat_none {E : Int → List Int → List Int} {p : Int} {Ls : List (List Lk)} {T : TL} {s : Int} : ∀ {i : Nat}, (∀ m, m < i → fl (Ls.getD m []) s = none) → tlat E p Ls T i s = T s
  | 0, _ => rfl
  | i + 1, h => by
    show adv E (p + i) (Ls.getD i []) (tlat E p Ls T i) s = T s
    unfold adv
    rw [h i (by omega)]
    exact tlat_none fun m hm => h m (by omega)
/-- The last entry ahead that has a link of the stream tells it. -/
theorem tlat_some {E : Int → List Int → List Int} {p : Int} {Ls : List (List Lk)} {T : TL} {s : Int} {j : Nat} {z : List Int} (hj : fl (Ls.getD j []) s = some z) : ∀ {i : Nat}, j < i → (∀ m, j < m → m < i → fl (Ls.getD m []) s = none) → tlat E p Ls T i s = some (E (p + j) z)
  | i + 1, hi, h => by
    show adv E (p + i) (Ls.getD i []) (tlat E p Ls T i) s = _
    unfold adv
    by_cases e : i = j
    · subst e
      rw [hj]
    · rw [h i (by omega) (by omega)]
      exact tlat_some hj (by omega) fun m h1 h2 => h m h1 (by omega)
theorem fl_cons (x : Lk) (l : List Lk) (s : Int) : fl (x :: l) s = if x.1 = s then some x.2 else fl l s := by
  unfold fl
  by_cases h : x.1 = s
  · rw [if_pos h, List.find?_cons_of_pos (by simpa using h)]; rfl
  · rw [if_neg h, List.find?_cons_of_neg (by simpa using h)]
theorem fl_append (l m : List Lk) (s : Int) : fl (l ++ m) s = match fl l s with
  | some z => some z
  | none => fl m s := by
  induction l with
  | nil => rfl
  | cons x l ih =>
    rw [List.cons_append, fl_cons, fl_cons]
    by_cases h : x.1 = s
    · rw [if_pos h, if_pos h]
    · rw [if_neg h, if_neg h, ih]
theorem fl_set {t : Lk} : ∀ {L : List Lk} {k : Nat}, k < L.length → fnl L t.1 = k → ∀ s, fl (L.set k t) s = if s = t.1 then some t.2 else fl L s
  | [], k, hk, _, _ => by simp at hk
  | x :: L, 0, _, hf, s => by
    have hx : x.1 = t.1 := by
      by_cases h : x.1 = t.1
      · exact h
      · exfalso
        unfold fnl at hf
        split at hf
        · rename_i h2; exact h h2
        · split at hf <;> omega
    rw [List.set_cons_zero, fl_cons, fl_cons, hx]
    by_cases h : t.1 = s
    · rw [if_pos h, if_pos h.symm]
    · rw [if_neg h, if_neg (fun e => h e.symm), if_neg h]
  | x :: L, k + 1, hk, hf, s => by
    unfold fnl at hf
    split at hf
    · omega
    · rename_i h2
      have hf2 : fnl L t.1 = k := by split at hf <;> omega
      rw [List.set_cons_succ, fl_cons, fl_cons, fl_set (by simpa using hk) hf2 s]
      by_cases h : x.1 = s
      · rw [if_pos h, if_pos h, if_neg (fun e => h2 (by rw [h, e]))]
      · rw [if_neg h, if_neg h]
theorem fl_fnl : ∀ (L : List Lk) (s : Int), fl L s = if 0 ≤ fnl L s then some (L.getD (fnl L s).toNat lk0).2 else none
  | [], s => by
    rw [if_neg (show ¬ (0 : Int) ≤ fnl [] s from by show ¬ (0 : Int) ≤ -1; decide)]
    rfl
  | x :: L, s => by
    have ih := fl_fnl L s
    rw [fl_cons]
    by_cases h : x.1 = s
    · have e : fnl (x :: L) s = 0 := by unfold fnl; rw [if_pos h]
      rw [if_pos h, e, if_pos (Int.le_refl _)]
      rfl
    · rw [if_neg h, ih]
      by_cases h2 : fnl L s < 0
      · have e : fnl (x :: L) s = -1 := by unfold fnl; rw [if_neg h, if_pos h2]
        rw [e, if_neg (by omega), if_neg (by decide)]
      · have e : fnl (x :: L) s = fnl L s + 1 := by show (if x.1 = s then (0 : Int) else if fnl L s < 0 then -1 else fnl L s + 1) = _; rw [if_neg h, if_neg h2]
        rw [e, if_pos (by omega), if_pos (by omega), show (fnl L s + 1).toNat = (fnl L s).toNat + 1 by omega]
        rfl
theorem fnl_lt : ∀ (L : List Lk) (s : Int), fnl L s < L.length
  | [], s => by show (-1 : Int) < 0; decide
  | x :: L, s => by
    have := fnl_lt L s
    unfold fnl
    rw [List.length_cons]
    split
    · omega
    · split <;> omega
/-- The tails with one more. -/
theorem fl_wth (L : List Lk) (t : Lk) (s : Int) : fl (wth L t) s = if s = t.1 then some t.2 else fl L s := by
  unfold wth
  by_cases h : 0 ≤ fnl L t.1
  · rw [if_pos h]
    have := fnl_lt L t.1
    exact fl_set (by omega) (by omega) s
  · rw [if_neg h]
    have hn : fl L t.1 = none := by rw [fl_fnl, if_neg h]
    have hL : ∀ x, fl L x = match fl (L.take (gtl L t.1)) x with
        | some z => some z
        | none => fl (L.drop (gtl L t.1)) x := fun x => by rw [← fl_append, List.take_append_drop]
    rw [fl_append, fl_cons, hL s]
    by_cases e : s = t.1
    · subst e
      rw [hL t.1] at hn
      rw [if_pos rfl, if_pos rfl]
      rcases hf : fl (L.take (gtl L t.1)) t.1 with _ | z
      · rfl
      · rw [hf] at hn; cases hn
    · rw [if_neg e, if_neg (fun e2 => e e2.symm)]
/-- Threading by a list of tails: a link after a link. -/
def thx (p : Int) : List Lk → List Lk → List Lk × List Lk
  | [], ts => ([], ts)
  | x :: l, ts =>
    let y : Lk := (x.1, (fl ts x.1).getD [])
    let r := thx p l (wth ts (ext p y))
    (y :: r.1, r.2)
/-- Where an entry's streams differ, that is threading by the tails ahead of the entry. -/
theorem thx_is (p : Int) : ∀ (l ts : List Lk) (T : TL), (∀ x ∈ l, fl ts x.1 = T x.1) → l.Pairwise (fun x y => x.1 ≠ y.1) → (thx p l ts).1 = thl T l ∧ ∀ s, fl (thx p l ts).2 s = match fl (thl T l) s with
    | some z => some (p :: z.take 3)
    | none => fl ts s
  | [], ts, T, _, _ => ⟨rfl, fun s => rfl⟩
  | x :: l, ts, T, h, hp => by
    obtain ⟨p1, p2⟩ := List.pairwise_cons.1 hp
    have hx := h x (by simp)
    obtain ⟨i1, i2⟩ := thx_is p l (wth ts (ext p (x.1, (fl ts x.1).getD []))) T (fun y hy => by
      rw [fl_wth, if_neg (fun e => p1 y hy (by rw [e]; rfl))]
      exact h y (by simp [hy])) p2
    have hy : ((x.1, (fl ts x.1).getD []) : Lk) = (x.1, (T x.1).getD []) := by rw [hx]
    refine ⟨?_, fun s => ?_⟩
    · show (x.1, (fl ts x.1).getD []) :: (thx p l (wth ts (ext p (x.1, (fl ts x.1).getD [])))).1 = (x.1, (T x.1).getD []) :: thl T l
      rw [i1, hy]
    · show fl (thx p l (wth ts (ext p (x.1, (fl ts x.1).getD [])))).2 s = match fl ((x.1, (T x.1).getD []) :: thl T l) s with
        | some z => some (p :: z.take 3)
        | none => fl ts s
      rw [i2 s, fl_cons, fl_wth]
      by_cases e : x.1 = s
      · subst e
        have hnone : fl (thl T l) x.1 = none := by
          unfold fl
          rw [List.find?_eq_none.2 (fun y hy2 => by
            obtain ⟨u, hu, rfl⟩ := List.mem_map.1 hy2
            have := p1 u hu
            simp
            exact fun e => this e.symm)]
          rfl
        rw [hnone, if_pos rfl]
        show (if x.1 = x.1 then some (ext p (x.1, (fl ts x.1).getD [])).2 else fl ts x.1) = some (p :: ((T x.1).getD []).take 3)
        rw [if_pos rfl, hx]
        rfl
      · rw [if_neg e]
        rcases fl (thl T l) s with _ | z
        · show (if s = x.1 then _ else fl ts s) = fl ts s
          rw [if_neg (fun h => e h.symm)]
        · rfl
end Go.Proofs.Ytgdcbfekekefiaa.Cur
