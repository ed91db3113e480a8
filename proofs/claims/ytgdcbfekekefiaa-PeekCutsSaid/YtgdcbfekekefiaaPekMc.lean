/- As the seat's text, without what nothing here names. -/
import Derived.Test.YtgdcbfekekefiaaK33c
namespace Go.Proofs.Ytgdcbfekekefiaa.Cur
open Go.RowKit Mem
set_option linter.unusedVariables false
abbrev TL := Int → Option (List Int)
def tl0 : TL := fun _ => none
def fl (l : List Lk) (s : Int) : Option (List Int) := (l.find? fun x => x.1 == s).map (·.2)
def adv (E : Int → List Int → List Int) (p : Int) (l : List Lk) (T : TL) : TL := fun s => match fl l s with
  | some z => some (E p z)
  | none => T s
def chn (E : Int → List Int → List Int) : Int → List (List Lk) → TL → Prop
  | _, [], _ => True
  | p, l :: Ls, T => (∀ x ∈ l, T x.1 = none ∨ T x.1 = some x.2) ∧ chn E (p + 1) Ls (adv E p l T)
def TLe (T T' : TL) : Prop := ∀ s v, T s = some v → T' s = some v
theorem tle0 (T : TL) : TLe tl0 T := fun s v h => by cases h
theorem adv_mono {E : Int → List Int → List Int} {p : Int} {l : List Lk} {T T' : TL} (h : TLe T T') : TLe (adv E p l T) (adv E p l T') := fun s v hv => by
  unfold adv at hv ⊢
  rcases hf : fl l s with _ | z
  · rw [hf] at hv
    exact h s v hv
  · rw [hf] at hv
    exact hv
theorem chn_mono {E : Int → List Int → List Int} : ∀ {Ls : List (List Lk)} {p : Int} {T T' : TL}, TLe T T' → chn E p Ls T' → chn E p Ls T
  | [], _, _, _, _, _ => trivial
  | l :: Ls, p, T, T', h, hc => ⟨fun x hx => by
      rcases hT : T x.1 with _ | v
      · exact .inl rfl
      · have h2 := h _ _ hT
        rcases hc.1 x hx with h3 | h3
        · rw [h3] at h2; cases h2
        · rw [h3] at h2; exact .inr h2.symm, chn_mono (adv_mono h) hc.2⟩
theorem chn_drop {E : Int → List Int → List Int} : ∀ {Ls : List (List Lk)} {p : Int} {T : TL} (k : Nat), chn E p Ls T → chn E (p + k) (Ls.drop k) tl0
  | Ls, p, T, 0, h => by
    rw [Int.natCast_zero, Int.add_zero, List.drop_zero]
    exact chn_mono (tle0 T) h
  | [], p, T, k + 1, _ => by rw [List.drop_nil]; trivial
  | l :: Ls, p, T, k + 1, h => by
    rw [List.drop_succ_cons, show p + ((k + 1 : Nat) : Int) = p + 1 + k by omega]
    exact chn_drop k h.2
theorem chn_take {E : Int → List Int → List Int} : ∀ {Ls : List (List Lk)} {p : Int} {T : TL} (k : Nat), chn E p Ls T → chn E p (Ls.take k) T
  | _, _, _, 0, _ => by rw [List.take_zero]; trivial
  | [], _, _, k + 1, _ => by rw [List.take_nil]; trivial
  | l :: Ls, p, T, k + 1, h => by
    rw [List.take_succ_cons]
    exact ⟨h.1, chn_take k h.2⟩
theorem chn_cut {E : Int → List Int → List Int} {Ls : List (List Lk)} {p : Int} {T : TL} (f k : Nat) (h : chn E p Ls T) : chn E (p + f) ((Ls.drop f).take k) tl0 := chn_take k (chn_drop f h)
def tlat (E : Int → List Int → List Int) (p : Int) (Ls : List (List Lk)) (T : TL) : Nat → TL
  | 0 => T
  | i + 1 => adv E (p + i) (Ls.getD i []) (tlat E p Ls T i)
theorem tlat_cons (E : Int → List Int → List Int) (p : Int) (l : List Lk) (Ls : List (List Lk)) (T : TL) : ∀ i : Nat, tlat E p (l :: Ls) T (i + 1) = tlat E (p + 1) Ls (adv E p l T) i
  | 0 => by
    show adv E (p + ((0 : Nat) : Int)) l T = adv E p l T
    rw [Int.natCast_zero, Int.add_zero]
  | i + 1 => by
    show adv E (p + ((i + 1 : Nat) : Int)) (Ls.getD i []) (tlat E p (l :: Ls) T (i + 1)) = adv E (p + 1 + i) (Ls.getD i []) (tlat E (p + 1) Ls (adv E p l T) i)
    rw [tlat_cons E p l Ls T i, show p + ((i + 1 : Nat) : Int) = p + 1 + i by omega]
theorem chn_iff {E : Int → List Int → List Int} : ∀ {Ls : List (List Lk)} {p : Int} {T : TL}, chn E p Ls T ↔ ∀ i, i < Ls.length → ∀ x ∈ Ls.getD i [], tlat E p Ls T i x.1 = none ∨ tlat E p Ls T i x.1 = some x.2
  | [], _, _ => ⟨fun _ i hi => by simp at hi, fun _ => trivial⟩
  | l :: Ls, p, T => by
    have ih := chn_iff (E := E) (Ls := Ls) (p := p + 1) (T := adv E p l T)
    constructor
    · rintro ⟨h1, h2⟩ i hi x hx
      rcases i with _ | i
      · exact h1 x hx
      · rw [tlat_cons]
        exact ih.1 h2 i (by simpa using hi) x hx
    · intro h
      refine ⟨fun x hx => h 0 (by simp) x hx, ih.2 fun i hi x hx => ?_⟩
      have := h (i + 1) (by simpa using hi) x hx
      rw [tlat_cons] at this
      exact this
theorem tlat_none {E : Int → List Int → List Int} {p : Int} {Ls : List (List Lk)} {T : TL} {s : Int} : ∀ {i : Nat}, (∀ m, m < i → fl (Ls.getD m []) s = none) → tlat E p Ls T i s = T s
  | 0, _ => rfl
  | i + 1, h => by
    show adv E (p + i) (Ls.getD i []) (tlat E p Ls T i) s = T s
    unfold adv
    rw [h i (by omega)]
    exact tlat_none fun m hm => h m (by omega)
theorem tlat_some {E : Int → List Int → List Int} {p : Int} {Ls : List (List Lk)} {T : TL} {s : Int} {j : Nat} {z : List Int} (hj : fl (Ls.getD j []) s = some z) : ∀ {i : Nat}, j < i → (∀ m, j < m → m < i → fl (Ls.getD m []) s = none) → tlat E p Ls T i s = some (E (p + j) z)
  | i + 1, hi, h => by
    show adv E (p + i) (Ls.getD i []) (tlat E p Ls T i) s = _
    unfold adv
    by_cases e : i = j
    · subst e
      rw [hj]
    · rw [h i (by omega) (by omega)]
      exact tlat_some hj (by omega) fun m h1 h2 => h m h1 (by omega)
theorem fl_cons (x : Lk) (l : List Lk) (s : Int) : fl (x :: l) s = if x.1 = s then some x.2 else fl l s := by
  unfold fl
  by_cases h : x.1 = s
  · rw [if_pos h, List.find?_cons_of_pos (by simpa using h)]; rfl
  · rw [if_neg h, List.find?_cons_of_neg (by simpa using h)]
theorem fl_append (l m : List Lk) (s : Int) : fl (l ++ m) s = match fl l s with
  | some z => some z
  | none => fl m s := by
  induction l with
  | nil => rfl
  | cons x l ih =>
    rw [List.cons_append, fl_cons, fl_cons]
    by_cases h : x.1 = s
    · rw [if_pos h, if_pos h]
    · rw [if_neg h, if_neg h, ih]
theorem fl_fnl : ∀ (L : List Lk) (s : Int), fl L s = if 0 ≤ fnl L s then some (L.getD (fnl L s).toNat lk0).2 else none
  | [], s => by
    rw [if_neg (show ¬ (0 : Int) ≤ fnl [] s from by show ¬ (0 : Int) ≤ -1; decide)]
    rfl
  | x :: L, s => by
    have ih := fl_fnl L s
    rw [fl_cons]
    by_cases h : x.1 = s
    · have e : fnl (x :: L) s = 0 := by unfold fnl; rw [if_pos h]
      rw [if_pos h, e, if_pos (Int.le_refl _)]
      rfl
    · rw [if_neg h, ih]
      by_cases h2 : fnl L s < 0
      · have e : fnl (x :: L) s = -1 := by unfold fnl; rw [if_neg h, if_pos h2]
        rw [e, if_neg (by omega), if_neg (by decide)]
      · have e : fnl (x :: L) s = fnl L s + 1 := by show (if x.1 = s then (0 : Int) else if fnl L s < 0 then -1 else fnl L s + 1) = _; rw [if_neg h, if_neg h2]
        rw [e, if_pos (by omega), if_pos (by omega), show (fnl L s + 1).toNat = (fnl L s).toNat + 1 by omega]
        rfl
theorem fnl_lt : ∀ (L : List Lk) (s : Int), fnl L s < L.length
  | [], s => by show (-1 : Int) < 0; decide
  | x :: L, s => by
    have := fnl_lt L s
    unfold fnl
    rw [List.length_cons]
    split
    · omega
    · split <;> omega
end Go.Proofs.Ytgdcbfekekefiaa.Cur
