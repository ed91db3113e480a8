/- As the seat's text, without what nothing here names. -/
import Derived.Test.YtoemmppoejaapaaK33t
namespace Go.Proofs.Ytoemmppoejaapaa.Cur
open Go.RowKit Mem
set_option linter.unusedVariables false
abbrev TL := Int → Option (List Int)
def tl0 : TL := fun _ => none
def fl (l : List Lk) (s : Int) : Option (List Int) := (l.find? fun x => x.1 == s).map (·.2)
def TLe (T T' : TL) : Prop := ∀ s v, T s = some v → T' s = some v
theorem tle0 (T : TL) : TLe tl0 T := fun s v h => by cases h
theorem fl_cons (x : Lk) (l : List Lk) (s : Int) : fl (x :: l) s = if x.1 = s then some x.2 else fl l s := by
  unfold fl
  by_cases h : x.1 = s
  · rw [if_pos h, List.find?_cons_of_pos (by simpa using h)]; rfl
  · rw [if_neg h, List.find?_cons_of_neg (by simpa using h)]
theorem fl_append (l m : List Lk) (s : Int) : fl (l ++ m) s = match fl l s with
  | some z => some z
  | none => fl m s := by
  induction l with
  | nil => rfl
  | cons x l ih =>
    rw [List.cons_append, fl_cons, fl_cons]
    by_cases h : x.1 = s
    · rw [if_pos h, if_pos h]
    · rw [if_neg h, if_neg h, ih]
theorem fl_set {t : Lk} : ∀ {L : List Lk} {k : Nat}, k < L.length → fnl L t.1 = k → ∀ s, fl (L.set k t) s = if s = t.1 then some t.2 else fl L s
  | [], k, hk, _, _ => by simp at hk
  | x :: L, 0, _, hf, s => by
    have hx : x.1 = t.1 := by
      by_cases h : x.1 = t.1
      · exact h
      · exfalso
        unfold fnl at hf
        split at hf
        · rename_i h2; exact h h2
        · split at hf <;> omega
    rw [List.set_cons_zero, fl_cons, fl_cons, hx]
    by_cases h : t.1 = s
    · rw [if_pos h, if_pos h.symm]
    · rw [if_neg h, if_neg (fun e => h e.symm), if_neg h]
  | x :: L, k + 1, hk, hf, s => by
    unfold fnl at hf
    split at hf
    · omega
    · rename_i h2
      have hf2 : fnl L t.1 = k := by split at hf <;> omega
      rw [List.set_cons_succ, fl_cons, fl_cons, fl_set (by simpa using hk) hf2 s]
      by_cases h : x.1 = s
      · rw [if_pos h, if_pos h, if_neg (fun e => h2 (by rw [h, e]))]
      · rw [if_neg h, if_neg h]
theorem fl_fnl : ∀ (L : List Lk) (s : Int), fl L s = if 0 ≤ fnl L s then some (L.getD (fnl L s).toNat lk0).2 else none
  | [], s => by
    rw [if_neg (show ¬ (0 : Int) ≤ fnl [] s from by show ¬ (0 : Int) ≤ -1; decide)]
    rfl
  | x :: L, s => by
    have ih := fl_fnl L s
    rw [fl_cons]
    by_cases h : x.1 = s
    · have e : fnl (x :: L) s = 0 := by unfold fnl; rw [if_pos h]
      rw [if_pos h, e, if_pos (Int.le_refl _)]
      rfl
    · rw [if_neg h, ih]
      by_cases h2 : fnl L s < 0
      · have e : fnl (x :: L) s = -1 := by unfold fnl; rw [if_neg h, if_pos h2]
        rw [e, if_neg (by omega), if_neg (by decide)]
      · have e : fnl (x :: L) s = fnl L s + 1 := by show (if x.1 = s then (0 : Int) else if fnl L s < 0 then -1 else fnl L s + 1) = _; rw [if_neg h, if_neg h2]
        rw [e, if_pos (by omega), if_pos (by omega), show (fnl L s + 1).toNat = (fnl L s).toNat + 1 by omega]
        rfl
theorem fnl_lt : ∀ (L : List Lk) (s : Int), fnl L s < L.length
  | [], s => by show (-1 : Int) < 0; decide
  | x :: L, s => by
    have := fnl_lt L s
    unfold fnl
    rw [List.length_cons]
    split
    · omega
    · split <;> omega
theorem fl_wth (L : List Lk) (t : Lk) (s : Int) : fl (wth L t) s = if s = t.1 then some t.2 else fl L s := by
  unfold wth
  by_cases h : 0 ≤ fnl L t.1
  · rw [if_pos h]
    have := fnl_lt L t.1
    exact fl_set (by omega) (by omega) s
  · rw [if_neg h]
    have hn : fl L t.1 = none := by rw [fl_fnl, if_neg h]
    have hL : ∀ x, fl L x = match fl (L.take (gtl L t.1)) x with
        | some z => some z
        | none => fl (L.drop (gtl L t.1)) x := fun x => by rw [← fl_append, List.take_append_drop]
    rw [fl_append, fl_cons, hL s]
    by_cases e : s = t.1
    · subst e
      rw [hL t.1] at hn
      rw [if_pos rfl, if_pos rfl]
      rcases hf : fl (L.take (gtl L t.1)) t.1 with _ | z
      · rfl
      · rw [hf] at hn; cases hn
    · rw [if_neg e, if_neg (fun e2 => e e2.symm)]
end Go.Proofs.Ytoemmppoejaapaa.Cur
