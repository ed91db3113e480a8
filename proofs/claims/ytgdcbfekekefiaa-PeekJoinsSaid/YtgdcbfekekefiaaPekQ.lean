/- Peek: chained, as the document looks for it (plain). -/
import Derived.Test.YtgdcbfekekefiaaPekO
namespace Go.Proofs.Ytgdcbfekekefiaa.Cur
open Go.RowKit Mem
set_option linter.unusedVariables false
set_option maxRecDepth 100000

def exb (p : Int) (z : List Int) : List Int := p :: z.take 3
theorem lks_above {pos : Int} : ∀ {l : List Lk} {pr : Int}, lks pos pr l = true → ∀ x ∈ l, pr < x.1
  | [], _, _, x, hx => by cases hx
  | s :: l, pr, h, x, hx => by
    obtain ⟨h1, _, _, h4⟩ := lks_parts h
    rcases List.mem_cons.1 hx with rfl | hx
    · exact h1
    · have := lks_above h4 x hx
      omega
theorem lks_pw {pos : Int} : ∀ {l : List Lk} {pr : Int}, lks pos pr l = true → l.Pairwise (fun x y => x.1 ≠ y.1)
  | [], _, _ => List.Pairwise.nil
  | s :: l, pr, h => by
    obtain ⟨h1, _, _, h4⟩ := lks_parts h
    exact List.pairwise_cons.2 ⟨fun y hy => by have := lks_above h4 y hy; omega, lks_pw h4⟩
theorem fl_new {l : List Lk} (hd : l.Pairwise (fun x y => x.1 ≠ y.1)) {i : Nat} (hi : i < l.length) : fl (l.take i) (l.getD i lk0).1 = none := fl_none fun x hx => by
  obtain ⟨j, hj, rfl⟩ := List.mem_iff_getElem.1 hx
  rw [List.length_take] at hj
  rw [List.getElem_take, List.getD_eq_getElem?_getD, List.getElem?_eq_getElem hi]
  exact List.pairwise_iff_getElem.1 hd j i (by omega) hi (by omega)
theorem ct_is {p : Int} {l : List Lk} {T : TL} (hd : l.Pairwise (fun x y => x.1 ≠ y.1)) : ∀ i, i ≤ l.length → ∀ s, CT p l T i s = match fl (l.take i) s with
    | some z => some (exb p z)
    | none => T s
  | 0, _, s => rfl
  | i + 1, hi, s => by
    have e : l.take (i + 1) = l.take i ++ [l.getD i lk0] := by
      rw [List.take_add_one, List.getElem?_eq_getElem (by omega), List.getD_eq_getElem?_getD, List.getElem?_eq_getElem (by omega)]; rfl
    show (if s = (l.getD i lk0).1 then some (p :: (l.getD i lk0).2.take 3) else CT p l T i s) = _
    rw [ct_is hd i (by omega) s, e, fl_append, fl_cons]
    by_cases h : s = (l.getD i lk0).1
    · subst h
      rw [fl_new hd (by omega), if_pos rfl, if_pos rfl]; rfl
    · rw [if_neg h, if_neg (fun e => h e.symm)]
      cases fl (l.take i) s <;> rfl
theorem ce_is {b : Int} {Ls : List (List Lk)} (hd : ∀ k, (Ls.getD k []).Pairwise (fun x y => x.1 ≠ y.1)) : ∀ k s, CE b Ls tl0 k s = tlat exb b Ls tl0 k s
  | 0, s => rfl
  | k + 1, s => by
    show CT (b + k) (Ls.getD k []) (CE b Ls tl0 k) (Ls.getD k []).length s = adv exb (b + k) (Ls.getD k []) (tlat exb b Ls tl0 k) s
    rw [ct_is (hd k) _ (Nat.le_refl _), List.take_length]
    unfold adv
    rw [ce_is hd k s]
    cases fl (Ls.getD k []) s <;> rfl
theorem cok_iff {p : Int} {l : List Lk} {T : TL} (hd : l.Pairwise (fun x y => x.1 ≠ y.1)) : ∀ i, i ≤ l.length → (cok p l T i = true ↔ ∀ j, j < i → cgo T (l.getD j lk0) = true)
  | 0, _ => ⟨fun _ j hj => by omega, fun _ => rfl⟩
  | i + 1, hi => by
    have h1 : cgo (CT p l T i) (l.getD i lk0) = cgo T (l.getD i lk0) := by
      unfold cgo
      rw [ct_is hd i (by omega), fl_new hd (by omega)]
    show (cok p l T i && cgo (CT p l T i) (l.getD i lk0)) = true ↔ _
    rw [h1, Bool.and_eq_true, cok_iff hd i (by omega)]
    refine ⟨fun h j hj => ?_, fun h => ⟨fun j hj => h j (by omega), h i (by omega)⟩⟩
    by_cases e : j = i
    · subst e; exact h.2
    · exact h.1 j (by omega)
theorem coe_iff {b : Int} {Ls : List (List Lk)} (hd : ∀ k, (Ls.getD k []).Pairwise (fun x y => x.1 ≠ y.1)) : ∀ n, (coe b Ls tl0 n = true ↔ ∀ i, i < n → ∀ j, j < (Ls.getD i []).length → cgo (tlat exb b Ls tl0 i) ((Ls.getD i []).getD j lk0) = true)
  | 0 => ⟨fun _ i hi => by omega, fun _ => rfl⟩
  | n + 1 => by
    have e : CE b Ls tl0 n = tlat exb b Ls tl0 n := funext fun s => ce_is hd n s
    show (coe b Ls tl0 n && cok (b + n) (Ls.getD n []) (CE b Ls tl0 n) (Ls.getD n []).length) = true ↔ _
    rw [Bool.and_eq_true, coe_iff hd n, cok_iff (hd n) _ (Nat.le_refl _), e]
    refine ⟨fun h i hi j hj => ?_, fun h => ⟨fun i hi => h i (by omega), fun j hj => h n (by omega) j hj⟩⟩
    by_cases e : i = n
    · subst e; exact h.2 j hj
    · exact h.1 i (by omega) j hj
theorem btk_pw {e b : Int} {L : List En} (h : btk (e, b, L) = true) (k : Nat) : ((lksOf L).getD k []).Pairwise (fun x y => x.1 ≠ y.1) := by
  rw [lksOf_at]
  by_cases hk : k < L.length
  · unfold btk at h
    simp only [Bool.and_eq_true] at h
    have h2 := enall_at h.2 k hk
    unfold enok lkok at h2
    simp only [Bool.and_eq_true] at h2
    exact lks_pw h2.2.2
  · rw [List.getD_eq_getElem?_getD, List.getElem?_eq_none (by omega)]
    exact List.Pairwise.nil
/-- The document's way to say it. -/
theorem chnb_iff {e b : Int} {L : List En} (h : btk (e, b, L) = true) : chnb e b L = true ↔ ∀ i, i < L.length → ∀ j, j < (L.getD i en0).1.length → cgo (tlat exb b (lksOf L) tl0 i) ((L.getD i en0).1.getD j lk0) = true := by
  unfold chnb
  rw [h, Bool.true_and, coe_iff (btk_pw h)]
  constructor
  · intro h2 i hi j hj
    have := h2 i hi j (by rw [lksOf_at]; exact hj)
    rw [lksOf_at] at this
    exact this
  · intro h2 i hi j hj
    rw [lksOf_at] at hj ⊢
    exact h2 i hi j hj
/-- No entry ahead has a link of the stream. -/
theorem cgo_none {b : Int} {L : List En} {i : Nat} {x : Lk} (h : ∀ m, m < i → fnl (L.getD m en0).1 x.1 < 0) : cgo (tlat exb b (lksOf L) tl0 i) x = true := by
  unfold cgo
  rw [tlat_none (fun m hm => by rw [lksOf_at, fl_fnl, if_neg (by have := h m hm; omega)])]
  rfl
/-- The last entry ahead that has one tells it. -/
theorem cgo_some {b : Int} {L : List En} {i j : Nat} {x : Lk} (hj : 0 ≤ fnl (L.getD j en0).1 x.1) (hji : j < i) (h : ∀ m, j < m → m < i → fnl (L.getD m en0).1 x.1 < 0) :
    cgo (tlat exb b (lksOf L) tl0 i) x = decide (x.2 = (b + j) :: ((L.getD j en0).1.getD (fnl (L.getD j en0).1 x.1).toNat lk0).2.take 3) := by
  have h1 : fl ((lksOf L).getD j []) x.1 = some ((L.getD j en0).1.getD (fnl (L.getD j en0).1 x.1).toNat lk0).2 := by rw [lksOf_at, fl_fnl, if_pos hj]
  unfold cgo
  rw [tlat_some h1 hji (fun m h2 h3 => by rw [lksOf_at, fl_fnl, if_neg (by have := h m h2 h3; omega)])]
  rfl
end Go.Proofs.Ytgdcbfekekefiaa.Cur
