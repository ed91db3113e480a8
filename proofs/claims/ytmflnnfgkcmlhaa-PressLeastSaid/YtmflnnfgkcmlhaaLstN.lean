/- The least tokens, plain facts of the steps. -/
import Derived.Test.YtmflnnfgkcmlhaaLstG
namespace Go.Proofs.Ytmflnnfgkcmlhaa.Cur
open Go.RowKit Mem
set_option linter.unusedVariables false
set_option maxRecDepth 100000

theorem up3_at (f : Nat → Int) (a : Nat) (t : Int × Int × Int) : up3 f a t (a * 3) = t.1 ∧ up3 f a t (a * 3 + 1) = t.2.1 ∧ up3 f a t (a * 3 + 2) = t.2.2 := by
  unfold up3 upd
  exact ⟨by rw [if_neg (by omega), if_neg (by omega), if_pos rfl], by rw [if_neg (by omega), if_pos rfl], by rw [if_pos rfl]⟩
theorem up3_ne {f : Nat → Int} {a i : Nat} {t : Int × Int × Int} (h : i / 3 ≠ a) : up3 f a t i = f i := by
  unfold up3 upd
  rw [if_neg (by omega), if_neg (by omega), if_neg (by omega)]
theorem cst_old {z : List Int} {i : Nat} : ∀ {k j : Nat}, z.length - k ≤ i / 3 → k ≤ j → j ≤ z.length → (cst z j).1 i = (cst z k).1 i ∧ (cst z j).2 i = (cst z k).2 i
  | k, 0, h, hj, _ => by obtain rfl : k = 0 := by omega
                         exact ⟨rfl, rfl⟩
  | k, j + 1, h, hj, hl => by
    by_cases e : k = j + 1
    · rw [e]; exact ⟨rfl, rfl⟩
    · obtain ⟨h1, h2⟩ := cst_old (z := z) (i := i) (k := k) (j := j) h (by omega) (by omega)
      rw [cst]
      exact ⟨(up3_ne (by omega)).trans h1, (up3_ne (by omega)).trans h2⟩
theorem stf_congr {g g' : Nat → Int} {o : Int} {lo : Nat} : ∀ {j : Nat}, (∀ i, i < j → g (lo + i) = g' (lo + i)) → stf g o lo j = stf g' o lo j
  | 0, _ => rfl
  | j + 1, h => by rw [stf, stf, stf_congr (j := j) (fun i hi => h i (by omega)), h j (by omega)]
def Fz (z : List Int) : Nat → Int := (cst z z.length).1
def Cz (z : List Int) : Nat → Int := (cst z z.length).2
def trp (f : Nat → Int) (a : Nat) : Int × Int × Int := (f (a * 3), f (a * 3 + 1), f (a * 3 + 2))
theorem trp_up3 (f : Nat → Int) (a : Nat) (t : Int × Int × Int) : trp (up3 f a t) a = t := by
  obtain ⟨h1, h2, h3⟩ := up3_at f a t
  unfold trp
  rw [h1, h2, h3]
/-- What stands at a place, by what stands behind it. -/
theorem cst_at {z : List Int} {a : Nat} (h : a < z.length) : trp (Cz z) a = bcp z (Fz z) a ∧ trp (Fz z) a = lss (bcp z (Fz z) a) (brn z (Cz z) a) := by
  obtain ⟨k, hk, hk2⟩ : ∃ k, a = z.length - (k + 1) ∧ k + 1 ≤ z.length := ⟨z.length - a - 1, by omega, by omega⟩
  have hold : ∀ i, i / 3 = a → Fz z i = (cst z (k + 1)).1 i ∧ Cz z i = (cst z (k + 1)).2 i := fun i hi => cst_old (z := z) (i := i) (k := k + 1) (j := z.length) (by omega) hk2 (Nat.le_refl _)
  have hbeh : ∀ i, a < i / 3 → Fz z i = (cst z k).1 i ∧ Cz z i = (cst z k).2 i := fun i hi => cst_old (z := z) (i := i) (k := k) (j := z.length) (by omega) (by omega) (Nat.le_refl _)
  have e1 : bcp z (cst z k).1 a = bcp z (Fz z) a := by
    unfold bcp
    refine stf_congr fun i _ => ?_
    unfold g2
    rw [(hbeh ((a + (4 + i)) * 3) (by omega)).1]
  have ht : ∀ (f : Nat → Int), (∀ i, i / 3 = a → f i = (cst z (k + 1)).1 i) → trp f a = trp (cst z (k + 1)).1 a := fun f hf => by
    unfold trp
    rw [hf _ (by omega), hf _ (by omega), hf _ (by omega)]
  have ht2 : ∀ (f : Nat → Int), (∀ i, i / 3 = a → f i = (cst z (k + 1)).2 i) → trp f a = trp (cst z (k + 1)).2 a := fun f hf => by
    unfold trp
    rw [hf _ (by omega), hf _ (by omega), hf _ (by omega)]
  have e2 : brn z (up3 (cst z k).2 a (bcp z (cst z k).1 a)) a = brn z (Cz z) a := by
    unfold brn
    refine stf_congr fun i _ => ?_
    try dsimp only
    rw [up3_ne (by omega), (hbeh ((a + (1 + i)) * 3) (by omega)).2]
  constructor
  · rw [ht2 _ (fun i hi => (hold i hi).2), cst, ← hk]
    show trp (up3 _ _ _) a = _
    rw [trp_up3, e1]
  · rw [ht _ (fun i hi => (hold i hi).1), cst, ← hk]
    show trp (up3 _ _ _) a = _
    rw [trp_up3, e2, e1]
theorem cz_end {z : List Int} {a : Nat} (h : z.length ≤ a) : Fz z (a * 3) = 0 ∧ Cz z (a * 3) = 0 := by
  have := cst_old (z := z) (i := a * 3) (k := 0) (j := z.length) (by omega) (by omega) (Nat.le_refl _)
  exact ⟨this.1, this.2⟩
theorem mn_min {g : Nat → Int} {lo : Nat} {b b' : Int} (h : b ≤ b') : ∀ j, mn g lo j b = min b (mn g lo j b')
  | 0 => by rw [mn, mn]; omega
  | j + 1 => by rw [mn, mn, mn_min h j]; omega
/-- The sizes are the document's. -/
theorem sz_eq {z : List Int} (hz : z.length ≤ 60) : ∀ (k a : Nat), z.length - a ≤ k → Fz z (a * 3) = fre z a ∧ Cz z (a * 3) = min 2048 (bhr z a)
  | 0, a, h => by
    obtain ⟨h1, h2⟩ := cz_end (z := z) (a := a) (by omega)
    obtain ⟨h3, h4⟩ := fre_end (z := z) (a := a) (by omega)
    rw [h1, h2, h3, h4]
    exact ⟨rfl, by omega⟩
  | k + 1, a, h => by
    by_cases ha : a < z.length
    · obtain ⟨t1, t2⟩ := cst_at ha
      obtain ⟨b1, b2⟩ := bhr_eq ha
      have ih : ∀ i, Fz z ((a + (i + 1)) * 3) = fre z (a + (i + 1)) ∧ Cz z ((a + (i + 1)) * 3) = min 2048 (bhr z (a + (i + 1))) := fun i => sz_eq hz k _ (by omega)
      have hc : Cz z (a * 3) = min 2048 (bhr z a) := by
        have e : Cz z (a * 3) = (bcp z (Fz z) a).1 := by rw [← t1]; rfl
        rw [e]
        unfold bcp
        rw [stf_fst, b1, mn_min (show (2048 : Int) ≤ 1000000 by omega)]
        congr 1
        refine mn_congr fun i _ => ?_
        unfold g2
        have := (ih (3 + i)).1
        rw [show a + (3 + i + 1) = a + (4 + i) by omega] at this
        rw [this]
      refine ⟨?_, hc⟩
      have e : Fz z (a * 3) = (lss (bcp z (Fz z) a) (brn z (Cz z) a)).1 := by rw [← t2]; rfl
      have e1 : (bcp z (Fz z) a).1 = min 2048 (bhr z a) := by rw [← hc, ← t1]; rfl
      have e2 : (brn z (Cz z) a).1 = mn (fun n => ((n : Int) + 1) + min 2048 (bhr z (a + n))) 1 (z.length - a) 2048 := by
        unfold brn
        rw [stf_fst]
        refine mn_congr fun i _ => ?_
        have := (ih i).2
        rw [show a + (i + 1) = a + (1 + i) by omega] at this
        try dsimp only
        rw [this]
      have e3 : Fz z (a * 3) = min (min 2048 (bhr z a)) (mn (fun n => ((n : Int) + 1) + min 2048 (bhr z (a + n))) 1 (z.length - a) 2048) := by
        rw [e, ← e1, ← e2]
        unfold lss
        split <;> omega
      have hr := fre_run ha
      rw [e3]
      refine Int.le_antisymm ?_ ?_
      · rcases mn_is (fun n => ((n : Int) + 1) + bhr z (a + n)) 1 (z.length - a) (bhr z a) with h1 | ⟨i, hi, h1⟩
        · rw [← b2] at h1
          rw [h1] at hr ⊢
          omega
        · rw [← b2] at h1
          have := mn_le (fun n => ((n : Int) + 1) + min 2048 (bhr z (a + n))) 1 (b := 2048) hi
          try dsimp only at h1 this
          rw [h1] at hr ⊢
          omega
      · have h2 : fre z a ≤ bhr z a := by rw [b2]; exact mn_le_b _ _ _ _
        have h3 : fre z a ≤ mn (fun n => ((n : Int) + 1) + min 2048 (bhr z (a + n))) 1 (z.length - a) 2048 := by
          refine le_mn (by omega) fun i hi => ?_
          have := mn_le (fun n => ((n : Int) + 1) + bhr z (a + n)) 1 (b := bhr z a) hi
          rw [← b2] at this
          try dsimp only at this ⊢
          omega
        omega
    · obtain ⟨h1, h2⟩ := cz_end (z := z) (a := a) (by omega)
      obtain ⟨h3, h4⟩ := fre_end (z := z) (a := a) (by omega)
      rw [h1, h2, h3, h4]
      exact ⟨rfl, by omega⟩
end Go.Proofs.Ytmflnnfgkcmlhaa.Cur
