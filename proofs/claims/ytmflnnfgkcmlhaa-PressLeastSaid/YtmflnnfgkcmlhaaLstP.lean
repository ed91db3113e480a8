/- The least tokens: right ones, no run behind a run, they make the text; no other tokens are fewer. -/
import Derived.Test.YtmflnnfgkcmlhaaLstO
namespace Go.Proofs.Ytmflnnfgkcmlhaa.Cur
open Go.RowKit Mem
set_option linter.unusedVariables false
set_option maxRecDepth 100000

def isr (t : Tk) : Bool := trun t.1.length t.2.1 t.2.2
theorem isr_copy {o l : Int} (h : 4 ≤ l) : isr ([], o, l) = false := by
  unfold isr trun
  exact decide_eq_false (fun e => by have := e.2.1; simp only at this; omega)
theorem lch_alone {z : List Int} : ∀ {T : List Tk} {a : Nat} {pr : Bool}, Lch z a pr T → ∀ i, i < T.length → isr (T.getD i tk0) = true → (i = 0 → pr = false) ∧ (0 < i → isr (T.getD (i - 1) tk0) = false)
  | [], _, _, _, i, hi, _ => absurd hi (by simp)
  | t :: T, a, pr, h, 0, hi, hr => by
    refine ⟨fun _ => ?_, fun h0 => absurd h0 (by omega)⟩
    rcases h with ⟨l, e, _⟩ | ⟨l, p, h1, _, _, _, e, _⟩
    · exact e
    · rw [show (t :: T).getD 0 tk0 = t from rfl, e, isr_copy (by omega)] at hr
      exact absurd hr (by decide)
  | t :: T, a, pr, h, i + 1, hi, hr => by
    refine ⟨fun h0 => absurd h0 (by omega), fun _ => ?_⟩
    rw [show i + 1 - 1 = i by omega]
    have hi' : i < T.length := by rw [List.length_cons] at hi; omega
    rcases h with ⟨l, _, _, _, _, h2⟩ | ⟨l, p, h1, _, _, _, e, h2⟩
    · obtain ⟨k1, k2⟩ := lch_alone h2 i hi' hr
      cases i with
      | zero => exact absurd (k1 rfl) (by decide)
      | succ i => exact k2 (by omega)
    · obtain ⟨k1, k2⟩ := lch_alone h2 i hi' hr
      cases i with
      | zero =>
        show isr t = false
        rw [e]
        exact isr_copy (by omega)
      | succ i => exact k2 (by omega)
theorem lch_right {z : List Int} (hz : z.length ≤ 60) (hby : ∀ x ∈ z, 0 ≤ x ∧ x < 256) : ∀ {T : List Tk} {a : Nat} {pr : Bool}, Lch z a pr T → ∀ t ∈ T, tright t = true ∧ tkok t
  | [], _, _, _, t, ht => absurd ht (by simp)
  | t :: T, a, pr, h, u, hu => by
    rcases List.mem_cons.1 hu with rfl | hu
    · rcases h with ⟨l, _, h1, h2, e, _⟩ | ⟨l, p, h1, h2, h3, _, e, _⟩
      · have hpl := piece_length h2
        rw [e]
        refine ⟨(one_run (by omega) (by omega)).1, ?_⟩
        refine ⟨fun x hx => hby x (List.mem_of_mem_drop (List.mem_of_mem_take hx)), ?_⟩
        simp
      · rw [e]
        refine ⟨(one_copy (by omega) (by omega) (by omega) (by omega)).1, fun x hx => absurd hx (by simp), ?_⟩
        simp only
        omega
    · rcases h with ⟨l, _, _, _, _, h2⟩ | ⟨l, p, _, _, _, _, _, h2⟩
      · exact lch_right hz hby h2 u hu
      · exact lch_right hz hby h2 u hu
theorem getD_mid {X T : List Tk} {t : Tk} : (X ++ t :: T).getD X.length tk0 = t := by
  rw [List.getD_eq_getElem?_getD, List.getElem?_append_right (Nat.le_refl _), Nat.sub_self]
  rfl
/-- They make the text. -/
theorem lch_xp {z : List Int} {bound : Int} (hz : z.length ≤ 60) (hb : (z.length : Int) ≤ bound) : ∀ {T X : List Tk} {a : Nat} {pr : Bool}, Lch z a pr T → a ≤ z.length → xp (fun k => ((X ++ T).getD k tk0).1) 0 id (X ++ T) bound X.length = (z.take a, 0, 0) →
    xp (fun k => ((X ++ T).getD k tk0).1) 0 id (X ++ T) bound (X ++ T).length = (z, 0, 0)
  | [], X, a, pr, h, _, hx => by
    have h : a = z.length := h
    rw [List.append_nil] at hx ⊢
    rw [hx, h, List.take_length]
  | t :: T, X, a, pr, h, ha, hx => by
    have hta : (z.take a).length = a := by rw [List.length_take]; omega
    have e : X ++ t :: T = (X ++ [t]) ++ T := by rw [List.append_assoc]; rfl
    have fin : ∀ b pb, b ≤ z.length → Lch z b pb T → xp (fun k => ((X ++ t :: T).getD k tk0).1) 0 id (X ++ t :: T) bound (X.length + 1) = (z.take b, 0, 0) → xp (fun k => ((X ++ t :: T).getD k tk0).1) 0 id (X ++ t :: T) bound (X ++ t :: T).length = (z, 0, 0) := fun b pb hbz hL hx2 => by
      rw [e] at hx2 ⊢
      exact lch_xp hz hb hL hbz (by rw [List.length_append]; exact hx2)
    rcases h with ⟨l, _, h1, h2, et, h3⟩ | ⟨l, p, h1, h2, h3, h4, et, h5⟩
    · refine fin (a + l) true h2 h3 ?_
      have hpl := piece_length h2
      have hr : trun l 0 0 = true := by unfold trun; exact decide_eq_true (by omega)
      rw [xp_more hx, getD_mid, et]
      · show (z.take a ++ piece z a (a + l), (0 : Int), (0 : Int)) = (z.take (a + l), 0, 0)
        rw [take_piece (by omega)]
      · rw [getD_mid, et, hta]
        show chk (piece z a (a + l)).length 0 0 (a : Nat) bound = 0
        rw [hpl]
        unfold chk
        rw [hr, Bool.true_or, if_pos rfl, tsz_run hr, if_neg (by omega), if_neg (by omega)]
    · refine fin (a + l) false h3 h5 ?_
      have hr : tcpy 0 ((a : Int) - p) (l : Int) = true := by unfold tcpy; exact decide_eq_true (by omega)
      rw [xp_more hx, getD_mid, et]
      · show (agn 0 id (z.take a ++ []) ((a : Int) - p) ((l : Int)).toNat, (0 : Int), (0 : Int)) = (z.take (a + l), 0, 0)
        rw [Int.toNat_natCast, List.append_nil, agn_take h2 _ rfl l h3 h4]
      · rw [getD_mid, et, hta]
        show chk 0 ((a : Int) - p) (l : Int) (a : Nat) bound = 0
        unfold chk
        rw [hr, Bool.or_true, if_pos rfl, tsz_cpy hr, if_neg (by omega), if_neg (by omega)]
/-- The greedy ones are no fewer. -/
theorem gth_ge {z : List Int} (hz : z.length ≤ 60) {p : Bool} : ∀ {T : List Tk} {a : Nat} {pr : Bool}, Gth z a pr T z.length p → (if pr then bhr z a else fre z a) ≤ ((tcat T).length : Int)
  | [], a, pr, h => by
    have h : a = z.length := h.1
    rw [h, (fre_end (Nat.le_refl _)).1, (fre_end (Nat.le_refl _)).2]
    split <;> exact Int.le_refl _
  | t :: T, a, pr, ⟨b, pb, h1, h2⟩ => by
    have ih := gth_ge hz h2
    rw [tcat_cons]
    rcases h1 with ⟨rfl, rfl, h3, h4, et, _⟩ | ⟨rfl, h3, h0, et, rfl⟩
    · have hpl := piece_length (z := z) (a := a) (l := b - a) (by omega)
      rw [show a + (b - a) = b by omega] at hpl
      rw [et, tby_run (by omega) (by omega), hpl]
      rw [if_pos rfl] at ih
      rw [if_neg (by decide), (bhr_eq (by omega)).2]
      have := mn_le (fun n => ((n : Int) + 1) + bhr z (a + n)) 1 (i := b - a - 1) (j := z.length - a) (b := bhr z a) (by omega)
      rw [show 1 + (b - a - 1) = b - a by omega, show a + (b - a) = b by omega] at this
      omega
    · obtain ⟨q, l, e1, e2, k3, k4, k5, k6, k7, _⟩ := best_good h0
      rw [et, e1, e2, tby_copy (by omega) (by omega) (by omega) (by omega)]
      rw [e2, Int.toNat_natCast, if_neg (by decide)] at ih
      obtain ⟨b1, b2⟩ := bhr_eq h3
      have hg := lg_ge (z := z) (a := a) (i := a - 1 - q) (j := a) (by omega)
      rw [show a - (a - 1 - q + 1) = q by omega, ← k7] at hg
      have := mn_le (fun n => 2 + fre z (a + n)) 4 (i := l - 4) (j := lg z a a - 3) (b := 1000000) (by omega)
      rw [← b1, show 4 + (l - 4) = l by omega] at this
      have hfb : fre z a ≤ bhr z a := by rw [b2]; exact mn_le_b _ _ _ _
      split <;> omega
/-- All of the least tokens. -/
theorem ltk_all {z : List Int} (hz : z.length ≤ 60) (hby : ∀ x ∈ z, 0 ≤ x ∧ x < 256) : (∀ t ∈ ltk z, tright t = true ∧ tkok t) ∧ (∀ i, i < (ltk z).length → 0 < i → isr ((ltk z).getD i tk0) = true → isr ((ltk z).getD (i - 1) tk0) = false) ∧
    ((tbs (ltk z) (ltk z).length).length : Int) = fre z 0 ∧ xpb (ltk z) z.length (ltk z).length = (z, 0, 0) ∧ (cst z z.length).1 0 = fre z 0 ∧ fre z 0 ≤ ((cps z).length : Int) ∧ (z.length = 0 ∨ fre z 0 ≤ (z.length : Int) + 1) ∧ 0 ≤ fre z 0 := by
  obtain ⟨h1, h2⟩ := stk_ch hz z.length 0 false (by omega) (by omega) (fun e => absurd e (by decide))
  have hf : Fz z 0 = fre z 0 := (sz_eq hz z.length 0 (by omega)).1
  refine ⟨lch_right hz hby h1, fun i hi h0 hr => (lch_alone h1 i hi hr).2 h0, ?_, ?_, hf, ?_, ?_, (fre_pos z.length 0 (by omega)).1⟩
  · rw [tbs_tcat]
    exact h2.trans hf
  · have := lch_xp (X := []) (bound := (z.length : Int)) hz (Int.le_refl _) h1 (by omega) (by rfl)
    exact this
  · obtain ⟨p, hp⟩ := gtk_is z
    have := gth_ge hz hp
    rw [if_neg (by decide)] at this
    exact this
  · by_cases h : z.length = 0
    · exact .inl h
    · have := fre_run (z := z) (a := 0) (by omega)
      exact .inr (by omega)
end Go.Proofs.Ytmflnnfgkcmlhaa.Cur
