/- As the seat's text, without what nothing here names. -/
import Derived.Test.YtlealkfkddhnnaaGreatK13y
import Derived.Test.YtlealkfkddhnnaaGreatK16y
import Derived.Test.YtlealkfkddhnnaaGreatK12y
import Derived.Test.YtlealkfkddhnnaaGreatK2y
namespace Go.Proofs.YtlealkfkddhnnaaGreat.Cur
open Go.RowKit Mem
set_option linter.unusedVariables false
theorem xpb_pre {T : List Tk} {B : Int} {n k : Nat} (h : (xpb T B n).2.1 = 0) (hk : k ≤ n) : (xpb T B k).2.1 = 0 := by
  by_cases e : (xpb T B k).2.1 = 0
  · exact e
  · have := xp_stays (own := fun k => (T.getD k tk0).1) (d := 0) (f := id) (T := T) (bound := B) e hk
    exact absurd (by rw [← show xpb T B n = xpb T B k from this]; exact h) e
theorem xpb_chk {T : List Tk} {B : Int} {n k : Nat} (h : (xpb T B n).2.1 = 0) (hk : k < n) : chk (T.getD k tk0).1.length (T.getD k tk0).2.1 (T.getD k tk0).2.2 ((xpb T B k).1.length) B = 0 ∧
    xpb T B (k + 1) = (agn 0 id ((xpb T B k).1 ++ (T.getD k tk0).1) (T.getD k tk0).2.1 (T.getD k tk0).2.2.toNat, 0, 0) := by
  have e := xp_shape (own := fun k => (T.getD k tk0).1) (d := 0) (f := id) (T := T) (bound := B) (xpb_pre h (Nat.le_of_lt hk))
  by_cases hc : chk (T.getD k tk0).1.length (T.getD k tk0).2.1 (T.getD k tk0).2.2 ((xpb T B k).1.length) B = 0
  · exact ⟨hc, xp_more e hc⟩
  · have := xp_bad (n := n) e hk hc
    rw [show (xpb T B n).2.1 = _ from congrArg (fun x => x.2.1) this] at h
    exact absurd h hc
theorem xpb_len {T : List Tk} {B : Int} {n k : Nat} (h : (xpb T B n).2.1 = 0) (hk : k < n) : ((xpb T B (k + 1)).1.length : Int) = (xpb T B k).1.length + tln (T.getD k tk0) ∧ 1 ≤ tln (T.getD k tk0) := by
  obtain ⟨h1, h2⟩ := xpb_chk h hk
  obtain ⟨l0, l1, l2, l3, l4⟩ := chk_run h1
  obtain ⟨h3, _⟩ := chk_ok h1
  rw [h2]
  show ((agn _ _ _ _ _).length : Int) = _ ∧ _
  rw [agn_length, List.length_append]
  unfold tln
  rw [l4]
  refine ⟨by omega, ?_⟩
  rcases h3 with h3 | h3
  · unfold trun at h3; rw [decide_eq_true_eq] at h3; omega
  · unfold tcpy at h3; rw [decide_eq_true_eq] at h3; omega
theorem tbs_rest {T : List Tk} {n k : Nat} (hk : k ≤ n) (hn : n ≤ T.length) : ∃ r, tbs T n = tbs T k ++ r := by
  induction n with
  | zero => obtain rfl : k = 0 := by omega
            exact ⟨[], by simp⟩
  | succ n ih =>
    by_cases e : k = n + 1
    · subst e; exact ⟨[], by simp⟩
    · obtain ⟨r, hr⟩ := ih (by omega) (by omega)
      exact ⟨r ++ tby (T.getD n tk0), by rw [tbs_succ (by omega), hr, List.append_assoc]⟩
theorem xpb_right {T : List Tk} {B : Int} {n k : Nat} (h : (xpb T B n).2.1 = 0) (hk : k < n) : tright (T.getD k tk0) = true := by
  obtain ⟨h1, _⟩ := xpb_chk h hk
  obtain ⟨h3, _⟩ := chk_ok h1
  unfold tright
  rw [Bool.or_eq_true]
  exact h3
theorem ex_put {T : List Tk} {M B : Int} {n k : Nat} {z : List Int} (hT : T.length = n) (hz : z = tbs T n) (hby : ∀ x ∈ z, 0 ≤ x ∧ x < 256) (h : (xpb T M n).2.1 = 0) (hk : k < n) :
    (B < (xpb T M (k + 1)).1.length → ex z B (xpb T M k).1 (tbs T k).length = ([], 0, 11, ((tbs T k).length : Int))) ∧
    (((xpb T M (k + 1)).1.length : Int) ≤ B → ex z B (xpb T M k).1 (tbs T k).length = ((xpb T M (k + 1)).1, ((tbs T (k + 1)).length : Int), 0, 0)) := by
  obtain ⟨r, hr⟩ := tbs_rest (T := T) (n := n) (k := k + 1) (by omega) (by omega)
  obtain ⟨h1, h2⟩ := xpb_chk h hk
  obtain ⟨l1, l2⟩ := xpb_len h hk
  obtain ⟨c0, c1, c2, c3, c4⟩ := chk_run h1
  obtain ⟨_, _, c5⟩ := chk_ok h1
  have hs := tbs_succ (T := T) (k := k) (by omega)
  have htr := tr_put (z := z) (pre := tbs T k) (rest := r) (t := T.getD k tk0) (by rw [hz, hr, hs]) (xpb_right h hk)
  have hle : ((tbs T k).length : Int) ≤ z.length := by rw [hz, hr, hs, List.length_append, List.length_append]; omega
  obtain ⟨g1, _⟩ := Rs.bind_ok (show ((hd z (tbs T k).length).bind tk0 (trb z)).2.2.1 = 0 by
    have : (tr z (tbs T k).length).2.2.1 = 0 := by rw [htr]
    exact this)
  obtain ⟨r1, r2⟩ := hd_rng hby g1
  obtain ⟨p1, p2⟩ := hd_pl hby (by omega) hle g1
  have hh := tr_hd g1
  have hl := trb_len (z := z) (cp := (hd z (tbs T k).length).1.1) (k := (hd z (tbs T k).length).1.2) (p1 := (hd z (tbs T k).length).2.1) (by omega) p2 (by omega) (by
    have : (trb z (hd z (tbs T k).length).1 (hd z (tbs T k).length).2.1).2.2.1 = 0 := by rw [← hh, htr]
    exact this)
  have hl2 : (hd z (tbs T k).length).1.2 = tln (T.getD k tk0) := by
    have e : (trb z ((hd z (tbs T k).length).1.1, (hd z (tbs T k).length).1.2) (hd z (tbs T k).length).2.1).1 = T.getD k tk0 := by
      show (trb z (hd z (tbs T k).length).1 (hd z (tbs T k).length).2.1).1 = _
      rw [← hh, htr]
    rw [e] at hl
    unfold tln
    rw [c4]
    omega
  constructor
  · intro hb
    exact ex_over g1 (by rw [hl2]; omega)
  · intro hb
    obtain ⟨_, hex⟩ := ex_trok (z := z) (bound := B) (y := (xpb T M k).1) (p := ((tbs T k).length : Int)) (fun ⟨_, e⟩ => by rw [hl2] at e; omega) (by rw [htr])
    rw [hex, htr]
    simp only
    rw [if_neg (by omega), h2, hs, List.length_append]
theorem tbs_ge {T : List Tk} {k : Nat} (h : k ≤ T.length) : k ≤ (tbs T k).length := by
  induction k with
  | zero => omega
  | succ k ih =>
    have := ih (by omega)
    have h1 := tby_pos (T.getD k tk0)
    rw [tbs_succ (by omega), List.length_append]
    omega
section
variable {T : List Tk} {M B : Int} {n : Nat} {z : List Int}
theorem exs_all (hT : T.length = n) (hz : z = tbs T n) (hby : ∀ x ∈ z, 0 ≤ x ∧ x < 256) (h : (xpb T M n).2.1 = 0) (hB : ((xpb T M n).1.length : Int) ≤ B) : ∀ (j fuel k : Nat), k + j = n → j ≤ fuel →
    exs z B fuel (tbs T k).length (xpb T M k).1 = ((xpb T M n).1, (z.length : Int), 0, 0) ∧ ((xpb T M k).1.length : Int) ≤ B
  | 0, fuel, k, hk, hf => by
    obtain rfl : k = n := by omega
    rw [exs_stop (by rw [hz]; exact Int.le_refl _), hz]
    exact ⟨rfl, hB⟩
  | j + 1, fuel, k, hk, hf => by
    obtain ⟨fuel, rfl⟩ : ∃ f, fuel = f + 1 := ⟨fuel - 1, by omega⟩
    obtain ⟨i1, i2⟩ := exs_all hT hz hby h hB j fuel (k + 1) (by omega) (by omega)
    obtain ⟨l1, l2⟩ := xpb_len h (k := k) (by omega)
    obtain ⟨r, hr⟩ := tbs_rest (T := T) (n := n) (k := k + 1) (by omega) (by omega)
    have h1 := tby_pos (T.getD k tk0)
    have hp : ((tbs T k).length : Int) < z.length := by rw [hz, hr, tbs_succ (by omega), List.length_append, List.length_append]; omega
    rw [exs_step hp, Rs.bind_of ((ex_put hT hz hby h (k := k) (by omega)).2 i2)]
    exact ⟨i1, by omega⟩
theorem exv_all (hT : T.length = n) (hz : z = tbs T n) (hby : ∀ x ∈ z, 0 ≤ x ∧ x < 256) (h : (xpb T M n).2.1 = 0) (hB : ((xpb T M n).1.length : Int) ≤ B) : exv z B = ((xpb T M n).1, 0, 0) := by
  have hge := tbs_ge (T := T) (k := n) (by omega)
  have := (exs_all hT hz hby h hB n (z.length + 1) 0 (by omega) (by rw [hz]; omega)).1
  have e : exg z B = ((xpb T M n).1, (z.length : Int), 0, 0) := by
    have e0 : ((tbs T 0).length : Int) = 0 := by rw [tbs_zero]; rfl
    rw [e0] at this
    exact this
  unfold exv
  rw [e]
  rfl
end
theorem agn_byte {z : List Int} (h : ∀ x ∈ z, 0 ≤ x ∧ x < 256) (o : Int) : ∀ k, ∀ x ∈ agn 0 id z o k, 0 ≤ x ∧ x < 256
  | 0 => h
  | k + 1 => by
    rw [agn]
    intro x hx
    rcases List.mem_append.1 hx with hx | hx
    · exact agn_byte h o k x hx
    · rw [List.mem_singleton] at hx
      subst hx
      rw [id, List.getD_eq_getElem?_getD]
      cases hg : (agn 0 id z o k)[((z.length + k : Nat) - o).toNat]? with
      | none => simp
      | some y => exact agn_byte h o k y (List.mem_of_getElem? hg)
theorem ex_byte {z : List Int} {bound : Int} {y : List Int} {p : Int} (hby : ∀ x ∈ z, 0 ≤ x ∧ x < 256) (h0 : 0 ≤ p) (h1 : p ≤ z.length) (hy : ∀ x ∈ y, 0 ≤ x ∧ x < 256) (h : (ex z bound y p).2.2.1 = 0) : ∀ x ∈ (ex z bound y p).1, 0 ≤ x ∧ x < 256 := by
  have hn : ¬ ((hd z p).2.2.1 = 0 ∧ bound < (y.length : Int) + (hd z p).1.2) := fun ⟨a, b⟩ => by
    rw [ex_over a b] at h
    exact absurd h (by show ¬ (11 : Int) = 0; decide)
  have ht : (tr z p).2.2.1 = 0 := by
    by_cases e : (tr z p).2.2.1 = 0
    · exact e
    · exact absurd ((ex_trbad hn e).1.symm.trans h) e
  obtain ⟨t1, t2, t3, t4, t5, _⟩ := tr_once hby h0 h1 ht
  obtain ⟨v1, hex⟩ := ex_trok hn t3
  rw [hex] at h ⊢
  by_cases hof : (y.length : Int) < (tr z p).1.2.1
  · rw [if_pos hof] at h
    exact absurd h (by show ¬ (10 : Int) = 0; decide)
  · rw [if_neg hof]
    refine agn_byte ?_ _ _
    intro x hx
    rcases List.mem_append.1 hx with hx | hx
    · exact hy x hx
    · exact t5.1 x hx
theorem exs_good {z : List Int} {bound : Int} (hby : ∀ x ∈ z, 0 ≤ x ∧ x < 256) : ∀ (k : Nat) (p : Int) (y : List Int), 0 ≤ p → p ≤ z.length → (y.length : Int) ≤ max bound 0 → (∀ x ∈ y, 0 ≤ x ∧ x < 256) → (exs z bound k p y).2.2.1 = 0 →
    ((exs z bound k p y).1.length : Int) ≤ max bound 0 ∧ ∀ x ∈ (exs z bound k p y).1, 0 ≤ x ∧ x < 256
  | 0, p, y, _, _, hl, hy, _ => ⟨hl, hy⟩
  | k + 1, p, y, h0, h1, hl, hy, h => by
    by_cases hp : (z.length : Int) ≤ p
    · rw [exs_stop hp]
      exact ⟨hl, hy⟩
    · rw [exs_step (by omega)] at h ⊢
      obtain ⟨g1, g2⟩ := Rs.bind_ok h
      obtain ⟨k1, k2, k3⟩ := ex_ok hby h0 h1 g1
      obtain ⟨l1, l2⟩ := ex_len hby h0 h1 g1
      rw [g2] at h ⊢
      exact exs_good hby k _ _ (by omega) k2 (by omega) (ex_byte hby h0 h1 hy g1) h
theorem exv_fine {z : List Int} {bound : Int} (hby : ∀ x ∈ z, 0 ≤ x ∧ x < 256) : ((exv z bound).1.length : Int) ≤ max bound 0 ∧ (∀ x ∈ (exv z bound).1, 0 ≤ x ∧ x < 256) ∧ ((exv z bound).2.1 = 0 → (exv z bound).2.2 = 0) ∧ ((exv z bound).2.1 ≠ 0 → (exv z bound).1 = []) := by
  unfold exv
  by_cases hg : (exg z bound).2.2.1 = 0
  · rw [if_pos hg]
    obtain ⟨a1, a2⟩ := exs_good hby (z.length + 1) 0 [] (Int.le_refl _) (by omega) (by simp; omega) (fun x h => absurd h (by simp)) hg
    exact ⟨a1, a2, fun _ => rfl, fun h => absurd rfl h⟩
  · rw [if_neg hg]
    exact ⟨by simp; omega, fun x h => absurd h (by simp), fun h => absurd h hg, fun _ => rfl⟩
theorem eb_le {a : Option Addr} {n m : Nat} {z : List Int} {bound : Int} {w : World} (hz : Bs w a n z) (hm : n ≤ m) (hn : n ≤ 100000) (hby : ∀ x ∈ z, 0 ≤ x ∧ x < 256) (hb : bound ≤ 800000) : Calls Tryz.prog 155 #[.slice a n m, .int .i64 bound] w (XpPost (exv z bound) w) :=
  ebytes_any a n m z bound (fun p y => (y.length : Int) ≤ max bound 0) w hz hm hn hby (by simp; omega) (fun p y _ h0 hp he => by have := (ex_len hby h0 (by rw [hz.1]; omega) he).2; omega) (fun p y h => by omega)
end Go.Proofs.YtlealkfkddhnnaaGreat.Cur
namespace Go.Proofs.YtlealkfkddhnnaaGreat.Cur
open Go.RowKit Mem
set_option linter.unusedVariables false
def FP {α : Type} (g : Rs α) (n : Int) : Prop := g.2.2.1 ≠ 0 → 0 ≤ g.2.2.2 ∧ g.2.2.2 ≤ n
theorem FP.bind {α β : Type} {g : Rs α} {d : β} {f : α → Int → Rs β} {n : Int} (h : FP g n) (k : g.2.2.1 = 0 → FP (f g.1 g.2.1) n) : FP (g.bind d f) n := by
  unfold Rs.bind
  split
  · rename_i hc
    exact fun _ => h hc
  · rename_i hc
    exact k (by simpa using hc)
theorem FP.ok {α : Type} {x : α} {p n : Int} : FP (x, p, 0, 0) n := fun h => absurd rfl h
theorem FP.no {α : Type} {x : α} {p c q n : Int} (h : 0 ≤ q ∧ q ≤ n) : FP (x, p, c, q) n := fun _ => h
theorem vgo_spot : ∀ (l : List Int) (i : Nat) (X : Int), (i : Int) ≤ (vgo l i X).2.2.2 ∧ (vgo l i X).2.2.2 ≤ (i : Int) + l.length ∨ (vgo l i X).2.2.1 = 0
  | [], i, X => .inl ⟨Int.le_refl _, by simp [vgo]⟩
  | b :: l, i, X => by
    rw [vgo]
    split
    · exact .inl ⟨Int.le_refl _, by simp; omega⟩
    · split
      · exact .inl ⟨Int.le_refl _, by simp; omega⟩
      · split
        · exact .inr rfl
        · rcases vgo_spot l (i + 1) (X + b % 128 * 128 ^ i) with ⟨h1, h2⟩ | h
          · refine .inl ⟨by omega, ?_⟩
            rw [List.length_cons]
            omega
          · exact .inr h
theorem vg_fp {z : List Int} {p : Int} (h0 : 0 ≤ p) (h1 : p ≤ z.length) : FP (vg z p) z.length := by
  intro h
  have h : (vgo (z.drop p.toNat) 0 0).2.2.1 ≠ 0 := h
  rcases vgo_spot (z.drop p.toNat) 0 0 with ⟨k1, k2⟩ | k
  · have e : (vg z p).2.2.2 = p + (vgo (z.drop p.toNat) 0 0).2.2.2 := if_neg h
    rw [List.length_drop] at k2
    rw [e]
    omega
  · exact absurd k h
theorem hd_fp {z : List Int} {p : Int} (h0 : 0 ≤ p) (h1 : p ≤ z.length) : FP (hd z p) z.length :=
  (vg_fp h0 h1).bind fun _ => by
    split
    · exact FP.no ⟨h0, h1⟩
    · exact FP.ok
theorem ofs_fp {z : List Int} {p : Int} (h0 : 0 ≤ p) (h1 : p ≤ z.length) : FP (tkofs z p) z.length :=
  (vg_fp h0 h1).bind fun _ => by
    split
    · exact FP.no ⟨h0, h1⟩
    · exact FP.ok
theorem tk_fp {z : List Int} {x p : Int} (h0 : 0 ≤ p) (h1 : p ≤ z.length) : FP (tk z x p) z.length := by
  unfold tk
  split
  · exact FP.no ⟨h0, h1⟩
  · split
    · exact FP.no ⟨by omega, Int.le_refl _⟩
    · exact FP.ok
theorem trb_fp {z : List Int} {h : Bool × Int} {p : Int} (h0 : 0 ≤ p) (h1 : p ≤ z.length) : FP (trb z h p) z.length := by
  unfold trb
  split
  · exact (ofs_fp h0 h1).bind fun _ => FP.ok
  · exact (tk_fp h0 h1).bind fun _ => FP.ok
theorem ex_fp {z : List Int} {bound : Int} {y : List Int} {p : Int} (hby : ∀ x ∈ z, 0 ≤ x ∧ x < 256) (h0 : 0 ≤ p) (h1 : p ≤ z.length) : FP (ex z bound y p) z.length :=
  (hd_fp h0 h1).bind fun hg => by
    obtain ⟨l1, l2⟩ := hd_pl hby h0 h1 hg
    split
    · exact FP.no ⟨h0, h1⟩
    · refine (trb_fp (by omega) l2).bind fun _ => ?_
      split
      · exact FP.no ⟨by omega, l2⟩
      · exact FP.ok
theorem exs_fp {z : List Int} {bound : Int} (hby : ∀ x ∈ z, 0 ≤ x ∧ x < 256) : ∀ (k : Nat) (p : Int) (y : List Int), 0 ≤ p → p ≤ z.length → FP (exs z bound k p y) z.length
  | 0, p, y, _, _ => FP.ok
  | k + 1, p, y, h0, h1 => by
    by_cases hp : (z.length : Int) ≤ p
    · rw [exs_stop hp]
      exact FP.ok
    · rw [exs_step (by omega)]
      refine (ex_fp hby h0 h1).bind fun hg => ?_
      obtain ⟨k1, k2, _⟩ := ex_ok hby h0 h1 hg
      exact exs_fp hby k _ _ (by omega) k2
theorem exv_fp {z : List Int} {bound : Int} (hby : ∀ x ∈ z, 0 ≤ x ∧ x < 256) : 0 ≤ (exv z bound).2.2 ∧ (exv z bound).2.2 ≤ z.length := by
  unfold exv
  by_cases hg : (exg z bound).2.2.1 = 0
  · rw [if_pos hg]
    exact ⟨Int.le_refl _, by show (0 : Int) ≤ _; omega⟩
  · rw [if_neg hg]
    exact exs_fp hby (z.length + 1) 0 [] (Int.le_refl _) (by omega) hg
end Go.Proofs.YtlealkfkddhnnaaGreat.Cur
namespace Go.Proofs.YtlealkfkddhnnaaGreat.Cur
open Go.RowKit Go.Shelf Mem
attribute [local go_sem] Oper.semAt_some
set_option linter.unusedVariables false
set_option maxRecDepth 100000
theorem exv_cps {z : List Int} {b : Int} (hz : z.length ≤ 10000) (hby : ∀ x ∈ z, 0 ≤ x ∧ x < 256) (hb : (z.length : Int) ≤ b) : exv (cps z) b = (z, 0, 0) := by
  obtain ⟨p, hp⟩ := gtk_is z
  have h := gth_makes (z := z) (T := gtk z) (bound := (z.length : Int)) (by omega) (Int.le_refl _) hp
  have h' : xpb (gtk z) z.length (gtk z).length = (z, 0, 0) := h
  have := exv_all (T := gtk z) (M := z.length) (B := b) (n := (gtk z).length) (z := cps z) rfl (tbs_gtk z).symm (cps_byte (by omega) hby) (by rw [h']) (by rw [h']; exact hb)
  rw [this, h']
end Go.Proofs.YtlealkfkddhnnaaGreat.Cur
