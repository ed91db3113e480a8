/- As the seat's text, without what nothing here names. -/
import Derived.Test.YtlealkfkddhnnaaGreatK13v
import Derived.Test.YtlealkfkddhnnaaGreatK16v
import Derived.Test.YtlealkfkddhnnaaGreatK12v
import Derived.Test.YtlealkfkddhnnaaGreatK2v
namespace Go.Proofs.YtlealkfkddhnnaaGreat.Cur
open Go.RowKit Mem
set_option linter.unusedVariables false
section
variable {T : List Tk} {M B : Int} {n : Nat} {z : List Int}
end
theorem agn_byte {z : List Int} (h : ∀ x ∈ z, 0 ≤ x ∧ x < 256) (o : Int) : ∀ k, ∀ x ∈ agn 0 id z o k, 0 ≤ x ∧ x < 256
  | 0 => h
  | k + 1 => by
    rw [agn]
    intro x hx
    rcases List.mem_append.1 hx with hx | hx
    · exact agn_byte h o k x hx
    · rw [List.mem_singleton] at hx
      subst hx
      rw [id, List.getD_eq_getElem?_getD]
      cases hg : (agn 0 id z o k)[((z.length + k : Nat) - o).toNat]? with
      | none => simp
      | some y => exact agn_byte h o k y (List.mem_of_getElem? hg)
theorem ex_byte {z : List Int} {bound : Int} {y : List Int} {p : Int} (hby : ∀ x ∈ z, 0 ≤ x ∧ x < 256) (h0 : 0 ≤ p) (h1 : p ≤ z.length) (hy : ∀ x ∈ y, 0 ≤ x ∧ x < 256) (h : (ex z bound y p).2.2.1 = 0) : ∀ x ∈ (ex z bound y p).1, 0 ≤ x ∧ x < 256 := by
  have hn : ¬ ((hd z p).2.2.1 = 0 ∧ bound < (y.length : Int) + (hd z p).1.2) := fun ⟨a, b⟩ => by
    rw [ex_over a b] at h
    exact absurd h (by show ¬ (11 : Int) = 0; decide)
  have ht : (tr z p).2.2.1 = 0 := by
    by_cases e : (tr z p).2.2.1 = 0
    · exact e
    · exact absurd ((ex_trbad hn e).1.symm.trans h) e
  obtain ⟨t1, t2, t3, t4, t5, _⟩ := tr_once hby h0 h1 ht
  obtain ⟨v1, hex⟩ := ex_trok hn t3
  rw [hex] at h ⊢
  by_cases hof : (y.length : Int) < (tr z p).1.2.1
  · rw [if_pos hof] at h
    exact absurd h (by show ¬ (10 : Int) = 0; decide)
  · rw [if_neg hof]
    refine agn_byte ?_ _ _
    intro x hx
    rcases List.mem_append.1 hx with hx | hx
    · exact hy x hx
    · exact t5.1 x hx
theorem exs_good {z : List Int} {bound : Int} (hby : ∀ x ∈ z, 0 ≤ x ∧ x < 256) : ∀ (k : Nat) (p : Int) (y : List Int), 0 ≤ p → p ≤ z.length → (y.length : Int) ≤ max bound 0 → (∀ x ∈ y, 0 ≤ x ∧ x < 256) → (exs z bound k p y).2.2.1 = 0 →
    ((exs z bound k p y).1.length : Int) ≤ max bound 0 ∧ ∀ x ∈ (exs z bound k p y).1, 0 ≤ x ∧ x < 256
  | 0, p, y, _, _, hl, hy, _ => ⟨hl, hy⟩
  | k + 1, p, y, h0, h1, hl, hy, h => by
    by_cases hp : (z.length : Int) ≤ p
    · rw [exs_stop hp]
      exact ⟨hl, hy⟩
    · rw [exs_step (by omega)] at h ⊢
      obtain ⟨g1, g2⟩ := Rs.bind_ok h
      obtain ⟨k1, k2, k3⟩ := ex_ok hby h0 h1 g1
      obtain ⟨l1, l2⟩ := ex_len hby h0 h1 g1
      rw [g2] at h ⊢
      exact exs_good hby k _ _ (by omega) k2 (by omega) (ex_byte hby h0 h1 hy g1) h
theorem exv_fine {z : List Int} {bound : Int} (hby : ∀ x ∈ z, 0 ≤ x ∧ x < 256) : ((exv z bound).1.length : Int) ≤ max bound 0 ∧ (∀ x ∈ (exv z bound).1, 0 ≤ x ∧ x < 256) ∧ ((exv z bound).2.1 = 0 → (exv z bound).2.2 = 0) ∧ ((exv z bound).2.1 ≠ 0 → (exv z bound).1 = []) := by
  unfold exv
  by_cases hg : (exg z bound).2.2.1 = 0
  · rw [if_pos hg]
    obtain ⟨a1, a2⟩ := exs_good hby (z.length + 1) 0 [] (Int.le_refl _) (by omega) (by simp; omega) (fun x h => absurd h (by simp)) hg
    exact ⟨a1, a2, fun _ => rfl, fun h => absurd rfl h⟩
  · rw [if_neg hg]
    exact ⟨by simp; omega, fun x h => absurd h (by simp), fun h => absurd h hg, fun _ => rfl⟩
theorem eb_le {a : Option Addr} {n m : Nat} {z : List Int} {bound : Int} {w : World} (hz : Bs w a n z) (hm : n ≤ m) (hn : n ≤ 100000) (hby : ∀ x ∈ z, 0 ≤ x ∧ x < 256) (hb : bound ≤ 800000) : Calls Tryz.prog 155 #[.slice a n m, .int .i64 bound] w (XpPost (exv z bound) w) :=
  ebytes_any a n m z bound (fun p y => (y.length : Int) ≤ max bound 0) w hz hm hn hby (by simp; omega) (fun p y _ h0 hp he => by have := (ex_len hby h0 (by rw [hz.1]; omega) he).2; omega) (fun p y h => by omega)
theorem reb_le {a : Option Addr} {n m : Nat} {z : List Int} {bound : Int} {w : World} (hz : Bs w a n z) (ha : a = none → m = 0) (hm : n ≤ m) (hn : n ≤ 100000) (hby : ∀ x ∈ z, 0 ≤ x ∧ x < 256) (hb : bound ≤ 800000) : Calls Tryz.prog 102 #[.slice a n m, .int .i64 bound] w (XpPost (exv z bound) w) :=
  rebytes_any a n m z bound (fun p y => (y.length : Int) ≤ max bound 0) w hz ha hm hn hby (by simp; omega) (fun p y _ h0 hp he => by have := (ex_len hby h0 (by rw [hz.1]; omega) he).2; omega) (fun p y h => by omega)
end Go.Proofs.YtlealkfkddhnnaaGreat.Cur
namespace Go.Proofs.YtlealkfkddhnnaaGreat.Cur
open Go.RowKit Mem
set_option linter.unusedVariables false
def FP {α : Type} (g : Rs α) (n : Int) : Prop := g.2.2.1 ≠ 0 → 0 ≤ g.2.2.2 ∧ g.2.2.2 ≤ n
theorem FP.bind {α β : Type} {g : Rs α} {d : β} {f : α → Int → Rs β} {n : Int} (h : FP g n) (k : g.2.2.1 = 0 → FP (f g.1 g.2.1) n) : FP (g.bind d f) n := by
  unfold Rs.bind
  split
  · rename_i hc
    exact fun _ => h hc
  · rename_i hc
    exact k (by simpa using hc)
theorem FP.ok {α : Type} {x : α} {p n : Int} : FP (x, p, 0, 0) n := fun h => absurd rfl h
theorem FP.no {α : Type} {x : α} {p c q n : Int} (h : 0 ≤ q ∧ q ≤ n) : FP (x, p, c, q) n := fun _ => h
theorem vgo_spot : ∀ (l : List Int) (i : Nat) (X : Int), (i : Int) ≤ (vgo l i X).2.2.2 ∧ (vgo l i X).2.2.2 ≤ (i : Int) + l.length ∨ (vgo l i X).2.2.1 = 0
  | [], i, X => .inl ⟨Int.le_refl _, by simp [vgo]⟩
  | b :: l, i, X => by
    rw [vgo]
    split
    · exact .inl ⟨Int.le_refl _, by simp; omega⟩
    · split
      · exact .inl ⟨Int.le_refl _, by simp; omega⟩
      · split
        · exact .inr rfl
        · rcases vgo_spot l (i + 1) (X + b % 128 * 128 ^ i) with ⟨h1, h2⟩ | h
          · refine .inl ⟨by omega, ?_⟩
            rw [List.length_cons]
            omega
          · exact .inr h
theorem vg_fp {z : List Int} {p : Int} (h0 : 0 ≤ p) (h1 : p ≤ z.length) : FP (vg z p) z.length := by
  intro h
  have h : (vgo (z.drop p.toNat) 0 0).2.2.1 ≠ 0 := h
  rcases vgo_spot (z.drop p.toNat) 0 0 with ⟨k1, k2⟩ | k
  · have e : (vg z p).2.2.2 = p + (vgo (z.drop p.toNat) 0 0).2.2.2 := if_neg h
    rw [List.length_drop] at k2
    rw [e]
    omega
  · exact absurd k h
theorem hd_fp {z : List Int} {p : Int} (h0 : 0 ≤ p) (h1 : p ≤ z.length) : FP (hd z p) z.length :=
  (vg_fp h0 h1).bind fun _ => by
    split
    · exact FP.no ⟨h0, h1⟩
    · exact FP.ok
theorem ofs_fp {z : List Int} {p : Int} (h0 : 0 ≤ p) (h1 : p ≤ z.length) : FP (tkofs z p) z.length :=
  (vg_fp h0 h1).bind fun _ => by
    split
    · exact FP.no ⟨h0, h1⟩
    · exact FP.ok
theorem tk_fp {z : List Int} {x p : Int} (h0 : 0 ≤ p) (h1 : p ≤ z.length) : FP (tk z x p) z.length := by
  unfold tk
  split
  · exact FP.no ⟨h0, h1⟩
  · split
    · exact FP.no ⟨by omega, Int.le_refl _⟩
    · exact FP.ok
theorem trb_fp {z : List Int} {h : Bool × Int} {p : Int} (h0 : 0 ≤ p) (h1 : p ≤ z.length) : FP (trb z h p) z.length := by
  unfold trb
  split
  · exact (ofs_fp h0 h1).bind fun _ => FP.ok
  · exact (tk_fp h0 h1).bind fun _ => FP.ok
theorem ex_fp {z : List Int} {bound : Int} {y : List Int} {p : Int} (hby : ∀ x ∈ z, 0 ≤ x ∧ x < 256) (h0 : 0 ≤ p) (h1 : p ≤ z.length) : FP (ex z bound y p) z.length :=
  (hd_fp h0 h1).bind fun hg => by
    obtain ⟨l1, l2⟩ := hd_pl hby h0 h1 hg
    split
    · exact FP.no ⟨h0, h1⟩
    · refine (trb_fp (by omega) l2).bind fun _ => ?_
      split
      · exact FP.no ⟨by omega, l2⟩
      · exact FP.ok
theorem exs_fp {z : List Int} {bound : Int} (hby : ∀ x ∈ z, 0 ≤ x ∧ x < 256) : ∀ (k : Nat) (p : Int) (y : List Int), 0 ≤ p → p ≤ z.length → FP (exs z bound k p y) z.length
  | 0, p, y, _, _ => FP.ok
  | k + 1, p, y, h0, h1 => by
    by_cases hp : (z.length : Int) ≤ p
    · rw [exs_stop hp]
      exact FP.ok
    · rw [exs_step (by omega)]
      refine (ex_fp hby h0 h1).bind fun hg => ?_
      obtain ⟨k1, k2, _⟩ := ex_ok hby h0 h1 hg
      exact exs_fp hby k _ _ (by omega) k2
theorem exv_fp {z : List Int} {bound : Int} (hby : ∀ x ∈ z, 0 ≤ x ∧ x < 256) : 0 ≤ (exv z bound).2.2 ∧ (exv z bound).2.2 ≤ z.length := by
  unfold exv
  by_cases hg : (exg z bound).2.2.1 = 0
  · rw [if_pos hg]
    exact ⟨Int.le_refl _, by show (0 : Int) ≤ _; omega⟩
  · rw [if_neg hg]
    exact exs_fp hby (z.length + 1) 0 [] (Int.le_refl _) (by omega) hg
end Go.Proofs.YtlealkfkddhnnaaGreat.Cur
namespace Go.Proofs.YtlealkfkddhnnaaGreat.Cur
open Go.RowKit Go.Shelf Mem
attribute [local go_sem] Oper.semAt_some
set_option linter.unusedVariables false
set_option maxRecDepth 100000
theorem bsame_any (A B : Option Addr) (n m c d : Nat) (y z : List Int) (w : World) (ha : Bs w A n y) (hb : Bs w B m z) (hy : ∀ x ∈ y, 0 ≤ x ∧ x < 256) (hz : ∀ x ∈ z, 0 ≤ x ∧ x < 256) :
    Calls Tryz.prog 13 #[.slice A n c, .slice B m d] w fun e w' => e = .returned (.bool (decide (y = z))) ∧ w = w' := by
  have h1 := run_convert_bs c ha
  have h2 := run_convert_bs d hb
  have hs : ((strOfNums y).toList == (strOfNums z).toList) = decide (y = z) := by
    by_cases h : y = z
    · subst h; simp
    · rw [decide_eq_false h, beq_eq_false_iff_ne]
      exact fun e => h (strOfNums_inj hy hz (bstr_inj e))
  generalize strOfNums y = s at *
  generalize strOfNums z = t at *
  generalize decide (y = z) = r at *
  clear hy hz ha hb
  go_enter Tryz.func13, Tryz.ntmps13
  go_wp2
  go_ret
  exact ⟨rfl, rfl⟩
end Go.Proofs.YtlealkfkddhnnaaGreat.Cur
