/- The least tokens, plain facts of the tokens. -/
import Derived.Test.YtmflnnfgkcmlhaaLstN
import Derived.Test.YtmflnnfgkcmlhaaLstE
namespace Go.Proofs.Ytmflnnfgkcmlhaa.Cur
open Go.RowKit Mem
set_option linter.unusedVariables false
set_option maxRecDepth 100000

theorem fz_small {z : List Int} (hz : z.length ≤ 60) {a : Nat} (h : a < z.length) : Fz z (a * 3) ≤ 61 := by
  have h1 := (sz_eq hz z.length a (by omega)).1
  have h2 := fre_run h
  omega
/-- A best copy that is one. -/
theorem bcp_ways {z : List Int} {fs : Nat → Int} {a : Nat} (hz : z.length ≤ 60) (ha : a < z.length) : bcp z fs a = (2048, 0, 0) ∨
    ∃ (l p : Nat), 4 ≤ l ∧ p < a ∧ a + l ≤ z.length ∧ (∀ j, j < l → z.getD (a + j) 0 = z.getD (p + j) 0) ∧ bcp z fs a = (2 + fs ((a + l) * 3), (a : Int) - p, (l : Int)) := by
  unfold bcp
  rcases stf_is (g2 fs a) (bof z a (alls a)) 4 (lg z a a - 3) with h | ⟨i, hi, h⟩
  · exact .inl h
  · rcases lg_best (z := z) (a := a) (by omega) with ⟨_, _, h3⟩ | ⟨j, hj, h1, _, h3, h4, _⟩
    · omega
    · refine .inr ⟨4 + i, a - (j + 1), by omega, by omega, by have := lg_le (z := z) (a := a) a; omega, fun q hq => mt_eq (by rw [h4]; omega), ?_⟩
      rw [h, h1]
      unfold g2
      congr 2
      omega
theorem brn_ways {z : List Int} {fc : Nat → Int} {a : Nat} : brn z fc a = (2048, 0, 0) ∨ ∃ l : Nat, 1 ≤ l ∧ a + l ≤ z.length ∧ brn z fc a = ((l : Int) + 1 + fc ((a + l) * 3), 0, (l : Int)) := by
  unfold brn
  rcases stf_is (fun k => (k : Int) + 1 + fc ((a + k) * 3)) 0 1 (z.length - a) with h | ⟨i, hi, h⟩
  · exact .inl h
  · exact .inr ⟨1 + i, by omega, by omega, h⟩
theorem brn_le {z : List Int} {fc : Nat → Int} {a l : Nat} (h1 : 1 ≤ l) (h2 : a + l ≤ z.length) : (brn z fc a).1 ≤ (l : Int) + 1 + fc ((a + l) * 3) := by
  unfold brn
  rw [stf_fst]
  have := mn_le (fun k => (k : Int) + 1 + fc ((a + k) * 3)) 1 (i := l - 1) (j := z.length - a) (b := 2048) (by omega)
  rw [show 1 + (l - 1) = l by omega] at this
  exact this
theorem brn_top {z : List Int} {fc : Nat → Int} {a : Nat} : (brn z fc a).1 ≤ 2048 := by
  unfold brn
  rw [stf_fst]
  exact mn_le_b _ _ _ _
/-- The step at a place: a copy; a run, and behind it a copy or the end. -/
def StpC (z : List Int) (a : Nat) : Prop := ∃ (l p : Nat), 4 ≤ l ∧ p < a ∧ a + l ≤ z.length ∧ (∀ j, j < l → z.getD (a + j) 0 = z.getD (p + j) 0) ∧ Fz z (a * 3 + 1) = (a : Int) - p ∧ Fz z (a * 3 + 2) = (l : Int) ∧ Fz z (a * 3) = 2 + Fz z ((a + l) * 3) ∧ Fz z (a * 3) = Cz z (a * 3)
theorem stp_ways {z : List Int} (hz : z.length ≤ 60) {a : Nat} (ha : a < z.length) : StpC z a ∨
    ∃ l : Nat, 1 ≤ l ∧ a + l ≤ z.length ∧ Fz z (a * 3 + 1) = 0 ∧ Fz z (a * 3 + 2) = (l : Int) ∧ Fz z (a * 3) = (l : Int) + 1 + Fz z ((a + l) * 3) ∧ (a + l = z.length ∨ StpC z (a + l)) := by
  have first : ∀ b, b < z.length → (StpC z b ∨ (trp (Fz z) b = brn z (Cz z) b ∧ (brn z (Cz z) b).1 < Cz z (b * 3))) := fun b hb => by
    obtain ⟨t1, t2⟩ := cst_at hb
    have hs := fz_small hz hb
    unfold lss at t2
    split at t2
    · rename_i hlt
      refine .inr ⟨t2, ?_⟩
      rw [← t1] at hlt
      exact hlt
    · rcases bcp_ways (fs := Fz z) hz hb with h | ⟨l, p, h1, h2, h3, h4, h5⟩
      · rw [h] at t2
        have : Fz z (b * 3) = 2048 := congrArg Prod.fst t2
        omega
      · rw [h5] at t2 t1
        exact .inl ⟨l, p, h1, h2, h3, h4, congrArg (fun x => x.2.1) t2, congrArg (fun x => x.2.2) t2, congrArg Prod.fst t2, (congrArg Prod.fst t2).trans (congrArg Prod.fst t1).symm⟩
  rcases first a ha with h | ⟨t2, _⟩
  · exact .inl h
  · have hs := fz_small hz ha
    rcases brn_ways (z := z) (fc := Cz z) (a := a) with h | ⟨l, h1, h2, h3⟩
    · rw [h] at t2
      have : Fz z (a * 3) = 2048 := congrArg Prod.fst t2
      omega
    · rw [h3] at t2
      have e0 : Fz z (a * 3) = (l : Int) + 1 + Cz z ((a + l) * 3) := congrArg Prod.fst t2
      have e1 : Fz z (a * 3 + 1) = 0 := congrArg (fun x => x.2.1) t2
      have e2 : Fz z (a * 3 + 2) = (l : Int) := congrArg (fun x => x.2.2) t2
      by_cases hb : a + l < z.length
      · rcases first (a + l) hb with hc | ⟨t4, hlt⟩
        · obtain ⟨l', p', q1, q2, q3, q4, q5, q6, q7, q8⟩ := hc
          exact .inr ⟨l, h1, h2, e1, e2, by rw [e0, q8], .inr ⟨l', p', q1, q2, q3, q4, q5, q6, q7, q8⟩⟩
        · exfalso
          rcases brn_ways (z := z) (fc := Cz z) (a := a + l) with h | ⟨m, k1, k2, k3⟩
          · have hcs := (sz_eq hz z.length (a + l) (by omega)).2
            rw [h] at hlt
            have : (2048 : Int) < Cz z ((a + l) * 3) := hlt
            omega
          · rw [k3] at hlt
            have hlt : (m : Int) + 1 + Cz z ((a + l + m) * 3) < Cz z ((a + l) * 3) := hlt
            have hle := brn_le (z := z) (fc := Cz z) (a := a) (l := l + m) (by omega) (by omega)
            rw [h3] at hle
            have hle : (l : Int) + 1 + Cz z ((a + l) * 3) ≤ ((l + m : Nat) : Int) + 1 + Cz z ((a + (l + m)) * 3) := hle
            rw [show a + (l + m) = a + l + m by omega] at hle
            omega
      · have hbe : a + l = z.length := by omega
        refine .inr ⟨l, h1, h2, e1, e2, ?_, .inl hbe⟩
        rw [e0, hbe, (cz_end (Nat.le_refl _)).1, (cz_end (Nat.le_refl _)).2]
theorem step_go {z : List Int} (hz : z.length ≤ 60) : ∀ a, a < z.length → 1 ≤ (cst z z.length).1 (a * 3 + 2) ∧ (a : Int) + (cst z z.length).1 (a * 3 + 2) ≤ z.length := fun a ha => by
  show 1 ≤ Fz z (a * 3 + 2) ∧ (a : Int) + Fz z (a * 3 + 2) ≤ z.length
  rcases stp_ways hz ha with ⟨l, p, h1, h2, h3, _, _, h5, _⟩ | ⟨l, h1, h2, _, h4, _⟩
  · rw [h5]; omega
  · rw [h4]; omega

/-- Tokens that make the text from a place on, no run behind a run. -/
def Lch (z : List Int) : Nat → Bool → List Tk → Prop
  | a, _, [] => a = z.length
  | a, pr, t :: T => (∃ l, pr = false ∧ 1 ≤ l ∧ a + l ≤ z.length ∧ t = (piece z a (a + l), 0, 0) ∧ Lch z (a + l) true T) ∨
    (∃ (l p : Nat), 4 ≤ l ∧ p < a ∧ a + l ≤ z.length ∧ (∀ j, j < l → z.getD (a + j) 0 = z.getD (p + j) 0) ∧ t = ([], (a : Int) - p, (l : Int)) ∧ Lch z (a + l) false T)
theorem tby_copy {o l : Int} (h1 : 1 ≤ o) (h2 : o ≤ 60) (h3 : 4 ≤ l) (h4 : l ≤ 60) : (tby ([], o, l)).length = 2 := by
  have := (one_copy h1 h2 h3 h4).2
  rw [show (1 : Nat) = [(([], o, l) : Tk)].length from rfl, tbs_tcat] at this
  unfold tcat at this
  simpa using this
theorem tby_run {y : List Int} (h1 : 1 ≤ y.length) (h2 : y.length ≤ 60) : (tby (y, 0, 0)).length = y.length + 1 := by
  have := (one_run h1 h2).2
  rw [show (1 : Nat) = [((y, 0, 0) : Tk)].length from rfl, tbs_tcat] at this
  unfold tcat at this
  simpa using this
theorem tcat_cons (t : Tk) (T : List Tk) : (tcat (t :: T)).length = (tby t).length + (tcat T).length := by
  unfold tcat
  simp
theorem piece_length {z : List Int} {a l : Nat} (h : a + l ≤ z.length) : (piece z a (a + l)).length = l := by
  unfold piece
  rw [List.length_take, List.length_drop]
  omega
theorem stk_ch {z : List Int} (hz : z.length ≤ 60) : ∀ (k a : Nat) (pr : Bool), z.length - a ≤ k → a ≤ z.length → (pr = true → a = z.length ∨ StpC z a) → Lch z a pr (stk z (Fz z) k a) ∧ ((tcat (stk z (Fz z) k a)).length : Int) = Fz z (a * 3)
  | 0, a, pr, h, ha, _ => by
    have e : a = z.length := by omega
    rw [stk]
    refine ⟨e, ?_⟩
    rw [(cz_end (by omega)).1]
    rfl
  | k + 1, a, pr, h, ha, hp => by
    by_cases hlt : a < z.length
    · rw [stk, if_pos hlt]
      have copy : StpC z a → Lch z a pr (stt z (Fz z) a ++ stk z (Fz z) k (a + (Fz z (a * 3 + 2)).toNat)) ∧ ((tcat (stt z (Fz z) a ++ stk z (Fz z) k (a + (Fz z (a * 3 + 2)).toNat))).length : Int) = Fz z (a * 3) := by
        rintro ⟨l, p, h1, h2, h3, h4, h5, h6, h7, _⟩
        obtain ⟨i1, i2⟩ := stk_ch hz k (a + l) false (by omega) h3 (fun e => absurd e (by decide))
        unfold stt
        rw [h5, h6, if_pos (by omega), Int.toNat_natCast, List.singleton_append]
        refine ⟨.inr ⟨l, p, h1, h2, h3, h4, rfl, i1⟩, ?_⟩
        rw [tcat_cons, tby_copy (by omega) (by omega) (by omega) (by omega), h7]
        omega
      cases pr
      · rcases stp_ways hz hlt with hc | ⟨l, h1, h2, h3, h4, h5, h6⟩
        · exact copy hc
        · obtain ⟨i1, i2⟩ := stk_ch hz k (a + l) true (by omega) h2 (fun _ => h6)
          have hpl := piece_length h2
          unfold stt
          rw [h3, h4, if_neg (by omega), Int.toNat_natCast]
          unfold rn1
          rw [if_neg (fun e => by rw [e] at hpl; simp at hpl; omega), List.singleton_append]
          refine ⟨.inl ⟨l, rfl, h1, h2, rfl, i1⟩, ?_⟩
          rw [tcat_cons, tby_run (by omega) (by omega), hpl, h5]
          omega
      · rcases hp rfl with e | hc
        · omega
        · exact copy hc
    · have e : a = z.length := by omega
      rw [stk_end (by omega)]
      refine ⟨e, ?_⟩
      rw [(cz_end (by omega)).1]
      rfl
end Go.Proofs.Ytmflnnfgkcmlhaa.Cur
