/- Greedy compression: the document's best match. -/
import Derived.Test.YtmflnnfgkcmlhaaK15
namespace Go.Proofs.Ytmflnnfgkcmlhaa.Cur
open Go.RowKit Go.Shelf Mem
attribute [local go_sem] Oper.semAt_some
set_option linter.unusedVariables false
set_option maxRecDepth 100000


/-- The longest match of the first j offsets. -/
def lg (z : List Int) (a : Nat) : Nat → Nat
  | 0 => 0
  | j + 1 => max (lg z a j) (mt z a (a - (j + 1)))
theorem lg_ge {z : List Int} {a i : Nat} : ∀ {j : Nat}, i < j → mt z a (a - (i + 1)) ≤ lg z a j
  | 0, h => by omega
  | j + 1, h => by
    rw [lg]
    by_cases e : i = j
    · subst e; omega
    · have := lg_ge (z := z) (a := a) (i := i) (j := j) (by omega); omega
theorem lg_is {z : List Int} {a : Nat} : ∀ (j : Nat), lg z a j = 0 ∨ ∃ i, i < j ∧ lg z a j = mt z a (a - (i + 1))
  | 0 => .inl rfl
  | j + 1 => by
    rw [lg]
    by_cases e : mt z a (a - (j + 1)) ≤ lg z a j
    · rw [Nat.max_eq_left e]
      rcases lg_is (z := z) (a := a) j with h | ⟨i, h1, h2⟩
      · exact .inl h
      · exact .inr ⟨i, by omega, h2⟩
    · rw [Nat.max_eq_right (by omega)]
      exact .inr ⟨j, by omega, rfl⟩
theorem lg_le {z : List Int} {a : Nat} (j : Nat) : lg z a j ≤ z.length - a := by
  rcases lg_is (z := z) (a := a) j with h | ⟨i, _, h⟩
  · omega
  · have := mt_le z a (a - (i + 1)); omega
theorem alls_at {a i : Nat} (h : i < a) (h2 : a ≤ 65536) : a - (i + 1) ∈ alls (a : Int) := alls_mem.2 ⟨by omega, by omega⟩
/-- The first offset whose match is the longest is the best one; where none has four bytes there is none. -/
theorem lg_best {z : List Int} {a : Nat} (ha : a ≤ 65536) : (bof z a (alls a) = 0 ∧ bnf z a (alls a) = 0 ∧ lg z a a < 4) ∨
    ∃ j : Nat, j < a ∧ bof z a (alls a) = ((j + 1 : Nat) : Int) ∧ bnf z a (alls a) = (lg z a a : Nat) ∧ 4 ≤ lg z a a ∧ mt z a (a - (j + 1)) = lg z a a ∧ ∀ i, i < j → mt z a (a - (i + 1)) ≠ lg z a a := by
  rcases best_cases z a with ⟨h1, h2, h3⟩ | ⟨p, hp, h1, h2, h3, h4, h5⟩
  · refine .inl ⟨h1, h2, ?_⟩
    rcases lg_is (z := z) (a := a) a with h | ⟨i, hi, h⟩
    · omega
    · have := h3 _ (alls_at hi ha)
      rw [Int.toNat_natCast] at this
      omega
  · rw [Int.toNat_natCast] at h2 h3 h4 h5
    have hm := alls_mem.1 hp
    obtain ⟨j, hj⟩ : ∃ j, p = a - (j + 1) ∧ j < a := ⟨a - p - 1, by omega, by omega⟩
    have hl : lg z a a = mt z a p := by
      have h6 := lg_ge (z := z) (a := a) hj.2
      rw [← hj.1] at h6
      rcases lg_is (z := z) (a := a) a with h | ⟨i, hi, h⟩
      · omega
      · have := h4 _ (alls_at hi ha)
        omega
    refine .inr ⟨j, hj.2, by rw [h1]; omega, by rw [h2, hl], by omega, by rw [← hj.1, hl], fun i hi => ?_⟩
    have := h5 _ (alls_at (by omega : i < a) ha) (by omega)
    omega
theorem mv_nat {z : List Int} {a j : Nat} (h : j < a) (ha : a < z.length) : mv z a ((j + 1 : Nat) : Int) = mt z a (a - (j + 1)) := by
  unfold mv
  rw [if_pos (by omega), Int.toNat_natCast, show ((a : Int) - ((j + 1 : Nat) : Int)).toNat = a - (j + 1) by omega]

def RBestPost (z : List Int) (a : Int) (w : World) (e : Ending) (w' : World) : Prop := e = .returned (.tuple #[.int .i64 (bo z a), .int .i64 (bn z a)]) ∧ ∃ q, w' = w.drewN q
set_option maxHeartbeats 4000000 in
theorem rbest_any {w : World} {A : Option Addr} {n m : Nat} {z : List Int} (a : Nat) (hz : Bs w A n z) (hby : ∀ x ∈ z, 0 ≤ x ∧ x < 256) (hm : n ≤ m) (hn : n ≤ 60000) (ha : a < n) :
    Calls Try.prog 26 #[.slice A n m, .int .i64 (a : Int)] w (RBestPost z a w) := by
  have hzl := hz.1
  have hbest := lg_best (z := z) (a := a) (by omega)
  have hbo : bof z a (alls a) = bo z a ∧ bnf z a (alls a) = bn z a := ⟨rfl, rfl⟩
  rw [hbo.1, hbo.2] at hbest
  clear hbo
  have HB := Lib.hid hbest
  have HM := Lib.hid (fun (j : Nat) (hj : j < a) (q : Nat) => (show Calls Try.prog 50 #[.slice A n m, .int .i64 (a : Int), .int .i64 ((j : Int) + 1)] (w.drewN q) (fun e w' => e = .returned (.int .i64 (mt z a (a - (j + 1)) : Nat)) ∧ ∃ k, w' = (w.drewN q).drewN k) by
    have := rmatch_any (w := w.drewN q) (m := m) (a : Int) ((j + 1 : Nat) : Int) (hz.drewN q) hby hm (by omega)
    unfold MatchPost at this
    rw [mv_nat hj (by omega)] at this
    exact this))
  have hlm := lg_le (z := z) (a := a) a
  have hd0 : decide (n ≤ a) = false := decide_eq_false (by omega)
  clear hz hby hbest
  go_enter Try.func26, Try.ntmps26
  go_wp2
  go_loopw [6, 7] (fun u v wr => ∃ j q : Nat, j ≤ a ∧ u = .int .i64 (lg z a j : Nat) ∧ v = .int .i64 ((j : Int) + 1) ∧ wr = w.drewN q) (fun _ v _ => a + 1 - (intOf v).toNat)
  case atStart => exact ⟨0, 0, by omega, rfl, rfl, rfl⟩
  case round =>
    obtain ⟨j, q, hj, rfl, rfl, rfl⟩ := hrel
    by_cases hlt : j < a
    · have hC := HM.out j hlt q
      have HS : Hid (((lg z a (j + 1) : Nat) : Int) = max ((lg z a j : Nat) : Int) ((mt z a (a - (j + 1)) : Nat) : Int)) := Lib.hid (by rw [lg]; omega)
      have b1 : (j : Int) + 1 ≤ a := by omega
      have b2 : (j : Int) + 1 ≤ 65536 := by omega
      have e1 : IntKind.i64.wrap ((j : Int) + 1 + 1) = (j : Int) + 1 + 1 := IntWalk.i64_in _ (by omega)
      generalize lg z a j = X at *
      generalize mt z a (a - (j + 1)) = Y at *
      go_wp2_with fail
      with_reducible refine hC.mono ?_
      rintro e w2 ⟨rfl, q2, rfl⟩
      clear hC
      go_wp2
      go_roundw
      case rel => exact ⟨j + 1, q + q2, by omega, by rw [HS.out], by congr 1, rfl⟩
      case measure => simp [intOf]; omega
    · obtain rfl : j = a := by omega
      obtain ⟨M, hMM⟩ : ∃ M, M = lg z j j := ⟨_, rfl⟩
      rw [← hMM] at HB hlm ⊢
      clear hMM
      go_wp2
      go_loopw [8] (fun v wr => ∃ i q : Nat, i ≤ j ∧ v = .int .i64 ((i : Int) + 1) ∧ wr = w.drewN q ∧ Hid (∀ k, k < i → ¬ (4 ≤ M ∧ mt z j (j - (k + 1)) = M))) (fun v _ => j + 1 - (intOf v).toNat)
      case atStart => exact ⟨0, q, by omega, rfl, rfl, Lib.hid (fun k hk => by omega)⟩
      case round =>
        obtain ⟨i, q, hi, rfl, rfl, HI⟩ := hrel
        by_cases hlt2 : i < j
        · have hC := HM.out i hlt2 q
          have e1 : IntKind.i64.wrap ((i : Int) + 1 + 1) = (i : Int) + 1 + 1 := IntWalk.i64_in _ (by omega)
          have b1 : (i : Int) + 1 ≤ j := by omega
          have b2 : (i : Int) + 1 ≤ 65536 := by omega
          by_cases h4 : 4 ≤ M
          · have h4' : (4 : Int) ≤ (M : Int) := by omega
            by_cases hY : mt z j (j - (i + 1)) = M
            · rw [hY] at hC
              have HE := Lib.hid (show bo z (j : Int) = (i : Int) + 1 ∧ bn z (j : Int) = (M : Nat) from by
                rcases HB.out with ⟨_, _, h⟩ | ⟨i', h1, h2, h3, _, h5, h6⟩
                · omega
                · have : i' = i := by
                    rcases Nat.lt_trichotomy i' i with h | h | h
                    · exact absurd ⟨h4, h5⟩ (HI.out i' h)
                    · exact h
                    · exact absurd hY (h6 i h)
                  subst this
                  exact ⟨h2, h3⟩)
              clear hY
              go_wp2_with fail
              with_reducible refine hC.mono ?_
              rintro e w2 ⟨rfl, q2, rfl⟩
              clear hC
              go_wp2
              go_ret2
              exact ⟨by rw [HE.out.1, HE.out.2]; rfl, q + q2, rfl⟩
            · have HI' := Lib.hid (show ∀ k, k < i + 1 → ¬ (4 ≤ M ∧ mt z j (j - (k + 1)) = M) from fun k hk => by
                by_cases e : k = i
                · subst e; exact fun h => hY h.2
                · exact HI.out k (by omega))
              have hne : (((mt z j (j - (i + 1)) : Nat) : Int) == (M : Int)) = false := by rw [beq_eq_false_iff_ne]; intro e; exact hY (by exact_mod_cast e)
              clear hY
              generalize mt z j (j - (i + 1)) = Y at *
              go_wp2_with fail
              with_reducible refine hC.mono ?_
              rintro e w2 ⟨rfl, q2, rfl⟩
              clear hC
              go_wp2
              go_roundw
              case rel => exact ⟨i + 1, q + q2, by omega, by congr 1, rfl, HI'⟩
              case measure => simp [intOf]; omega
          · have h4' : ¬ (4 : Int) ≤ (M : Int) := by omega
            have HI' := Lib.hid (show ∀ k, k < i + 1 → ¬ (4 ≤ M ∧ mt z j (j - (k + 1)) = M) from fun k hk h => h4 h.1)
            clear hC
            go_wp2
            go_roundw
            case rel => exact ⟨i + 1, q, by omega, by congr 1, rfl, HI'⟩
            case measure => simp [intOf]; omega
        · have HE := Lib.hid (show bo z (j : Int) = 0 ∧ bn z (j : Int) = 0 from by
            rcases HB.out with ⟨h1, h2, _⟩ | ⟨i', h1, h2, h3, h4, h5, h6⟩
            · exact ⟨h1, h2⟩
            · exact absurd ⟨h4, h5⟩ (HI.out i' (by omega)))
          obtain rfl : i = j := by omega
          go_wp2
          go_ret2
          exact ⟨by rw [HE.out.1, HE.out.2]; rfl, q, rfl⟩
end Go.Proofs.Ytmflnnfgkcmlhaa.Cur
