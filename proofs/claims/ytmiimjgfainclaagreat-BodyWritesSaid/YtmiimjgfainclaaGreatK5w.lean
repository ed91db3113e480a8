/- As the seat's text, without what nothing here names. -/
import Derived.Test.YtmiimjgfainclaaGreatK4w
import Derived.Laws.BitsAllLaws
import Derived.Test.YtmiimjgfainclaaGreatK1w
import Derived.IntWalk
import Derived.Deep.Cut
namespace Go.Proofs.YtmiimjgfainclaaGreat.Cur
open Go.RowKit Mem
set_option linter.unusedVariables false
theorem wrapu (x : Int) : IntKind.u64.wrap x = x % 18446744073709551616 := rfl
end Go.Proofs.YtmiimjgfainclaaGreat.Cur
namespace Go.Proofs.YtmiimjgfainclaaGreat.Cur
open Go.RowKit Mem
set_option linter.unusedVariables false
def risesB : List Int → Bool
  | a :: b :: l => decide (a < b) && risesB (b :: l)
  | _ => true
theorem risesB_iff : ∀ z : List Int, risesB z = true ↔ ∀ i, i + 1 < z.length → z.getD i 0 < z.getD (i + 1) 0
  | [] => by simp [risesB]
  | [a] => by simp [risesB]
  | a :: b :: l => by
    rw [risesB, Bool.and_eq_true, risesB_iff (b :: l), decide_eq_true_eq]
    constructor
    · rintro ⟨h1, h2⟩ i hi
      cases i with
      | zero => simpa using h1
      | succ i => have := h2 i (by simp at hi ⊢; omega); simpa using this
    · intro h
      refine ⟨by simpa using h 0 (by simp), fun i hi => ?_⟩
      have := h (i + 1) (by simp at hi ⊢; omega)
      simpa using this
theorem rises_true {z : List Int} {n k : Nat} (hz : z.length = n) (h : ∀ j, j < k → z.getD j 0 < z.getD (j + 1) 0) (hk : n ≤ k + 1) : risesB z = true :=
  (risesB_iff z).2 fun i hi => h i (by omega)
theorem rises_false {z : List Int} {n k : Nat} (hz : z.length = n) (hk : k + 1 < n) (h : ¬ z.getD k 0 < z.getD (k + 1) 0) : risesB z = false := by
  cases e : risesB z with
  | false => rfl
  | true => exact absurd ((risesB_iff z).1 e k (by omega)) h
theorem Us.cells {w : World} {A : Option Addr} {n : Nat} {z : List Int} (h : Us w A n z) (hn : 0 < n) : ∃ g o, A = some ⟨g, o, none⟩ ∧ g < w.heap.size ∧ ∀ w', Below w.heap.size w w' → ∀ k, k < n → w'.cell? ⟨g, o + k, none⟩ = some (.int .u64 (z.getD k 0)) := by
  obtain ⟨g, o, e, h0⟩ := h.at_ hn
  refine ⟨g, o, e, lt_of_cell h0, fun w' hb k hk => ?_⟩
  obtain ⟨g', o', e', hc⟩ := (h.below hb).at_ hk
  rw [e] at e'
  injection e' with e'
  injection e' with e1 e2
  subst e1 e2
  exact hc
set_option maxHeartbeats 1000000 in
theorem rises_any (A : Option Addr) (n m : Nat) (z : List Int) (w : World) (hz : Us w A n z) (hn : n ≤ 1000000) (hby : ∀ x ∈ z, 0 ≤ x ∧ x < 18446744073709551616) :
    Calls Tryz.prog 52 #[.slice A n m] w (BPost (.bool (risesB z)) w) := by
  unfold BPost
  by_cases hn0 : n = 0
  · subst hn0
    have HT := Lib.hid (rises_true (n := 0) (k := 0) hz.1 (by intro j hj; omega) (by omega))
    go_enter Tryz.func52, Tryz.ntmps52
    go_wp2
    go_loopw [7] (fun i wr => i = .int .i64 0 ∧ wr = w) (fun i _ => 0)
    case atStart => exact ⟨rfl, rfl⟩
    case round =>
      obtain ⟨rfl, rfl⟩ := hrel
      go_wp2
      go_ret
      exact ⟨by rw [HT.out]; rfl, Below.refl _ _⟩
  · obtain ⟨g, o, rfl, hg, hc⟩ := hz.cells (by omega)
    have HC := Lib.hid hc
    have HZ := Lib.hid hz.1
    have HB := Lib.hid hby
    clear hc hz hby
    go_enter Tryz.func52, Tryz.ntmps52
    go_wp2
    go_loopw [7] (fun i wr => ∃ k : Nat, k < n ∧ i = .int .i64 k ∧ Hid (∀ j, j < k → z.getD j 0 < z.getD (j + 1) 0) ∧ Below w.heap.size w wr) (fun i _ => n - (intOf i).toNat)
    case atStart => exact ⟨0, by omega, rfl, Lib.hid (by intro j hj; omega), Below.refl _ _⟩
    case round =>
      obtain ⟨k, hk, rfl, hj, hb⟩ := hrel
      by_cases hlt : k + 1 < n
      · have c0 := HC.out wr hb k hk
        have c1 := HC.out wr hb (k + 1) hlt
        obtain ⟨x0, hx0⟩ : ∃ x, x = z.getD k 0 := ⟨_, rfl⟩
        obtain ⟨x1, hx1⟩ : ∃ x, x = z.getD (k + 1) 0 := ⟨_, rfl⟩
        have b0 := HB.out x0 (by rw [hx0]; exact getD_mem (by rw [HZ.out]; omega))
        have b1 := HB.out x1 (by rw [hx1]; exact getD_mem (by rw [HZ.out]; omega))
        rw [← hx0] at c0
        rw [← hx1] at c1
        have HX0 := Lib.hid hx0
        have HX1 := Lib.hid hx1
        clear hx0 hx1
        have e1 : (k : Int) + 1 < n := by omega
        have e2 : (k : Int) < n := by omega
        have e3 : IntKind.i64.wrap ((k : Int) + 1) = ((k + 1 : Nat) : Int) := IntWalk.i64_in _ (by omega)
        by_cases hle : x0 < x1
        · go_wp2
          go_quiet (fail)
          go_wp2
          go_roundw
          case rel => exact ⟨k + 1, hlt, by go_num, Lib.hid (fun j hjk => by
            rcases Nat.lt_or_ge j k with h | h
            · exact hj.out j h
            · obtain rfl : j = k := by omega
              rw [← HX0.out, ← HX1.out]; exact hle), below_drewN hb _⟩
          case measure => simp [intOf]; omega
        · go_wp2
          go_quiet (fail)
          go_wp2
          go_ret
          exact ⟨by rw [rises_false HZ.out hlt (by rw [← HX0.out, ← HX1.out]; omega)]; rfl, below_drewN hb _⟩
      · go_wp2
        go_ret
        exact ⟨by rw [rises_true HZ.out hj.out (by omega)]; rfl, hb⟩
set_option maxHeartbeats 1000000 in
theorem rrises_any (A : Option Addr) (n m : Nat) (z : List Int) (w : World) (hz : Us w A n z) (hn : n ≤ 1000000) (hby : ∀ x ∈ z, 0 ≤ x ∧ x < 18446744073709551616) :
    Calls Tryz.prog 63 #[.slice A n m] w (BPost (.bool (risesB z)) w) := by
  unfold BPost
  by_cases hn0 : n = 0
  · subst hn0
    have HT := Lib.hid (rises_true (n := 0) (k := 0) hz.1 (by intro j hj; omega) (by omega))
    go_enter Tryz.func63, Tryz.ntmps63
    go_wp2
    go_loopw [3] (fun i wr => i = .int .i64 0 ∧ wr = w) (fun i _ => 0)
    case atStart => exact ⟨rfl, rfl⟩
    case round =>
      obtain ⟨rfl, rfl⟩ := hrel
      go_wp2
      go_ret
      exact ⟨by rw [HT.out]; rfl, Below.refl _ _⟩
  · obtain ⟨g, o, rfl, hg, hc⟩ := hz.cells (by omega)
    have HC := Lib.hid hc
    have HZ := Lib.hid hz.1
    have HB := Lib.hid hby
    clear hc hz hby
    go_enter Tryz.func63, Tryz.ntmps63
    go_wp2
    go_loopw [3] (fun i wr => ∃ k : Nat, k < n ∧ i = .int .i64 k ∧ Hid (∀ j, j < k → z.getD j 0 < z.getD (j + 1) 0) ∧ Below w.heap.size w wr) (fun i _ => n - (intOf i).toNat)
    case atStart => exact ⟨0, by omega, rfl, Lib.hid (by intro j hj; omega), Below.refl _ _⟩
    case round =>
      obtain ⟨k, hk, rfl, hj, hb⟩ := hrel
      by_cases hlt : k + 1 < n
      · have c0 := HC.out wr hb k hk
        have c1 := HC.out wr hb (k + 1) hlt
        obtain ⟨x0, hx0⟩ : ∃ x, x = z.getD k 0 := ⟨_, rfl⟩
        obtain ⟨x1, hx1⟩ : ∃ x, x = z.getD (k + 1) 0 := ⟨_, rfl⟩
        have b0 := HB.out x0 (by rw [hx0]; exact getD_mem (by rw [HZ.out]; omega))
        have b1 := HB.out x1 (by rw [hx1]; exact getD_mem (by rw [HZ.out]; omega))
        rw [← hx0] at c0
        rw [← hx1] at c1
        have HX0 := Lib.hid hx0
        have HX1 := Lib.hid hx1
        clear hx0 hx1
        have e1 : (k : Int) + 1 < n := by omega
        have e2 : (k : Int) < n := by omega
        have e3 : IntKind.i64.wrap ((k : Int) + 1) = ((k + 1 : Nat) : Int) := IntWalk.i64_in _ (by omega)
        by_cases hle : x0 < x1
        · go_wp2
          go_quiet (fail)
          go_wp2
          go_roundw
          case rel => exact ⟨k + 1, hlt, by go_num, Lib.hid (fun j hjk => by
            rcases Nat.lt_or_ge j k with h | h
            · exact hj.out j h
            · obtain rfl : j = k := by omega
              rw [← HX0.out, ← HX1.out]; exact hle), below_drewN hb _⟩
          case measure => simp [intOf]; omega
        · go_wp2
          go_quiet (fail)
          go_wp2
          go_ret
          exact ⟨by rw [rises_false HZ.out hlt (by rw [← HX0.out, ← HX1.out]; omega)]; rfl, below_drewN hb _⟩
      · go_wp2
        go_ret
        exact ⟨by rw [rises_true HZ.out hj.out (by omega)]; rfl, hb⟩
end Go.Proofs.YtmiimjgfainclaaGreat.Cur
namespace Go.Proofs.YtmiimjgfainclaaGreat.Cur
open Go.RowKit Mem
set_option linter.unusedVariables false
def stp (z : List Int) (k : Nat) : Int := if k = 0 then z.getD 0 0 else z.getD k 0 - z.getD (k - 1) 0 - 1
def rzk (z : List Int) : Nat → List Int
  | 0 => []
  | k + 1 => rzk z k ++ vz (stp z k)
def rz (z : List Int) : List Int := rzk z z.length
theorem rzk_len (z : List Int) (k : Nat) : (rzk z k).length ≤ 10 * k := by
  induction k with
  | zero => simp [rzk]
  | succ k ih => rw [rzk, List.length_append, vz_length]; have := vsz_le (stp z k); omega
theorem rzk_succ_len (z : List Int) (k : Nat) : (rzk z (k + 1)).length = (rzk z k).length + vsz (stp z k) := by rw [rzk, List.length_append, vz_length]
theorem stp_bd {z : List Int} {n k : Nat} (hz : z.length = n) (hk : k < n) (hby : ∀ x ∈ z, 0 ≤ x ∧ x < 18446744073709551616) (hr : risesB z = true) : 0 ≤ stp z k ∧ stp z k < 18446744073709551616 := by
  have h1 := hby _ (getD_mem (z := z) (k := k) (by omega))
  unfold stp
  split
  · subst k; exact h1
  · have h2 := hby _ (getD_mem (z := z) (k := k - 1) (by omega))
    have h3 := (risesB_iff z).1 hr (k - 1) (by omega)
    rw [show k - 1 + 1 = k by omega] at h3
    omega
set_option maxHeartbeats 1000000 in
theorem step_any (A : Option Addr) (n m k : Nat) (z : List Int) (w : World) (hz : Us w A n z) (hk : k < n) (hn : n ≤ 1000000) (hby : ∀ x ∈ z, 0 ≤ x ∧ x < 18446744073709551616) (hr : risesB z = true) :
    Calls Tryz.prog 160 #[.slice A n m, .int .i64 k] w (BPost (.int .u64 (stp z k)) w) := by
  unfold BPost
  have b0 := hby _ (getD_mem (z := z) (k := k) (by rw [hz.1]; exact hk))
  obtain ⟨g, o, rfl, hg, hc⟩ := hz.cells (by omega)
  have c0 := hc w (Below.refl _ _) k hk
  by_cases h0 : k = 0
  · subst h0
    have HS := Lib.hid (show stp z 0 = z.getD 0 0 by unfold stp; rw [if_pos rfl])
    clear hc hz hby hr
    have e0 : (0 : Nat) < n := hk
    rw [show ((0 : Nat) : Int) = 0 from rfl]
    rw [Nat.add_zero] at c0
    generalize z.getD 0 0 = x at *
    go_enter Tryz.func160, Tryz.ntmps160
    go_wp2
    go_ret
    exact ⟨by rw [HS.out]; rfl, Below.refl _ _⟩
  · have b1 := hby _ (getD_mem (z := z) (k := k - 1) (by rw [hz.1]; omega))
    have c1 := hc w (Below.refl _ _) (k - 1) (by omega)
    have h3 := (risesB_iff z).1 hr (k - 1) (by rw [hz.1]; omega)
    rw [show k - 1 + 1 = k by omega] at h3
    have HS := Lib.hid (show stp z k = z.getD k 0 - z.getD (k - 1) 0 - 1 by unfold stp; rw [if_neg h0])
    clear hc hz hby hr
    generalize z.getD k 0 = x at *
    generalize z.getD (k - 1) 0 = y at *
    obtain ⟨j, rfl⟩ : ∃ j, k = j + 1 := ⟨k - 1, by omega⟩
    rw [Nat.add_sub_cancel] at c1
    have e1 : ((j + 1 : Nat) : Int) = (j : Int) + 1 := by omega
    rw [e1]
    clear e1 h0
    have e2 : (j : Int) + 1 < n := by omega
    have e3 : (0 : Int) ≤ j := by omega
    have e4 : IntKind.i64.wrap ((j : Int) + 1 - 1) = (j : Int) := by rw [show (j : Int) + 1 - 1 = j by omega]; exact IntWalk.i64_in _ (by omega)
    have e5 : (j : Int) < n := by omega
    have e6 : ((j : Int) + 1).toNat = j + 1 := by omega
    have e7 : ((j : Int) + 1 == 0) = false := by simp; omega
    go_enter Tryz.func160, Tryz.ntmps160
    go_wp2
    go_quiet (fail)
    go_wp2
    go_ret
    exact ⟨by rw [HS.out]; rfl, below_drewN (Below.refl _ _) _⟩
end Go.Proofs.YtmiimjgfainclaaGreat.Cur
namespace Go.Proofs.YtmiimjgfainclaaGreat.Cur
open Go.RowKit Mem
set_option linter.unusedVariables false
set_option maxHeartbeats 2000000 in
theorem rrz_any (A : Option Addr) (n m : Nat) (z : List Int) (w : World) (hz : Us w A n z) (hn : n ≤ 1000) (hby : ∀ x ∈ z, 0 ≤ x ∧ x < 18446744073709551616) (hr : risesB z = true) :
    Calls Tryz.prog 78 #[.slice A n m] w (RowPost (rz z) w) := by
  have HB := Lib.hid hby
  have HR := Lib.hid hr
  have HZ := Lib.hid hz.1
  have HU := Lib.hid hz
  clear hby hr hz
  go_enter Tryz.func78, Tryz.ntmps78
  go_wp2
  go_loopw [3, 4] (fun v i wr => ∃ k : Nat, k ≤ n ∧ i = .int .i64 k ∧ Own wr w.heap.size v (rzk z k) ∧ Below w.heap.size w wr) (fun _ i _ => n - (intOf i).toNat)
  case atStart => exact ⟨0, by omega, rfl, Own.nil _ _, Below.refl _ _⟩
  case round =>
    obtain ⟨k, hk, rfl, ho, hb⟩ := hrel
    by_cases hlt : k < n
    · have hl := rzk_len z k
      obtain ⟨s0, s1⟩ := stp_bd HZ.out hlt HB.out HR.out
      have hle := vsz_le (stp z k)
      obtain ⟨g, o, rfl, hg, hc⟩ := HU.out.cells (by omega)
      have hB := hb.size
      by_cases h0 : k = 0
      · subst h0
        have hst : stp z 0 = z.getD 0 0 := by unfold stp; rw [if_pos rfl]
        have c0 := hc wr hb 0 hlt
        rw [Nat.add_zero, ← hst] at c0
        have HO := Lib.hid ho
        have HL := Lib.hid (vz_length (stp z 0))
        have HZ1 := Lib.hid (show rzk z 1 = rzk z 0 ++ vz (stp z 0) from rfl)
        clear hc ho hst
        generalize stp z 0 = x at *
        rw [show ((0 : Nat) : Int) = 0 from rfl]
        go_wp2_with fail
        refine (rbytes_any 10 _ _ (vsz_le _) s0 s1).mono ?_
        rintro e w1 ⟨A1, m1, rfl, hb1, hbs, hnil, _⟩
        have ho1 := HO.out.below hb1
        have hb2 := hb.trans (hb1.mono hb.size)
        have hB2 := hb2.size
        go_wp2_with (at_builtin; go_must (refine list_append_gr rfl (.tmp 13) (.tmp 17) rfl w.heap.size _ _ rfl ho1 _ _ _ _ rfl hbs hnil (by rw [HL.out]; omega) hB2 ?_; intro v' w2 ho' hg' hgr; have hb3 := Own.belowOf hb2 hB2 ho1 hg'))
        go_roundw
        case rel => exact ⟨1, by omega, rfl, by rw [HZ1.out]; exact ho', hb3⟩
        case measure => simp [intOf]; omega
      · obtain ⟨j, rfl⟩ : ∃ j, k = j + 1 := ⟨k - 1, by omega⟩
        have hst : stp z (j + 1) = z.getD (j + 1) 0 - z.getD j 0 - 1 := by unfold stp; rw [if_neg (by omega), Nat.add_sub_cancel]
        have b0 := HB.out _ (getD_mem (z := z) (k := j + 1) (by rw [HZ.out]; exact hlt))
        have b1 := HB.out _ (getD_mem (z := z) (k := j) (by rw [HZ.out]; omega))
        have h3 := (risesB_iff z).1 HR.out j (by rw [HZ.out]; omega)
        have c0 := fun w' (h : Below w.heap.size w w') => hc w' h (j + 1) hlt
        have c1 := fun w' (h : Below w.heap.size w w') => hc w' h j (by omega)
        have HO := Lib.hid ho
        have HL := Lib.hid (vz_length (stp z (j + 1)))
        have HZ1 := Lib.hid (show rzk z (j + 1 + 1) = rzk z (j + 1) ++ vz (stp z (j + 1)) from rfl)
        have HST := Lib.hid hst
        clear hc ho hst
        generalize hx : z.getD (j + 1) 0 = x at *
        generalize hy : z.getD j 0 = y at *
        generalize hs' : stp z (j + 1) = s at *
        clear hx hy hs'
        have e1 : ((j + 1 : Nat) : Int) = (j : Int) + 1 := by omega
        rw [e1]
        clear e1 h0
        have e2 : (j : Int) + 1 < n := by omega
        have e3 : (0 : Int) ≤ j := by omega
        have e4 : IntKind.i64.wrap ((j : Int) + 1 - 1) = (j : Int) := by rw [show (j : Int) + 1 - 1 = j by omega]; exact IntWalk.i64_in _ (by omega)
        have e5 : (j : Int) < n := by omega
        have e6 : ((j : Int) + 1).toNat = j + 1 := by omega
        have e7 : ((j : Int) + 1 == 0) = false := by simp; omega
        have e8 : IntKind.u64.wrap (x - y) = x - y := by rw [wrapu]; omega
        have e11 : IntKind.u64.wrap (x - y - 1) = s := by rw [wrapu, HST.out]; have := HST.out; omega
        have e9 : (0 : Int) ≤ (j : Int) + 1 := by omega
        have e10 : IntKind.i64.wrap (j : Int) = (j : Int) := IntWalk.i64_in _ (by omega)
        go_wp2
        have hS : Below w.heap.size w wr.drew := hb.trans ⟨rfl, rfl, rfl, Nat.le_refl _, fun _ _ => rfl⟩
        refine Seq.wp_region_seq (fun w' => Below w.heap.size w w') (by kernel_rfl) (by kernel_rfl) hS ?_
        repeat (first | (refine Seq.Seq.skip (by rfl) ?_; (try simp only [Act.put, List.setIfInBounds_toArray, List.set_cons_zero, List.set_cons_succ])) | (refine Seq.Seq.det ?_ (by rfl) (fun w hS => ?_) ?_; rotate_left; ((try dsimp only at hS); go_simp; (try rw [if_pos (by omega)]); with_reducible rfl); (try simp only [Act.put, List.setIfInBounds_toArray, List.set_cons_zero, List.set_cons_succ])))
        refine Seq.Seq.make (by rfl) (by rfl) (fun K Q' hK => ?_)
        go_simp
        go_at_call 77
        with_reducible refine (rbytes_any 10 _ _ (vsz_le _) s0 s1).mono ?_
        rintro e w1 ⟨A1, m1, rfl, hb1, hbs, hnil, _⟩
        have ho1 : Own w1 w.heap.size u3 (rzk z (j + 1)) := Own.below (w := wr) HO.out ((below_one' wr).trans hb1)
        have hb2 := hS.trans (hb1.mono hS.size)
        have hB2 := hb2.size
        refine hK.out _ _ hb2 ?_
        clear hK K
        try simp only [Act.put, List.setIfInBounds_toArray, List.set_cons_zero, List.set_cons_succ]
        refine Seq.Seq.make (by rfl) (by rfl) (fun K Q' hK => ?_)
        refine oper_append_gr (.tmp 19) (.tmp 31) rfl w.heap.size _ _ rfl ho1 _ _ _ _ rfl hbs hnil (by rw [HL.out]; omega) hB2 ?_
        intro v' w2 ho' hg' hgr
        have hb3 := Own.belowOf hb2 hB2 ho1 hg'
        refine hK.out _ _ hb3 ?_
        clear hK K
        try simp only [Act.put, List.setIfInBounds_toArray, List.set_cons_zero, List.set_cons_succ]
        repeat (first | (refine Seq.Seq.skip (by rfl) ?_; (try simp only [Act.put, List.setIfInBounds_toArray, List.set_cons_zero, List.set_cons_succ])) | (refine Seq.Seq.det ?_ (by rfl) (fun w hS => ?_) ?_; rotate_left; ((try dsimp only at hS); go_simp; (try rw [if_pos (by omega)]); with_reducible rfl); (try simp only [Act.put, List.setIfInBounds_toArray, List.set_cons_zero, List.set_cons_succ])))
        refine Seq.Seq.nil ?_
        go_wp2
        go_roundw
        case rel => exact ⟨j + 1 + 1, by omega, by go_num, by rw [HZ1.out]; exact ho', hb3⟩
        case measure => simp [intOf]; omega
    · obtain rfl : k = n := by omega
      obtain ⟨A1, c1, rfl⟩ := ho.slice
      have e := HZ.out
      have HE := Lib.hid e
      clear e
      go_wp2
      go_ret
      have hr : rzk z k = rz z := by unfold rz; rw [HE.out]
      rw [← hr]
      exact Own.rowPost (B := 0) ho hb
end Go.Proofs.YtmiimjgfainclaaGreat.Cur
namespace Go.Proofs.YtmiimjgfainclaaGreat.Cur
open Go.RowKit Mem
set_option linter.unusedVariables false
def rgo (z : List Int) : Nat → Int → List Int → List Int × Int × Int × Int
  | 0, p, acc => (acc, p, 0, 0)
  | n + 1, p, acc =>
    if (vgo (z.drop p.toNat) 0 0).2.2.1 ≠ 0 then ([], 0, (vgo (z.drop p.toNat) 0 0).2.2.1, p + (vgo (z.drop p.toNat) 0 0).2.2.2)
    else if acc = [] then rgo z n (p + (vgo (z.drop p.toNat) 0 0).2.1) [(vgo (z.drop p.toNat) 0 0).1]
    else if 18446744073709551615 - acc.getD (acc.length - 1) 0 ≤ (vgo (z.drop p.toNat) 0 0).1 then ([], 0, 13, p)
    else rgo z n (p + (vgo (z.drop p.toNat) 0 0).2.1) (acc ++ [acc.getD (acc.length - 1) 0 + (vgo (z.drop p.toNat) 0 0).1 + 1])
theorem rgo_bad {z : List Int} {k : Nat} {p : Int} {acc : List Int} (h : (vgo (z.drop p.toNat) 0 0).2.2.1 ≠ 0) : rgo z (k + 1) p acc = ([], 0, (vgo (z.drop p.toNat) 0 0).2.2.1, p + (vgo (z.drop p.toNat) 0 0).2.2.2) := by
  unfold rgo; rw [if_pos h]
theorem rgo_first {z : List Int} {k : Nat} {p : Int} (h : (vgo (z.drop p.toNat) 0 0).2.2.1 = 0) : rgo z (k + 1) p [] = rgo z k (p + (vgo (z.drop p.toNat) 0 0).2.1) [(vgo (z.drop p.toNat) 0 0).1] := by
  rw [rgo, if_neg (by simp [h]), if_pos rfl]
theorem rgo_over {z : List Int} {k : Nat} {p : Int} {acc : List Int} (h : (vgo (z.drop p.toNat) 0 0).2.2.1 = 0) (ha : acc ≠ []) (ho : 18446744073709551615 - acc.getD (acc.length - 1) 0 ≤ (vgo (z.drop p.toNat) 0 0).1) : rgo z (k + 1) p acc = ([], 0, 13, p) := by
  rw [rgo, if_neg (by simp [h]), if_neg ha, if_pos ho]
theorem rgo_next {z : List Int} {k : Nat} {p : Int} {acc : List Int} (h : (vgo (z.drop p.toNat) 0 0).2.2.1 = 0) (ha : acc ≠ []) (ho : ¬ 18446744073709551615 - acc.getD (acc.length - 1) 0 ≤ (vgo (z.drop p.toNat) 0 0).1) :
    rgo z (k + 1) p acc = rgo z k (p + (vgo (z.drop p.toNat) 0 0).2.1) (acc ++ [acc.getD (acc.length - 1) 0 + (vgo (z.drop p.toNat) 0 0).1 + 1]) := by
  rw [rgo, if_neg (by simp [h]), if_neg ha, if_neg ho]
def RgSt (n : Nat) (z : List Int) (p c q : Int) (N : Nat) (l : List Int) (p' c' q' : Int) : Prop :=
  0 ≤ p' ∧ p' ≤ n ∧ ((c ≠ 0 ∧ l = [] ∧ c' = c ∧ q' = q) ∨
  (c = 0 ∧ (rgo z N p []).2.2.1 = 0 ∧ l = (rgo z N p []).1 ∧ p' = (rgo z N p []).2.1 ∧ c' = 0 ∧ q' = q) ∨
  (c = 0 ∧ (rgo z N p []).2.2.1 ≠ 0 ∧ l = [] ∧ c' = (rgo z N p []).2.2.1 ∧ q' = (rgo z N p []).2.2.2))
theorem RgSt.det {n : Nat} {z : List Int} {p c q : Int} {N : Nat} {l l2 : List Int} {p' c' q' p2 c2 q2 : Int} (h : RgSt n z p c q N l p' c' q') (k : RgSt n z p c q N l2 p2 c2 q2) : l = l2 ∧ c' = c2 ∧ q' = q2 ∧ (c' = 0 → p' = p2) := by
  obtain ⟨_, _, h⟩ := h
  obtain ⟨_, _, k⟩ := k
  rcases h with ⟨a0, rfl, rfl, rfl⟩ | ⟨a0, a1, rfl, rfl, rfl, rfl⟩ | ⟨a0, a1, rfl, rfl, rfl⟩ <;>
  rcases k with ⟨b0, rfl, rfl, rfl⟩ | ⟨b0, b1, rfl, rfl, rfl, rfl⟩ | ⟨b0, b1, rfl, rfl, rfl⟩ <;>
  first | exact absurd a0 b0 | exact absurd b0 a0 | exact absurd a1 b1 | exact absurd b1 a1 | exact ⟨rfl, rfl, rfl, fun h => absurd h (by assumption)⟩ | exact ⟨rfl, rfl, rfl, fun _ => rfl⟩
end Go.Proofs.YtmiimjgfainclaaGreat.Cur
namespace Go.Proofs.YtmiimjgfainclaaGreat.Cur
open Go.RowKit Mem
set_option linter.unusedVariables false
abbrev Rs (α : Type) := α × Int × Int × Int
def St {α : Type} (d : α) (n : Nat) (g : Rs α) (p c q : Int) (v : α) (p' c' q' : Int) : Prop :=
  0 ≤ p' ∧ p' ≤ n ∧ ((c ≠ 0 ∧ v = d ∧ c' = c ∧ q' = q) ∨ (c = 0 ∧ g.2.2.1 = 0 ∧ v = g.1 ∧ p' = g.2.1 ∧ c' = 0 ∧ q' = q) ∨ (c = 0 ∧ g.2.2.1 ≠ 0 ∧ v = d ∧ c' = g.2.2.1 ∧ q' = g.2.2.2))
theorem St.det {α : Type} {d : α} {n : Nat} {g : Rs α} {p c q : Int} {v v2 : α} {p' c' q' p2 c2 q2 : Int} (h : St d n g p c q v p' c' q') (k : St d n g p c q v2 p2 c2 q2) : v = v2 ∧ c' = c2 ∧ q' = q2 ∧ (c' = 0 → p' = p2) := by
  obtain ⟨_, _, h⟩ := h
  obtain ⟨_, _, k⟩ := k
  rcases h with ⟨a0, rfl, rfl, rfl⟩ | ⟨a0, a1, rfl, rfl, rfl, rfl⟩ | ⟨a0, a1, rfl, rfl, rfl⟩ <;>
  rcases k with ⟨b0, rfl, rfl, rfl⟩ | ⟨b0, b1, rfl, rfl, rfl, rfl⟩ | ⟨b0, b1, rfl, rfl, rfl⟩ <;>
  first | exact absurd a0 b0 | exact absurd b0 a0 | exact absurd a1 b1 | exact absurd b1 a1 | exact ⟨rfl, rfl, rfl, fun h => absurd h (by assumption)⟩ | exact ⟨rfl, rfl, rfl, fun _ => rfl⟩
theorem St.place {α : Type} {d : α} {n : Nat} {g : Rs α} {p c q : Int} {v : α} {p' c' q' : Int} (h : St d n g p c q v p' c' q') : 0 ≤ p' ∧ p' ≤ n := ⟨h.1, h.2.1⟩
theorem St.good {α : Type} {d : α} {n : Nat} {g : Rs α} {p c q : Int} {v : α} {p' q' : Int} (h : St d n g p c q v p' 0 q') : c = 0 ∧ g.2.2.1 = 0 ∧ v = g.1 ∧ p' = g.2.1 ∧ q' = q := by
  obtain ⟨_, _, ⟨h0, _, h1, _⟩ | ⟨h0, h1, h2, h3, _, h4⟩ | ⟨_, h0, _, h1, _⟩⟩ := h
  · exact absurd h1.symm h0
  · exact ⟨h0, h1, h2, h3, h4⟩
  · exact absurd h1.symm h0
theorem St.nil {α : Type} {d : α} {n : Nat} {g : Rs α} {p c q : Int} {v : α} {p' c' q' : Int} (h : St d n g p c q v p' c' q') (hc : c' ≠ 0) : v = d := by
  obtain ⟨_, _, ⟨_, h1, _⟩ | ⟨_, _, _, _, h1, _⟩ | ⟨_, _, h1, _⟩⟩ := h
  · exact h1
  · exact absurd h1 hc
  · exact h1
theorem St.bad {α : Type} {d : α} {n : Nat} {g : Rs α} {p c q : Int} {v : α} {p' c' q' : Int} (h : St d n g p c q v p' c' q') (hc : c ≠ 0) : v = d ∧ c' = c ∧ q' = q := by
  obtain ⟨_, _, ⟨_, h1⟩ | ⟨h0, _⟩ | ⟨h0, _⟩⟩ := h
  · exact h1
  · exact absurd h0 hc
  · exact absurd h0 hc
theorem St.stay {α : Type} {d : α} {n : Nat} {g : Rs α} {p c q p' : Int} (h0 : 0 ≤ p') (h1 : p' ≤ n) (hc : c ≠ 0) : St d n g p c q d p' c q := ⟨h0, h1, .inl ⟨hc, rfl, rfl, rfl⟩⟩
theorem St.done {α : Type} {d : α} {n : Nat} {g : Rs α} {p q : Int} {v : α} {p' : Int} (e : g = (v, p', 0, 0)) (h0 : 0 ≤ p') (h1 : p' ≤ n) : St d n g p 0 q v p' 0 q := by
  subst e; exact ⟨h0, h1, .inr (.inl ⟨rfl, rfl, rfl, rfl, rfl, rfl⟩)⟩
def Rs.bind {α β : Type} (g : Rs α) (d : β) (f : α → Int → Rs β) : Rs β := if g.2.2.1 ≠ 0 then (d, 0, g.2.2.1, g.2.2.2) else f g.1 g.2.1
theorem St.bind {α β : Type} {d1 : α} {d : β} {n : Nat} {g : Rs α} {f : α → Int → Rs β} {p c q : Int} {v : α} {p1 c1 q1 : Int} {u : β} {p2 c2 q2 : Int} (h : St d1 n g p c q v p1 c1 q1) (k : St d n (f v p1) p1 c1 q1 u p2 c2 q2) :
    St d n (g.bind d f) p c q u p2 c2 q2 := by
  obtain ⟨_, _, h⟩ := h
  obtain ⟨k0, k1, k⟩ := k
  refine ⟨k0, k1, ?_⟩
  rcases h with ⟨a0, rfl, rfl, rfl⟩ | ⟨a0, a1, rfl, rfl, rfl, rfl⟩ | ⟨a0, a1, rfl, rfl, rfl⟩
  · rcases k with ⟨b0, rfl, rfl, rfl⟩ | ⟨b0, _⟩ | ⟨b0, _⟩
    · exact .inl ⟨a0, rfl, rfl, rfl⟩
    · exact absurd b0 a0
    · exact absurd b0 a0
  · rcases k with ⟨b0, _⟩ | ⟨b0, b1, rfl, rfl, rfl, rfl⟩ | ⟨b0, b1, rfl, rfl, rfl⟩
    · exact absurd rfl b0
    · refine .inr (.inl ⟨a0, ?_⟩)
      unfold Rs.bind
      rw [if_neg (by simp [a1])]
      exact ⟨b1, rfl, rfl, rfl, rfl⟩
    · refine .inr (.inr ⟨a0, ?_⟩)
      unfold Rs.bind
      rw [if_neg (by simp [a1])]
      exact ⟨b1, rfl, rfl, rfl⟩
  · rcases k with ⟨b0, rfl, rfl, rfl⟩ | ⟨b0, _⟩ | ⟨b0, _⟩
    · refine .inr (.inr ⟨a0, ?_⟩)
      unfold Rs.bind
      rw [if_pos a1]
      exact ⟨a1, rfl, rfl, rfl⟩
    · exact absurd b0 a1
    · exact absurd b0 a1
def Rs.map {α β : Type} (g : Rs α) (f : α → β) : Rs β := (f g.1, g.2.1, g.2.2.1, g.2.2.2)
theorem St.map {α β : Type} {d : α} {n : Nat} {g : Rs α} (f : α → β) {p c q : Int} {v : α} {p' c' q' : Int} (h : St d n g p c q v p' c' q') : St (f d) n (g.map f) p c q (f v) p' c' q' := by
  obtain ⟨h0, h1, h⟩ := h
  refine ⟨h0, h1, ?_⟩
  rcases h with ⟨a0, rfl, rfl, rfl⟩ | ⟨a0, a1, rfl, rfl, rfl, rfl⟩ | ⟨a0, a1, rfl, rfl, rfl⟩
  · exact .inl ⟨a0, rfl, rfl, rfl⟩
  · exact .inr (.inl ⟨a0, a1, rfl, rfl, rfl, rfl⟩)
  · exact .inr (.inr ⟨a0, a1, rfl, rfl, rfl⟩)
def vg (z : List Int) (p : Int) : Rs Int := ((vgo (z.drop p.toNat) 0 0).1, p + (vgo (z.drop p.toNat) 0 0).2.1, (vgo (z.drop p.toNat) 0 0).2.2.1, if (vgo (z.drop p.toNat) 0 0).2.2.1 = 0 then 0 else p + (vgo (z.drop p.toNat) 0 0).2.2.2)
def vm (z : List Int) (mo p : Int) : Rs Int := if (vg z p).2.2.1 ≠ 0 then (0, 0, (vg z p).2.2.1, (vg z p).2.2.2) else if mo < (vg z p).1 then (0, 0, 2, p) else vg z p
def tk (z : List Int) (x p : Int) : Rs (List Int) := if x < 0 then ([], 0, 17, p) else if (z.length : Int) - p < x then ([], 0, 1, z.length) else (piece z p.toNat (p + x).toNat, p + x, 0, 0)
end Go.Proofs.YtmiimjgfainclaaGreat.Cur
namespace Go.Proofs.YtmiimjgfainclaaGreat.Cur
open Go.RowKit Mem
set_option linter.unusedVariables false
theorem rw_new (w : World) (xs : List Value) (t : Nat) : Rw (w.alloc (.cells xs.toArray t)) (some ⟨w.heap.size, 0, none⟩) xs := fun _ =>
  ⟨_, _, rfl, fun i v hi => by
    rw [Nat.zero_add]
    exact (Blk.new w xs.toArray t).cell i (by simpa using hi)⟩
theorem own_ge {w : World} {B e size n : Nat} {v : Value} {xs : List Value} (h : w.ownsRow B e size v n xs) : ∀ g, v.ownBlock = some g → B ≤ g := fun g hg => (World.ownsRow.lt h g hg).1
theorem Kp.grown {b : Nat} {w w1 w2 : World} {r : Option Nat} (h : Kp b w w1) (k : w1.grownBy w2 r) (hr : ∀ g, r = some g → w.heap.size ≤ g) : Kp b w w2 :=
  ⟨k.os.trans h.os, k.tape.trans h.tape, k.output.trans h.output, Nat.le_trans h.size k.size, fun i hi hb => (k.block i (Nat.lt_of_lt_of_le hi h.size) (fun e => by have := hr i e.symm; omega)).trans (h.block i hi hb)⟩
theorem OwnU.ne_rd {w : World} {B b : Nat} {v s : Value} {z : List Int} {p c q : Int} (h : OwnU w B v z) (hr : IsRd w b s p c q) : v.ownBlock ≠ some b := own_ne_blk h hr (by decide)
end Go.Proofs.YtmiimjgfainclaaGreat.Cur
namespace Go.Proofs.YtmiimjgfainclaaGreat.Cur
open Go.RowKit Mem
set_option linter.unusedVariables false
def PRPost (B b : Nat) (r : Option Nat) (y : List Int) (M : Int) (w : World) (e : Ending) (w' : World) : Prop :=
  ∃ r', e = .returned (.tuple #[]) ∧ Ks (WS b r) w w' ∧ Gr r r' w ∧ Wr w' B b r' y M 0
theorem putZ_fits {z y : List Int} {M : Int} (h : (z.length : Int) + y.length ≤ M) : putZ z y M 0 = z ++ y ∧ putC z y M 0 = 0 := by
  unfold putZ putC fitsC
  rw [if_pos ⟨rfl, by omega⟩, if_neg (by omega)]
  exact ⟨rfl, rfl⟩
theorem rzk_mono (z : List Int) {i j : Nat} (h : i ≤ j) : (rzk z i).length ≤ (rzk z j).length := by
  induction j with
  | zero => obtain rfl : i = 0 := by omega
            exact Nat.le_refl _
  | succ j ih =>
    rcases Nat.lt_or_ge j i with h' | h'
    · obtain rfl : i = j + 1 := by omega
      exact Nat.le_refl _
    · have := ih h'; rw [rzk_succ_len]; omega
set_option maxHeartbeats 1000000 in
theorem putrising_yes {w : World} {B b : Nat} {r : Option Nat} {y : List Int} {M : Int} (A : Option Addr) (n m : Nat) (z : List Int) (h : Wr w B b r y M 0) (hz : Us w A n z) (hA : 0 < n → ∀ a, A = some a → ¬ WS b r a.block) (hn : n ≤ 1000) (hby : ∀ x ∈ z, 0 ≤ x ∧ x < 18446744073709551616) (hr : risesB z = true)
    (hM : (y.length : Int) + (rz z).length ≤ M) (hy : y.length ≤ 100000) (hBw : B ≤ w.heap.size) :
    Calls Tryz.prog 103 #[.pointer (some ⟨b, 0, none⟩), .slice A n m] w (PRPost B b r (y ++ rz z) M w) := by
  have HB := Lib.hid hby
  have HR := Lib.hid hr
  have HZ := Lib.hid hz.1
  have HM := Lib.hid hM
  clear hby hr hM
  go_enter Tryz.func103, Tryz.ntmps103
  go_wp2_with fail
  refine (rises_any _ _ _ _ _ hz (by omega) HB.out).mono ?_
  rintro e w1 ⟨rfl, hb1⟩
  rw [HR.out]
  have h1 := h.below hb1
  have hz1 := hz.below hb1
  have hBw1 : B ≤ w1.heap.size := Nat.le_trans hBw hb1.size
  have hk0 : Ks (WS b r) w w1 := Ks.of_below hb1
  have HA : Hid (0 < n → ∀ a, A = some a → a.block < w.heap.size ∧ ¬ WS b r a.block) := Lib.hid fun h0 a ha => ⟨hz.2.lt (by rw [List.length_map, hz.1]; exact h0) a ha, hA h0 a ha⟩
  clear hz h hb1 hA
  go_wp2
  go_loopw [12] (fun i wr => ∃ (k : Nat) (r' : Option Nat), k ≤ n ∧ i = .int .i64 k ∧ Ks (WS b r) w wr ∧ Gr r r' w ∧ Wr wr B b r' (y ++ rzk z k) M 0 ∧ Us wr A n z) (fun i _ => n - (intOf i).toNat)
  case atStart => exact ⟨0, r, by omega, rfl, hk0, Gr.refl _ _, by rw [rzk, List.append_nil]; exact h1, hz1⟩
  case round =>
    obtain ⟨k, r', hk, rfl, hks, hgr, hw, hus⟩ := hrel
    by_cases hlt : k < n
    · obtain ⟨s0, s1⟩ := stp_bd HZ.out hlt HB.out HR.out
      have hl := rzk_len z k
      have HFIT : Hid (((y ++ rzk z k).length : Int) + (vz (stp z k)).length ≤ M) := Lib.hid (by
        have h1 := rzk_mono z (show k + 1 ≤ n by omega)
        have h2 := HM.out
        unfold rz at h2
        rw [HZ.out] at h2
        rw [rzk_succ_len] at h1
        rw [List.length_append, vz_length]
        omega)
      have HN : Hid (rzk z (k + 1) = rzk z k ++ vz (stp z k)) := Lib.hid rfl
      go_wp2_with fail
      refine (step_any _ n m k z _ hus hlt (by omega) HB.out HR.out).mono ?_
      rintro e w2 ⟨rfl, hb2⟩
      have hks2 := hks.trans (Ks.of_below hb2)
      have hw2 := hw.below hb2
      have hus2 := hus.below hb2
      clear hks hw hus hb2
      generalize stp z k = x at *
      go_wp2_with fail
      refine (vput_any _ hw2 s0 s1 (by rw [List.length_append]; omega) (by have := hks2.size; omega)).mono ?_
      rintro e w3 ⟨r2, rfl, hk3, hg3, hw3⟩
      have hfit := putZ_fits HFIT.out
      rw [hfit.1, hfit.2, List.append_assoc, ← HN.out] at hw3
      clear hfit
      have hus3 := hus2.ks hk3 (fun h0 a ha hws => by
        obtain ⟨h1, h2⟩ := HA.out h0 a ha
        rcases hws with e | e
        · exact h2 (.inl e)
        · rcases hgr with rfl | ⟨g, rfl, hg⟩
          · exact h2 (.inr e)
          · injection e with e; omega)
      have hks3 := Ks.wr hks2 hgr hk3
      have hgr3 : Gr r r2 w := hgr.trans hg3 hks2.size
      clear hks2 hk3 hw2 hus2 hg3 hgr
      go_wp2
      go_roundw
      case rel => exact ⟨k + 1, r2, hlt, by go_num, hks3, hgr3, hw3, hus3⟩
      case measure => simp [intOf]; omega
    · obtain rfl : k = n := by omega
      have hrz : rzk z k = rz z := by unfold rz; rw [HZ.out]
      rw [hrz] at hw
      go_wp2
      go_end0
      exact ⟨r', rfl, hks, hgr, hw⟩
end Go.Proofs.YtmiimjgfainclaaGreat.Cur
namespace Go.Proofs.YtmiimjgfainclaaGreat.Cur
open Go.RowKit Mem
set_option linter.unusedVariables false
abbrev cvs (s : Value) (p c q : Int) : Array Value := #[s, .int .i64 p, .int .i64 c, .int .i64 q]
theorem below_set {w w' : World} {B b : Nat} (h : Below B w w') (hb : B ≤ b) (o : Nat) (v : Value) : Below B w (w'.setCell ⟨b, o, none⟩ v) := Below.setCell h hb v
theorem OwnU.base {w : World} {B B' : Nat} {v : Value} {acc : List Int} (h : OwnU w B v acc) (hB : B' ≤ B) : OwnU w B' v acc := own_base h fun g hg => Nat.le_trans hB (own_ge h g hg)
end Go.Proofs.YtmiimjgfainclaaGreat.Cur
namespace Go.Proofs.YtmiimjgfainclaaGreat.Cur
open Go.RowKit Mem
set_option linter.unusedVariables false
theorem rgo_shape {z : List Int} : ∀ (N : Nat) (p : Int) (acc : List Int), (rgo z N p acc).2.2.1 = 0 → (rgo z N p acc).2.2.2 = 0
  | 0, _, _, _ => rfl
  | N + 1, p, acc, h => by
    by_cases hg : (vgo (z.drop p.toNat) 0 0).2.2.1 = 0
    · by_cases ha : acc = []
      · subst ha
        rw [rgo_first hg] at h ⊢
        exact rgo_shape N _ _ h
      · by_cases ho : 18446744073709551615 - acc.getD (acc.length - 1) 0 ≤ (vgo (z.drop p.toNat) 0 0).1
        · rw [rgo_over hg ha ho] at h
          exact absurd h (by show ¬ (13 : Int) = 0; decide)
        · rw [rgo_next hg ha ho] at h ⊢
          exact rgo_shape N _ _ h
    · rw [rgo_bad hg] at h
      exact absurd h hg
theorem RgSt.ok {n : Nat} {z : List Int} {p q : Int} {N : Nat} {l : List Int} {p' q' : Int} (h : RgSt n z p 0 q N l p' 0 q') : rgo z N p [] = (l, p', 0, 0) := by
  obtain ⟨_, _, ⟨h, _⟩ | ⟨_, h1, h2, h3, _⟩ | ⟨_, h1, _, h2, _⟩⟩ := h
  · exact absurd rfl h
  · have h4 := rgo_shape _ _ _ h1
    rw [h2, h3]
    refine Prod.ext rfl (Prod.ext rfl (Prod.ext h1 h4))
  · exact absurd h2.symm h1
theorem RgSt.nil {n : Nat} {z : List Int} {p c q : Int} {N : Nat} {l : List Int} {p' c' q' : Int} (h : RgSt n z p c q N l p' c' q') (hc : c' ≠ 0) : l = [] := by
  obtain ⟨_, _, ⟨_, h1, _⟩ | ⟨_, _, _, _, h1, _⟩ | ⟨_, _, h1, _⟩⟩ := h
  · exact h1
  · exact absurd h1 hc
  · exact h1
end Go.Proofs.YtmiimjgfainclaaGreat.Cur
