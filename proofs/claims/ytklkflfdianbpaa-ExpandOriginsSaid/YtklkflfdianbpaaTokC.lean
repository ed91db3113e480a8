/- Tokens written: the document's Bytes; Put, Bytes, Total; Long. -/
import Derived.Test.YtklkflfdianbpaaTokB
namespace Go.Proofs.Ytklkflfdianbpaa.Cur
open Go.RowKit Mem
set_option linter.unusedVariables false

set_option maxHeartbeats 1000000 in
theorem tlong_any (A : Option Addr) (n m : Nat) (T : List Tk) (w : World) (h : TksL w A n T) :
    Calls Try.prog 7 #[.slice A n m] w fun e w' => e = .returned (.bool (tlong T)) ∧ w = w' := by
  have HT := Lib.hid h
  clear h
  go_enter Try.func7, Try.ntmps7
  go_wp2
  go_loopw [3] (fun i wr => ∃ k : Nat, k ≤ n ∧ k ≤ 100 ∧ i = .int .i64 k ∧ w = wr ∧ Hid (∀ j, j < k → (T.getD j tk0).1.length ≤ 300)) (fun i _ => n - (intOf i).toNat)
  case atStart => exact ⟨0, by omega, by omega, rfl, rfl, Lib.hid fun j hj => absurd hj (by omega)⟩
  case round =>
    obtain ⟨k, hk, hk1, rfl, rfl, HL⟩ := hrel
    by_cases hlt : k < n
    · by_cases h1 : k < 100
      · obtain ⟨b, o, Ar, Lr, Cr, rfl, ⟨c0, c1, c2, hbs⟩, hnil, hle⟩ := HT.out.2 k hlt
        by_cases h3 : 300 < Lr
        · have E : Hid (tlong T = true) := Lib.hid (tlong_at (by rw [HT.out.1]; exact hlt) h1 (by rw [hbs.1]; exact h3))
          clear c1 c2 hbs
          go_wp2
          go_ret
          exact ⟨by rw [E.out]; rfl, rfl⟩
        · have HN : Hid (∀ j, j < k + 1 → (T.getD j tk0).1.length ≤ 300) := Lib.hid (fun j hj => by
            rcases Nat.lt_succ_iff_lt_or_eq.1 hj with h | rfl
            · exact HL.out j h
            · rw [hbs.1]; omega)
          clear c1 c2 hbs
          go_wp2
          go_roundw
          case rel => exact ⟨k + 1, hlt, by omega, by go_num, by trivial, HN⟩
          case measure => simp [intOf]; omega
      · have E : Hid (tlong T = decide (100 < n)) := Lib.hid (by rw [tlong_end (fun i hi h => HL.out i (by omega)), HT.out.1])
        go_wp2
        go_ret
        exact ⟨by rw [E.out]; simp <;> omega, rfl⟩
    · obtain rfl : k = n := by omega
      have E : Hid (tlong T = decide (100 < k)) := Lib.hid (by rw [tlong_end (fun i hi h => HL.out i (by rw [HT.out.1] at hi; exact hi)), HT.out.1])
      go_wp2
      go_ret
      exact ⟨by rw [E.out]; simp <;> omega, rfl⟩

set_option maxRecDepth 100000 in
set_option maxHeartbeats 2000000 in
theorem rtbytes_any (A : Option Addr) (n m : Nat) (T : List Tk) (w : World) (h : TksL w A n T) (hr : ∀ i, i < n → tright (T.getD i tk0) = true) (hn : n ≤ 10000) (hsz : (tbs T n).length ≤ 700000) :
    Calls Try.prog 17 #[.slice A n m] w (RowPost (tbs T n) w) := by
  have HT := Lib.hid h
  have HR := Lib.hid hr
  have HSZ := Lib.hid hsz
  clear h hr hsz
  go_enter Try.func17, Try.ntmps17
  go_wp2
  go_loopw [3, 4] (fun v i wr => ∃ k : Nat, k ≤ n ∧ i = .int .i64 k ∧ Own wr w.heap.size v (tbs T k) ∧ Below w.heap.size w wr) (fun _ i _ => n - (intOf i).toNat)
  case atStart => exact ⟨0, by omega, rfl, by rw [tbs_zero]; exact Own.nil _ _, Below.refl _ _⟩
  case round =>
    obtain ⟨k, hk, rfl, ho, hb⟩ := hrel
    by_cases hlt : k < n
    · obtain ⟨b, o, Ar, Lr, Cr, rfl, hF, hnil, hle⟩ := HT.out.2 k hlt
      have hl1 := tbs_mono (T := T) (k := k) (j := k + 1) (by omega) (by rw [HT.out.1]; exact hlt)
      have hl2 := tbs_mono (T := T) (k := k + 1) (j := n) (by omega) (by rw [HT.out.1]; exact Nat.le_refl _)
      have HLN : Hid ((tbs T (k + 1)).length ≤ 700000) := Lib.hid (Nat.le_trans hl2 HSZ.out)
      have HS := Lib.hid (tbs_succ (T := T) (k := k) (by rw [HT.out.1]; exact hlt))
      have hrt := HR.out k hlt
      have hzl := hF.2.2.2.1
      have HF := Lib.hid hF
      have ho' := ho
      obtain ⟨A0, m0, rfl⟩ := ho'.slice
      clear hl1 hl2 hF ho'
      cases hrn : trun (T.getD k tk0).1.length (T.getD k tk0).2.1 (T.getD k tk0).2.2
      · -- a copy
        have hcp : tcpy (T.getD k tk0).1.length (T.getD k tk0).2.1 (T.getD k tk0).2.2 = true := by
          unfold tright at hrt; rw [hrn, Bool.false_or] at hrt; exact hrt
        have HE : Hid (tby (T.getD k tk0) = vz (2 * (T.getD k tk0).2.2 - 7) ++ vz ((T.getD k tk0).2.1 - 1)) := Lib.hid (by unfold tby; rw [hrn]; rfl)
        have H1 := rrun_any Ar Lr Cr (T.getD k tk0).2.1 (T.getD k tk0).2.2
        have hlen : (tbs T (k + 1)).length = (tbs T k).length + (vz (2 * (T.getD k tk0).2.2 - 7)).length + (vz ((T.getD k tk0).2.1 - 1)).length := by rw [HS.out, HE.out]; simp; omega
        have HL3 : Hid ((tbs T k).length + (vz (2 * (T.getD k tk0).2.2 - 7)).length + (vz ((T.getD k tk0).2.1 - 1)).length ≤ 700000) := Lib.hid (by rw [← hlen]; exact HLN.out)
        have hq : 1 ≤ (T.getD k tk0).2.1 ∧ (T.getD k tk0).2.1 ≤ 65536 ∧ 4 ≤ (T.getD k tk0).2.2 ∧ (T.getD k tk0).2.2 ≤ 1048576 := by unfold tcpy at hcp; rw [decide_eq_true_eq] at hcp; omega
        rw [← hzl, hrn] at H1
        clear hcp hrn hrt hlen
        rw [hzl] at H1
        generalize T.getD k tk0 = t at *
        obtain ⟨lit, o', l'⟩ := t
        simp only at *
        obtain ⟨q1, q2, q3, q4⟩ := hq
        have e1 : IntKind.i64.wrap (2 * l') = 2 * l' := IntWalk.i64_in _ (by omega)
        have e2 : IntKind.i64.wrap (2 * l' - 7) = 2 * l' - 7 := IntWalk.i64_in _ (by omega)
        have e3 : IntKind.u64.wrap (2 * l' - 7) = 2 * l' - 7 := IntWalk.u64_in _ (by omega)
        have e4 : IntKind.i64.wrap (o' - 1) = o' - 1 := IntWalk.i64_in _ (by omega)
        have e5 : IntKind.u64.wrap (o' - 1) = o' - 1 := IntWalk.u64_in _ (by omega)
        obtain ⟨c0, c1, c2, _⟩ := HF.out.below hb (Nat.le_refl _)
        go_wp2_with fail
        refine (H1 _).mono ?_
        rintro e w1 ⟨rfl, hb1⟩
        have ho1 := ho.below hb1
        have hbd1 := hb.trans (hb1.mono hb.size)
        clear c0 c1 c2 ho hb hb1 H1
        obtain ⟨c0, c1, c2, _⟩ := HF.out.below hbd1 (Nat.le_refl _)
        go_wp2_with fail
        refine (rbytes_any 10 (2 * l' - 7) _ (vsz_le _) (by omega) (by omega)).mono ?_
        rintro e w2 ⟨A2, m2, rfl, hb2, hbs2, hnil2, _⟩
        have ho2 := ho1.below hb2
        have hbd2 := hbd1.trans (hb2.mono hbd1.size)
        have hB2 := hbd2.size
        clear ho1 hbd1 hb2 c0 c1 c2
        go_wp2_with (at_builtin; go_must (refine list_append_gr rfl (.tmp 35) (.tmp 44) rfl w.heap.size _ _ rfl ho2 _ _ _ _ rfl hbs2 hnil2 (by have := HL3.out; omega) hB2 ?_; intro v3 w3 ho3 hg3 hgr3; have hbd3 := Own.belowOf hbd2 hB2 ho2 hg3; obtain ⟨A3, m3, hv3⟩ := ho3.slice; rw [List.length_append] at hv3; subst hv3; obtain ⟨c0, c1, c2, _⟩ := HF.out.below hbd3 (Nat.le_refl _); clear hg3 hgr3 hbs2 hbd2 hB2 ho2))
        refine (rbytes_any 10 (o' - 1) _ (vsz_le _) (by omega) (by omega)).mono ?_
        rintro e w4 ⟨A4, m4, rfl, hb4, hbs4, hnil4, _⟩
        have ho4 := ho3.below hb4
        have hbd4 := hbd3.trans (hb4.mono hbd3.size)
        have hB4 := hbd4.size
        clear ho3 hbd3 hb4 c0 c1 c2
        go_wp2_with (at_builtin; go_must (refine list_append_gr rfl (.tmp 46) (.tmp 54) rfl w.heap.size _ _ rfl ho4 _ _ _ _ rfl hbs4 hnil4 (by have := HL3.out; rw [List.length_append]; omega) hB4 ?_; intro v5 w5 ho5 hg5 hgr5; have hbd5 := Own.belowOf hbd4 hB4 ho4 hg5; clear hg5 hgr5 hbs4 hbd4 hB4 ho4))
        go_roundw
        case rel => exact ⟨k + 1, hlt, by go_num, by rw [HS.out, HE.out, ← List.append_assoc]; exact ho5, hbd5⟩
        case measure => simp [intOf]; omega
      · -- a run
        have HE : Hid (tby (T.getD k tk0) = vz (2 * ((T.getD k tk0).1.length : Int) - 2) ++ (T.getD k tk0).1) := Lib.hid (by unfold tby; rw [hrn]; rfl)
        have H1 := rrun_any Ar Lr Cr (T.getD k tk0).2.1 (T.getD k tk0).2.2
        have hlen : (tbs T (k + 1)).length = (tbs T k).length + (vz (2 * ((T.getD k tk0).1.length : Int) - 2)).length + (T.getD k tk0).1.length := by rw [HS.out, HE.out]; simp; omega
        have HL3 : Hid ((tbs T k).length + (vz (2 * ((T.getD k tk0).1.length : Int) - 2)).length + (T.getD k tk0).1.length ≤ 700000) := Lib.hid (by rw [← hlen]; exact HLN.out)
        have hq : 1 ≤ Lr ∧ Lr ≤ 1048576 := by unfold trun at hrn; rw [decide_eq_true_eq] at hrn; omega
        rw [← hzl, hrn] at H1
        clear hrn hrt hlen
        rw [hzl] at H1
        rw [hzl] at HL3 HE
        generalize T.getD k tk0 = t at *
        obtain ⟨lit, o', l'⟩ := t
        simp only at *
        obtain ⟨q1, q2⟩ := hq
        have HZL := Lib.hid hzl
        clear hzl
        have e1 : IntKind.i64.wrap (2 * (Lr : Int)) = 2 * Lr := IntWalk.i64_in _ (by omega)
        have e2 : IntKind.i64.wrap (2 * (Lr : Int) - 2) = 2 * Lr - 2 := IntWalk.i64_in _ (by omega)
        have e3 : IntKind.u64.wrap (2 * (Lr : Int) - 2) = 2 * Lr - 2 := IntWalk.u64_in _ (by omega)
        obtain ⟨c0, c1, c2, _⟩ := HF.out.below hb (Nat.le_refl _)
        go_wp2_with fail
        refine (H1 _).mono ?_
        rintro e w1 ⟨rfl, hb1⟩
        have ho1 := ho.below hb1
        have hbd1 := hb.trans (hb1.mono hb.size)
        clear c0 c1 c2 ho hb hb1 H1
        obtain ⟨c0, c1, c2, _⟩ := HF.out.below hbd1 (Nat.le_refl _)
        go_wp2_with fail
        refine (rbytes_any 10 (2 * (Lr : Int) - 2) _ (vsz_le _) (by omega) (by omega)).mono ?_
        rintro e w2 ⟨A2, m2, rfl, hb2, hbs2, hnil2, _⟩
        have ho2 := ho1.below hb2
        have hbd2 := hbd1.trans (hb2.mono hbd1.size)
        have hB2 := hbd2.size
        clear ho1 hbd1 hb2 c0 c1 c2
        go_wp2_with (at_builtin; go_must (first | (refine list_append_gr rfl (.tmp 16) (.tmp 26) rfl w.heap.size _ _ rfl ho2 _ _ _ _ rfl hbs2 hnil2 (by have := HL3.out; omega) hB2 ?_; intro v3 w3 ho3 hg3 hgr3; have hbd3 := Own.belowOf hbd2 hB2 ho2 hg3; obtain ⟨A3, m3, hv3⟩ := ho3.slice; rw [List.length_append] at hv3; subst hv3; obtain ⟨c0, c1, c2, hlit⟩ := HF.out.below hbd3 (Nat.le_refl _); have hB3 := hbd3.size; clear hg3 hgr3 hbs2 hbd2 hB2 ho2) | (refine list_append_gr rfl (.tmp 28) (.tmp 33) rfl w.heap.size _ _ rfl ho3 _ _ _ _ rfl hlit hnil (by have := HL3.out; rw [List.length_append]; omega) hB3 ?_; intro v5 w5 ho5 hg5 hgr5; have hbd5 := Own.belowOf hbd3 hB3 ho3 hg5; clear hg5 hgr5 hlit hbd3 hB3 ho3)))
        go_roundw
        case rel => exact ⟨k + 1, hlt, by go_num, by rw [HS.out, HE.out, ← List.append_assoc]; exact ho5, hbd5⟩
        case measure => simp [intOf]; omega
    · obtain rfl : k = n := by omega
      obtain ⟨A3, c3, rfl⟩ := ho.slice
      go_wp2
      go_ret
      exact Own.rowPost (B := 0) ho hb
end Go.Proofs.Ytklkflfdianbpaa.Cur
