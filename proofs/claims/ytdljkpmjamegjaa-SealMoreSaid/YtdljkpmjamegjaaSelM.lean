/- The document's Nodes, walked. -/
import Derived.Test.YtdljkpmjamegjaaSelL
namespace Go.Proofs.Ytdljkpmjamegjaa.Cur
open Go.RowKit Mem
set_option linter.unusedVariables false
set_option maxRecDepth 100000




set_option maxHeartbeats 8000000 in
theorem rnodes_any (A : Option Addr) (n m : Nat) (l : List Sl3) (e0 : Int) (w : World) (hz : Sls w A n l) (hsb : ∀ s ∈ l, sbd s) (hn : n ≤ 100000) :
    Calls Try.prog 24 #[.slice A n m, .int .u64 e0] w (RNdPost e0 l w) := by
  have HL := Lib.hid hz.1
  have HC : Hid (n ≠ 0 → ∃ g o, A = some ⟨g, o, none⟩ ∧ g < w.heap.size ∧ ∀ w', Below w.heap.size w w' → ∀ k, k < n →
    w'.cell? ⟨g, o + k * 3, none⟩ = some (.int .u64 (l.getD k (0, 0, 0)).1) ∧ w'.cell? ⟨g, o + k * 3 + 1, none⟩ = some (.int .u64 (l.getD k (0, 0, 0)).2.1) ∧ w'.cell? ⟨g, o + k * 3 + 2, none⟩ = some (.int .u64 (l.getD k (0, 0, 0)).2.2)) := Lib.hid fun h => hz.cells (by omega)
  have HB : Hid (∀ k, k < n → 0 ≤ (l.getD k (0, 0, 0)).1) := Lib.hid fun k hk => by
    have hkl : k < l.length := by rw [hz.1]; exact hk
    rw [List.getD_eq_getElem?_getD, List.getElem?_eq_getElem hkl]
    exact (hsb _ (List.getElem_mem hkl)).1.1
  clear hz hsb
  go_enter Try.func24, Try.ntmps24
  go_wp2
  go_loopw [6, 7, 8] (fun v6 v7 v8 wr => ∃ (i : Nat) (D : List Int) (t : Int), i ≤ n ∧ v8 = .int .i64 i ∧ v6 = .int .i64 D.length ∧ v7 = .int .u64 t ∧ Hid (Cn e0 l i D) ∧ Hid (Mx (vl e0 (l.take i)) t) ∧ D.length ≤ i ∧ Below w.heap.size w wr) (fun _ _ v _ => n - (intOf v).toNat)
  case atStart => exact ⟨0, [], 0, by omega, rfl, rfl, rfl, Lib.hid (Cn.zero _ _), Lib.hid (by rw [List.take_zero]; exact Mx.nil), by simp, Below.refl _ _⟩
  case round =>
    obtain ⟨i, D, t, hi, rfl, rfl, rfl, HCN, HMX, hDi, hb⟩ := hrel
    by_cases hlt : i < n
    · obtain ⟨g, o, rfl, hg, hc⟩ := HC.out (by omega)
      have Li := fun w' h => hc w' h i hlt
      have hi0 := HB.out i hlt
      have hil : i < l.length := by rw [HL.out]; exact hlt
      have HSK := Lib.hid (HCN.out.skip hil)
      have HFS := Lib.hid (HCN.out.fresh hil)
      have HST := Lib.hid (HCN.out.stale hil)
      have HV := Lib.hid (vl_snoc (e := e0) hil)
      have HM2 := Lib.hid (HMX.out.snoc (l.getD i (0, 0, 0)))
      have HCC := Lib.hid hc
      obtain ⟨s, hsi⟩ : ∃ s, s = l.getD i (0, 0, 0) := ⟨_, rfl⟩
      rw [← hsi] at Li hi0 HSK HFS HST HV HM2
      clear hsi hc
      obtain ⟨i0, i1, i2⟩ := s
      dsimp only at Li hi0 HM2 HFS HST
      have e2 : (i : Int) < n := by omega
      have e3 : IntKind.i64.wrap ((i : Int) + 1) = ((i + 1 : Nat) : Int) := IntWalk.i64_in _ (by omega)
      obtain ⟨c0, c1, c2⟩ := Li wr hb
      obtain ⟨d, hd⟩ : ∃ d, d = D.length := ⟨_, rfl⟩
      rw [← hd] at hDi ⊢
      have HDL := Lib.hid hd
      clear hd
      cases hs : slok (i0, i1, i2)
      · have HNV : Hid (vk e0 (i0, i1, i2) = false) := Lib.hid (by unfold vk; rw [hs, Bool.and_false])
        go_wp2_with fail
        with_reducible refine (rright18_any (i0, i1, i2) hi0 _).mono ?_
        rintro e w1 ⟨rfl, hb1⟩
        rw [hs]
        have HBB := Lib.hid (hb.trans (hb1.mono hb.size))
        clear hb hb1 Li c0 c1 c2 hs
        go_wp2
        go_roundw
        case measure => simp [intOf]; omega
        case rel => exact ⟨i + 1, D, t, by omega, by go_num, by rw [HDL.out], rfl, Lib.hid (HSK.out HNV.out), Lib.hid (by rw [HV.out, if_neg (by rw [HNV.out]; simp)]; exact HMX.out), by rw [← HDL.out]; omega, HBB.out⟩
      · go_wp2_with fail
        with_reducible refine (rright18_any (i0, i1, i2) hi0 _).mono ?_
        rintro e w1 ⟨rfl, hb1⟩
        rw [hs]
        have hb2 := hb.trans (hb1.mono hb.size)
        clear hb hb1 c0 c1 c2
        obtain ⟨c0, c1, c2⟩ := Li w1 hb2
        by_cases he : i0 = e0
        · have HYV : Hid (vk e0 (i0, i1, i2) = true) := Lib.hid (by unfold vk; rw [hs, decide_eq_true he]; rfl)
          have e4 : (i0 != e0) = false := by simpa using he
          have HMX2 : Hid (Mx (vl e0 (l.take (i + 1))) (max t i2)) := Lib.hid (by rw [HV.out, if_pos HYV.out]; exact HM2.out)
          clear HMX HM2 he hs
          have HMX := HMX2
          clear HMX2
          go_wp2
          clear c0 c1 c2 e4
          go_loopw [9, 10] (fun v9 v10 wr2 => ∃ (j : Nat) (b : Bool), j ≤ i ∧ v10 = .int .i64 j ∧ v9 = .bool b ∧ Hid (b = true ↔ Fr e0 l i1 j) ∧ Below w.heap.size w wr2) (fun _ v _ => i - (intOf v).toNat)
          case atStart => exact ⟨0, true, by omega, rfl, rfl, Lib.hid ⟨fun _ k hk => absurd hk (by omega), fun _ => rfl⟩, hb2⟩
          case round =>
            clear hb2
            obtain ⟨j, b, hj, rfl, rfl, HF, hb2⟩ := hrel
            by_cases hji : j < i
            · have Lj := fun w' h => HCC.out w' h j (by omega)
              have hj0 := HB.out j (by omega)
              have hst := fun b' => Fr.step (b' := b') HF.out
              generalize l.getD j (0, 0, 0) = s at *
              obtain ⟨j0, j1, j2⟩ := s
              dsimp only at Lj hj0 hst
              have e4 : (j : Int) < n := by omega
              have e5 : (j : Int) < i := by omega
              have e6 : IntKind.i64.wrap ((j : Int) + 1) = ((j + 1 : Nat) : Int) := IntWalk.i64_in _ (by omega)
              cases hs : slok (j0, j1, j2)
              · have HFR := Lib.hid (hst b (by unfold vk; rw [hs, Bool.and_false]; simp))
                clear hst
                go_wp2
                have hS := hb2.trans ((below_one' _).mono hb2.size)
                refine Seq.wp_region_seq (fun w' => Below w.heap.size w w') (by kernel_rfl) (by kernel_rfl) hS ?_
                repeat (first | (refine Seq.Seq.skip (by rfl) ?_; (try simp only [Act.put, List.setIfInBounds_toArray, List.set_cons_zero, List.set_cons_succ])) | (refine Seq.Seq.det ?_ (by rfl) (fun w hS => ?_) ?_; rotate_left; ((try dsimp only at hS); go_simp; (try rw [if_pos (by omega)]); with_reducible rfl); (try simp only [Act.put, List.setIfInBounds_toArray, List.set_cons_zero, List.set_cons_succ])))
                refine Seq.Seq.make (by rfl) (by rfl) (fun K Q' hK => ?_)
                go_simp
                go_at_call 14
                with_reducible refine (rright18_any (j0, j1, j2) hj0 _).mono ?_
                rintro e w5 ⟨rfl, hb5⟩
                rw [hs]
                replace hS := hS.trans (hb5.mono hS.size)
                refine hK.out _ _ (hS) ?_
                clear hK K
                try simp only [Act.put, List.setIfInBounds_toArray, List.set_cons_zero, List.set_cons_succ]
                repeat (first | (refine Seq.Seq.skip (by rfl) ?_; (try simp only [Act.put, List.setIfInBounds_toArray, List.set_cons_zero, List.set_cons_succ])) | (refine Seq.Seq.det ?_ (by rfl) (fun w hS => ?_) ?_; rotate_left; ((try dsimp only at hS); go_simp; (try rw [if_pos (by omega)]); with_reducible rfl); (try simp only [Act.put, List.setIfInBounds_toArray, List.set_cons_zero, List.set_cons_succ])))
                refine Seq.Seq.nil ?_
                clear hb2 hb5 Lj Li hs
                have HSS := Lib.hid hS
                clear hS
                go_wp2
                go_roundw
                case measure => simp [intOf]; omega
                case rel => exact ⟨j + 1, _, by omega, by go_num, rfl, HFR, HSS.out⟩
              · by_cases hje : j0 = e0
                · replace hje := hje.symm
                  subst hje
                  by_cases hjn : j1 = i1
                  · replace hjn := hjn.symm
                    subst hjn
                    have HFR := Lib.hid (hst false (by unfold vk; rw [hs]; simp))
                    clear hst
                    go_wp2
                    have hS := hb2.trans ((below_one' _).mono hb2.size)
                    refine Seq.wp_region_seq (fun w' => Below w.heap.size w w') (by kernel_rfl) (by kernel_rfl) hS ?_
                    repeat (first | (refine Seq.Seq.skip (by rfl) ?_; (try simp only [Act.put, List.setIfInBounds_toArray, List.set_cons_zero, List.set_cons_succ])) | (refine Seq.Seq.det ?_ (by rfl) (fun w hS => ?_) ?_; rotate_left; ((try dsimp only at hS); go_simp; (try rw [if_pos (by omega)]); with_reducible rfl); (try simp only [Act.put, List.setIfInBounds_toArray, List.set_cons_zero, List.set_cons_succ])))
                    refine Seq.Seq.make (by rfl) (by rfl) (fun K Q' hK => ?_)
                    go_simp
                    go_at_call 14
                    with_reducible refine (rright18_any (e0, i1, j2) hj0 _).mono ?_
                    rintro e w5 ⟨rfl, hb5⟩
                    rw [hs]
                    replace hS := hS.trans (hb5.mono hS.size)
                    refine hK.out _ _ (hS) ?_
                    clear hK K
                    try simp only [Act.put, List.setIfInBounds_toArray, List.set_cons_zero, List.set_cons_succ]
                    repeat (first | (refine Seq.Seq.skip (by rfl) ?_; (try simp only [Act.put, List.setIfInBounds_toArray, List.set_cons_zero, List.set_cons_succ])) | (refine Seq.Seq.det ?_ (by rfl) (fun w hS => ?_) ?_; rotate_left; ((try dsimp only at hS); go_simp; (try rw [if_pos (by omega)]); with_reducible rfl); (try simp only [Act.put, List.setIfInBounds_toArray, List.set_cons_zero, List.set_cons_succ])))
                    refine Seq.Seq.nil ?_
                    clear hb2 hb5 Lj Li hs
                    have HSS := Lib.hid hS
                    clear hS
                    go_wp2
                    go_roundw
                    case measure => simp [intOf]; omega
                    case rel => exact ⟨j + 1, _, by omega, by go_num, rfl, HFR, HSS.out⟩
                  · have HFR := Lib.hid (hst b (by rw [decide_eq_false hjn]; simp))
                    have e8 : (j1 == i1) = false := by simpa using hjn
                    clear hst hjn
                    go_wp2
                    have hS := hb2.trans ((below_one' _).mono hb2.size)
                    refine Seq.wp_region_seq (fun w' => Below w.heap.size w w') (by kernel_rfl) (by kernel_rfl) hS ?_
                    repeat (first | (refine Seq.Seq.skip (by rfl) ?_; (try simp only [Act.put, List.setIfInBounds_toArray, List.set_cons_zero, List.set_cons_succ])) | (refine Seq.Seq.det ?_ (by rfl) (fun w hS => ?_) ?_; rotate_left; ((try dsimp only at hS); go_simp; (try rw [if_pos (by omega)]); with_reducible rfl); (try simp only [Act.put, List.setIfInBounds_toArray, List.set_cons_zero, List.set_cons_succ])))
                    refine Seq.Seq.make (by rfl) (by rfl) (fun K Q' hK => ?_)
                    go_simp
                    go_at_call 14
                    with_reducible refine (rright18_any (e0, j1, j2) hj0 _).mono ?_
                    rintro e w5 ⟨rfl, hb5⟩
                    rw [hs]
                    replace hS := hS.trans (hb5.mono hS.size)
                    refine hK.out _ _ (hS) ?_
                    clear hK K
                    try simp only [Act.put, List.setIfInBounds_toArray, List.set_cons_zero, List.set_cons_succ]
                    repeat (first | (refine Seq.Seq.skip (by rfl) ?_; (try simp only [Act.put, List.setIfInBounds_toArray, List.set_cons_zero, List.set_cons_succ])) | (refine Seq.Seq.det ?_ (by rfl) (fun w hS => ?_) ?_; rotate_left; ((try dsimp only at hS); go_simp; (try rw [if_pos (by omega)]); with_reducible rfl); (try simp only [Act.put, List.setIfInBounds_toArray, List.set_cons_zero, List.set_cons_succ])))
                    refine Seq.Seq.nil ?_
                    clear hb2 hb5 Lj Li hs
                    have HSS := Lib.hid hS
                    clear hS
                    go_wp2
                    go_roundw
                    case measure => simp [intOf]; omega
                    case rel => exact ⟨j + 1, _, by omega, by go_num, rfl, HFR, HSS.out⟩
                · have HFR := Lib.hid (hst b (by unfold vk; rw [decide_eq_false hje]; simp))
                  have e7 : (j0 == e0) = false := by simpa using hje
                  clear hst hje
                  go_wp2
                  have hS := hb2.trans ((below_one' _).mono hb2.size)
                  refine Seq.wp_region_seq (fun w' => Below w.heap.size w w') (by kernel_rfl) (by kernel_rfl) hS ?_
                  repeat (first | (refine Seq.Seq.skip (by rfl) ?_; (try simp only [Act.put, List.setIfInBounds_toArray, List.set_cons_zero, List.set_cons_succ])) | (refine Seq.Seq.det ?_ (by rfl) (fun w hS => ?_) ?_; rotate_left; ((try dsimp only at hS); go_simp; (try rw [if_pos (by omega)]); with_reducible rfl); (try simp only [Act.put, List.setIfInBounds_toArray, List.set_cons_zero, List.set_cons_succ])))
                  refine Seq.Seq.make (by rfl) (by rfl) (fun K Q' hK => ?_)
                  go_simp
                  go_at_call 14
                  with_reducible refine (rright18_any (j0, j1, j2) hj0 _).mono ?_
                  rintro e w5 ⟨rfl, hb5⟩
                  rw [hs]
                  replace hS := hS.trans (hb5.mono hS.size)
                  refine hK.out _ _ (hS) ?_
                  clear hK K
                  try simp only [Act.put, List.setIfInBounds_toArray, List.set_cons_zero, List.set_cons_succ]
                  repeat (first | (refine Seq.Seq.skip (by rfl) ?_; (try simp only [Act.put, List.setIfInBounds_toArray, List.set_cons_zero, List.set_cons_succ])) | (refine Seq.Seq.det ?_ (by rfl) (fun w hS => ?_) ?_; rotate_left; ((try dsimp only at hS); go_simp; (try rw [if_pos (by omega)]); with_reducible rfl); (try simp only [Act.put, List.setIfInBounds_toArray, List.set_cons_zero, List.set_cons_succ])))
                  refine Seq.Seq.nil ?_
                  clear hb2 hb5 Lj Li hs
                  have HSS := Lib.hid hS
                  clear hS
                  go_wp2
                  go_roundw
                  case measure => simp [intOf]; omega
                  case rel => exact ⟨j + 1, _, by omega, by go_num, rfl, HFR, HSS.out⟩
            · obtain rfl : j = i := by omega
              cases b
              · have HCN2 := Lib.hid (HST.out HYV.out (fun h => by have := HF.out.2 h; cases this))
                clear HCN HFS HST HSK
                have HCN := HCN2
                clear HF HCN2
                obtain ⟨q0, q1, q2⟩ := Li _ hb2
                have HBB := Lib.hid hb2
                clear Li hb2
                by_cases hgt : t < i2
                · have HT : Hid (Mx (vl e0 (l.take (j + 1))) i2) := Lib.hid (by have := HMX.out; rwa [show max t i2 = i2 by omega] at this)
                  go_wp2
                  go_roundw
                  case measure => simp [intOf]; omega
                  case rel => exact ⟨j + 1, D, i2, by omega, by go_num, by rw [HDL.out], rfl, HCN, HT, by rw [← HDL.out]; omega, HBB.out⟩
                · have HT : Hid (Mx (vl e0 (l.take (j + 1))) t) := Lib.hid (by have := HMX.out; rwa [show max t i2 = t by omega] at this)
                  go_wp2
                  go_roundw
                  case measure => simp [intOf]; omega
                  case rel => exact ⟨j + 1, D, t, by omega, by go_num, by rw [HDL.out], rfl, HCN, HT, by rw [← HDL.out]; omega, HBB.out⟩
              · have HCN2 := Lib.hid (HFS.out HYV.out (HF.out.1 rfl))
                clear HCN HFS HST HSK
                have HCN := HCN2
                have e9 : IntKind.i64.wrap ((d : Int) + 1) = ((d + 1 : Nat) : Int) := IntWalk.i64_in _ (by omega)
                clear HF HCN2
                obtain ⟨q0, q1, q2⟩ := Li _ hb2
                have HBB := Lib.hid hb2
                clear Li hb2
                by_cases hgt : t < i2
                · have HT : Hid (Mx (vl e0 (l.take (j + 1))) i2) := Lib.hid (by have := HMX.out; rwa [show max t i2 = i2 by omega] at this)
                  go_wp2
                  go_roundw
                  case measure => simp [intOf]; omega
                  case rel => exact ⟨j + 1, (D ++ [i1]), i2, by omega, by go_num, by rw [List.length_append, ← HDL.out]; first | rfl | go_num, rfl, HCN, HT, by rw [List.length_append, ← HDL.out]; simp; omega, HBB.out⟩
                · have HT : Hid (Mx (vl e0 (l.take (j + 1))) t) := Lib.hid (by have := HMX.out; rwa [show max t i2 = t by omega] at this)
                  go_wp2
                  go_roundw
                  case measure => simp [intOf]; omega
                  case rel => exact ⟨j + 1, (D ++ [i1]), t, by omega, by go_num, by rw [List.length_append, ← HDL.out]; first | rfl | go_num, rfl, HCN, HT, by rw [List.length_append, ← HDL.out]; simp; omega, HBB.out⟩
        · have HNV : Hid (vk e0 (i0, i1, i2) = false) := Lib.hid (by unfold vk; rw [decide_eq_false he]; rfl)
          have e4 : (i0 != e0) = true := by simpa using he
          have HBB := Lib.hid hb2
          clear hb2 Li he hs
          go_wp2
          go_roundw
          case measure => simp [intOf]; omega
          case rel => exact ⟨i + 1, D, t, by omega, by go_num, by rw [HDL.out], rfl, Lib.hid (HSK.out HNV.out), Lib.hid (by rw [HV.out, if_neg (by rw [HNV.out]; simp)]; exact HMX.out), by rw [← HDL.out]; omega, HBB.out⟩
    · obtain rfl : i = n := by omega
      have HE : Hid (vl e0 (l.take i) = vl e0 l) := Lib.hid (by rw [List.take_of_length_le (by rw [HL.out]; exact Nat.le_refl _)])
      have HBB := Lib.hid hb
      clear hb
      go_wp2
      go_ret2
      exact ⟨D, t, rfl, HBB.out, HCN.out.1, by rw [← HE.out]; exact HCN.out.2, by rw [← HE.out]; exact HMX.out, by rw [HL.out]; exact hDi⟩
end Go.Proofs.Ytdljkpmjamegjaa.Cur
