/- SealTails: called with any seals, any number and any int, the law returns true; no condition. -/
import Derived.Test.YtdljkpmjamegjaaRows
import Derived.Test.YtdljkpmjamegjaaSelM
import Derived.Test.YtdljkpmjamegjaaSelF
import Derived.Test.YtdljkpmjamegjaaK1
import Derived.IntWalk
import Derived.BigQuiet
import Derived.ProofKit
import Derived.OpenShut
import Derived.ShutString
import Derived.ChangeOld
namespace Go.Proofs.Ytdljkpmjamegjaa.sealTails
open Go.ChangeShapes Go.WideShapes Go.ChangeAt Go.RowKit
open Go.ChangeMaps (open_string shut_string)
set_option linter.unusedVariables false

theorem own : ownKnob Try.prog.godebug = none := by kernel_rfl
theorem laidOut : laidOutB Try.prog = true := by kernel_rfl
open Cur Mem

set_option maxRecDepth 100000



set_option maxHeartbeats 8000000 in
theorem walk {H : Type} (enc : TypeId × Value → H) (w : World) (base : Nat) (v0 : Value) (d0 : DataW H) (p0 : List MemPlace) (g0 : Value.okWide Try.prog w .any base 54 v0) (h0 : DataW.Trod enc Try.prog w 0 (fun _ => true) true 54 v0 d0 p0) (v1 : Value) (d1 : DataW H) (p1 : List MemPlace) (g1 : Value.okWide Try.prog w .any base 22 v1) (h1 : DataW.Trod enc Try.prog w 0 (fun _ => true) true 22 v1 d1 p1) (v2 : Value) (d2 : DataW H) (p2 : List MemPlace) (g2 : Value.okWide Try.prog w .any base 3 v2) (h2 : DataW.Trod enc Try.prog w 0 (fun _ => true) true 3 v2 d2 p2) :
    Calls Try.prog 5 #[v0, v1, v2] w fun e w' => e = .returned (.bool true) ∧ Below w.heap.size w w' := by
  obtain ⟨A, n, m, l, rfl, hnm, hz, hsb, hnil⟩ := open_seals g0 h0
  obtain ⟨e0, rfl, x0, x1⟩ := open_u64 g1 h1
  obtain ⟨q, rfl, q0, q1⟩ := open_i64 g2 h2
  clear g0 h0 g1 h1 g2 h2
  by_cases hn : 100 < (n : Int)
  · go_enter Try.func5, Try.ntmps5
    go_wp2_with fail
    refine (live18_any _).mono ?_
    rintro e w1 ⟨rfl, hb⟩
    go_wp2
    go_ret
    exact ⟨rfl, hb⟩
  have hnd := nodes_any A n m l e0 w hz (by omega)
  have HRN := Lib.hid (fun w' (hb : Below w.heap.size w w') => rnodes_any A n m l e0 w' (hz.below hb) hsb (by omega))
  have HTL := Lib.hid (fun w' (hb : Below w.heap.size w w') => tail_any A n m l e0 q w' (hz.below hb) (by omega) q1)
  have HB : Hid (∀ k, k < n → 0 ≤ (l.getD k (0, 0, 0)).1) := Lib.hid fun k hk => by
    have hkl : k < l.length := by rw [hz.1]; exact hk
    rw [List.getD_eq_getElem?_getD, List.getElem?_eq_getElem hkl]
    exact (hsb _ (List.getElem_mem hkl)).1.1
  have HZ := Lib.hid hz
  unfold NdPost at hnd
  clear hz hsb
  go_enter Try.func5, Try.ntmps5
  go_wp2_with fail
  refine hnd.mono ?_
  rintro e w1 ⟨v, D, rfl, hu, hb1, hr, hd, hdl⟩
  obtain ⟨Av, cv, rfl⟩ := OwnU.slice hu
  obtain ⟨_, _, _, hus⟩ := OwnU.us hu
  obtain ⟨N, hN⟩ : ∃ N, N = D.length := ⟨_, rfl⟩
  have hNn : N ≤ 100 := by have := vl_len e0 l; have := HZ.out.1; omega
  rw [← hN] at hus ⊢
  have HN := Lib.hid hN
  have HR := Lib.hid hr
  have HD := Lib.hid hd
  clear hnd hu hr hd hdl hN
  go_wp2_with fail
  have hrn := HRN.out w1 hb1
  unfold RNdPost at hrn
  refine hrn.mono ?_
  rintro e w2 ⟨D3, t3, rfl, hb2, hnd3, hds3, hmx3, _⟩
  have h31 : D3.length = N := by
    have a := nds_le hds3 hnd3 HD.out (fun s h => h)
    have b := nds_le HD.out HR.out.nodup hds3 (fun s h => h)
    have := HN.out; omega
  rw [h31]
  have HM3 := Lib.hid hmx3
  have hbd := hb1.trans (hb2.mono hb1.size)
  replace hus := hus.below hb2
  clear hrn hb1 hb2 hnd3 hds3 hmx3 h31
  go_wp2_with fail
  have htl := HTL.out w2 hbd
  unfold TlPost at htl
  refine htl.mono ?_
  rintro e wb ⟨hb3, hways⟩
  replace hus := hus.below hb3
  have HBD := Lib.hid (hbd.trans (hb3.mono hbd.size))
  have HU : Hid (N ≠ 0 → ∃ g o, Av = some ⟨g, o, none⟩ ∧ g < wb.heap.size ∧ ∀ w', Below wb.heap.size wb w' → ∀ k, k < N → w'.cell? ⟨g, o + k, none⟩ = some (.int .u64 (D.getD k 0))) := Lib.hid fun h => hus.cells (by omega)
  have hz2 := HZ.out.below HBD.out
  have HC : Hid (n ≠ 0 → ∃ g o, A = some ⟨g, o, none⟩ ∧ g < wb.heap.size ∧ ∀ w', Below wb.heap.size wb w' → ∀ k, k < n →
    w'.cell? ⟨g, o + k * 3, none⟩ = some (.int .u64 (l.getD k (0, 0, 0)).1) ∧ w'.cell? ⟨g, o + k * 3 + 1, none⟩ = some (.int .u64 (l.getD k (0, 0, 0)).2.1) ∧ w'.cell? ⟨g, o + k * 3 + 2, none⟩ = some (.int .u64 (l.getD k (0, 0, 0)).2.2)) := Lib.hid fun h => hz2.cells (by omega)
  have HMET : Hid (∀ i, i < N → ¬ Fr e0 l (D.getD i 0) n) := Lib.hid fun i hi hf => by
    have hil : i < D.length := by rw [← HN.out]; exact hi
    obtain ⟨s, hs, hx⟩ := (HD.out _).1 (getD_mem hil)
    obtain ⟨h1, h2⟩ := vl_mem.1 hs
    obtain ⟨j, hj, e2⟩ := List.mem_iff_getElem.1 h1
    refine hf j (by rw [← HZ.out.1]; exact hj) ?_
    rw [List.getD_eq_getElem?_getD, List.getElem?_eq_getElem hj]
    show vk e0 l[j] = true ∧ l[j].2.1 = _
    rw [e2]
    exact ⟨h2, hx⟩
  have HRIS : Hid (∀ i, i < N → i ≠ 0 → D.getD (i - 1) 0 < D.getD i 0) := Lib.hid fun i hi h0 => HR.out (i - 1) i (by omega) (by rw [← HN.out]; exact hi)
  clear htl hb3 hus hz2 hbd HRN HTL HZ
  rcases hways with ⟨hq, rfl⟩ | ⟨hq, D2, hr2, hd2, ⟨hq2, rfl⟩ | ⟨hq2, t, hm2, rfl⟩⟩
  · have HD1 := HD
    clear HD HR HN HM3
    go_wp2
    go_loopw [12] (fun v12 wr => ∃ i : Nat, i ≤ N ∧ v12 = .int .i64 i ∧ Below wb.heap.size wb wr) (fun v _ => N - (intOf v).toNat)
    case atStart => exact ⟨0, by omega, rfl, Below.refl _ _⟩
    case round =>
      obtain ⟨i, hi, rfl, hb⟩ := hrel
      by_cases hlt : i < N
      · obtain ⟨ng, no, rfl, hng, hnc⟩ := HU.out (by omega)
        have Ni := fun w' h => hnc w' h i hlt
        have HNC := Lib.hid hnc
        have HMEM := Lib.hid (HMET.out i hlt)
        have HRI := Lib.hid (HRIS.out i hlt)
        generalize hx : D.getD i 0 = x at *
        have HX := Lib.hid hx
        clear hx hnc
        have e2 : (i : Int) < N := by omega
        have e3 : IntKind.i64.wrap ((i : Int) + 1) = ((i + 1 : Nat) : Int) := IntWalk.i64_in _ (by omega)
        go_wp2
        go_loopw [13, 14] (fun v13 v14 wr2 => ∃ (j : Nat) (b : Bool), j ≤ n ∧ v14 = .int .i64 j ∧ v13 = .bool b ∧ Hid ((!b) = true ↔ Fr e0 l x j) ∧ Below wb.heap.size wb wr2) (fun _ v _ => n - (intOf v).toNat)
        case atStart => exact ⟨0, false, by omega, rfl, rfl, Lib.hid ⟨fun _ k hk => absurd hk (by omega), fun _ => rfl⟩, hb⟩
        case round =>
          clear hb
          obtain ⟨j, b, hj, rfl, rfl, HF, hb2⟩ := hrel
          by_cases hji : j < n
          · obtain ⟨g, o, rfl, hg, hc⟩ := HC.out (by omega)
            have Lj := fun w' h => hc w' h j hji
            have hj0 := HB.out j hji
            have hst := fun b' => Fr.step (b := !b) (b' := !b') HF.out
            have e4 : (j : Int) < n := by omega
            have e6 : IntKind.i64.wrap ((j : Int) + 1) = ((j + 1 : Nat) : Int) := IntWalk.i64_in _ (by omega)
            cases b
            · generalize l.getD j (0, 0, 0) = s at *
              obtain ⟨j0, j1, j2⟩ := s
              dsimp only at Lj hj0 hst
              clear hc
              cases hs : slok (j0, j1, j2)
              · have HFR := Lib.hid (hst false (by unfold vk; rw [hs, Bool.and_false]; simp))
                clear hst HF
                go_wp2
                have hS := hb2.trans ((below_one' _).mono hb2.size)
                clear hb2
                refine Seq.wp_region_seq (fun w' => Below wb.heap.size wb w') (by kernel_rfl) (by kernel_rfl) hS ?_
                repeat (first | (refine Seq.Seq.skip (by rfl) ?_; (try simp only [Act.put, List.setIfInBounds_toArray, List.set_cons_zero, List.set_cons_succ])) | (refine Seq.Seq.det ?_ (by rfl) (fun w hS => ?_) ?_; rotate_left; ((try dsimp only at hS); go_simp; (try rw [if_pos (by omega)]); with_reducible rfl); (try simp only [Act.put, List.setIfInBounds_toArray, List.set_cons_zero, List.set_cons_succ])))
                refine Seq.Seq.make (by rfl) (by rfl) (fun K Q' hK => ?_)
                go_simp
                go_at_call 14
                with_reducible refine (rright18_any (j0, j1, j2) hj0 _).mono ?_
                rintro e w5 ⟨rfl, hb5⟩
                rw [hs]
                replace hS := hS.trans (hb5.mono hS.size)
                refine hK.out _ _ (hS) ?_
                clear hK K
                try simp only [Act.put, List.setIfInBounds_toArray, List.set_cons_zero, List.set_cons_succ]
                clear hb5
                repeat (first | (refine Seq.Seq.skip (by rfl) ?_; (try simp only [Act.put, List.setIfInBounds_toArray, List.set_cons_zero, List.set_cons_succ])) | (refine Seq.Seq.det ?_ (by rfl) (fun w hS => ?_) ?_; rotate_left; ((try dsimp only at hS); go_simp; (try rw [if_pos (by omega)]); with_reducible rfl); (try simp only [Act.put, List.setIfInBounds_toArray, List.set_cons_zero, List.set_cons_succ])))
                refine Seq.Seq.nil ?_
                have HSS := Lib.hid hS
                clear hS
                go_wp2
                go_roundw
                case measure => simp [intOf]; omega
                case rel => exact ⟨j + 1, _, by omega, by go_num, rfl, HFR, HSS.out⟩
              · by_cases hje : j0 = e0
                · replace hje := hje.symm
                  subst hje
                  by_cases hjn : j1 = x
                  · replace hjn := hjn.symm
                    subst hjn
                    have HFR := Lib.hid (hst true (by unfold vk; rw [hs]; simp))
                    clear hst HF
                    go_wp2
                    have hS := hb2.trans ((below_one' _).mono hb2.size)
                    clear hb2
                    refine Seq.wp_region_seq (fun w' => Below wb.heap.size wb w') (by kernel_rfl) (by kernel_rfl) hS ?_
                    repeat (first | (refine Seq.Seq.skip (by rfl) ?_; (try simp only [Act.put, List.setIfInBounds_toArray, List.set_cons_zero, List.set_cons_succ])) | (refine Seq.Seq.det ?_ (by rfl) (fun w hS => ?_) ?_; rotate_left; ((try dsimp only at hS); go_simp; (try rw [if_pos (by omega)]); with_reducible rfl); (try simp only [Act.put, List.setIfInBounds_toArray, List.set_cons_zero, List.set_cons_succ])))
                    refine Seq.Seq.make (by rfl) (by rfl) (fun K Q' hK => ?_)
                    go_simp
                    go_at_call 14
                    with_reducible refine (rright18_any (e0, x, j2) hj0 _).mono ?_
                    rintro e w5 ⟨rfl, hb5⟩
                    rw [hs]
                    replace hS := hS.trans (hb5.mono hS.size)
                    refine hK.out _ _ (hS) ?_
                    clear hK K
                    try simp only [Act.put, List.setIfInBounds_toArray, List.set_cons_zero, List.set_cons_succ]
                    clear hb5
                    repeat (first | (refine Seq.Seq.skip (by rfl) ?_; (try simp only [Act.put, List.setIfInBounds_toArray, List.set_cons_zero, List.set_cons_succ])) | (refine Seq.Seq.det ?_ (by rfl) (fun w hS => ?_) ?_; rotate_left; ((try dsimp only at hS); go_simp; (try rw [if_pos (by omega)]); with_reducible rfl); (try simp only [Act.put, List.setIfInBounds_toArray, List.set_cons_zero, List.set_cons_succ])))
                    refine Seq.Seq.nil ?_
                    have HSS := Lib.hid hS
                    clear hS
                    go_wp2
                    go_roundw
                    case measure => simp [intOf]; omega
                    case rel => exact ⟨j + 1, _, by omega, by go_num, rfl, HFR, HSS.out⟩
                  · have HFR := Lib.hid (hst false (by rw [decide_eq_false hjn]; simp))
                    have e8 : (j1 == x) = false := by simpa using hjn
                    clear hst hjn HF
                    go_wp2
                    have hS := hb2.trans ((below_one' _).mono hb2.size)
                    clear hb2
                    refine Seq.wp_region_seq (fun w' => Below wb.heap.size wb w') (by kernel_rfl) (by kernel_rfl) hS ?_
                    repeat (first | (refine Seq.Seq.skip (by rfl) ?_; (try simp only [Act.put, List.setIfInBounds_toArray, List.set_cons_zero, List.set_cons_succ])) | (refine Seq.Seq.det ?_ (by rfl) (fun w hS => ?_) ?_; rotate_left; ((try dsimp only at hS); go_simp; (try rw [if_pos (by omega)]); with_reducible rfl); (try simp only [Act.put, List.setIfInBounds_toArray, List.set_cons_zero, List.set_cons_succ])))
                    refine Seq.Seq.make (by rfl) (by rfl) (fun K Q' hK => ?_)
                    go_simp
                    go_at_call 14
                    with_reducible refine (rright18_any (e0, j1, j2) hj0 _).mono ?_
                    rintro e w5 ⟨rfl, hb5⟩
                    rw [hs]
                    replace hS := hS.trans (hb5.mono hS.size)
                    refine hK.out _ _ (hS) ?_
                    clear hK K
                    try simp only [Act.put, List.setIfInBounds_toArray, List.set_cons_zero, List.set_cons_succ]
                    clear hb5
                    repeat (first | (refine Seq.Seq.skip (by rfl) ?_; (try simp only [Act.put, List.setIfInBounds_toArray, List.set_cons_zero, List.set_cons_succ])) | (refine Seq.Seq.det ?_ (by rfl) (fun w hS => ?_) ?_; rotate_left; ((try dsimp only at hS); go_simp; (try rw [if_pos (by omega)]); with_reducible rfl); (try simp only [Act.put, List.setIfInBounds_toArray, List.set_cons_zero, List.set_cons_succ])))
                    refine Seq.Seq.nil ?_
                    have HSS := Lib.hid hS
                    clear hS
                    go_wp2
                    go_roundw
                    case measure => simp [intOf]; omega
                    case rel => exact ⟨j + 1, _, by omega, by go_num, rfl, HFR, HSS.out⟩
                · have HFR := Lib.hid (hst false (by unfold vk; rw [decide_eq_false hje]; simp))
                  have e7 : (j0 == e0) = false := by simpa using hje
                  clear hst hje HF
                  go_wp2
                  have hS := hb2.trans ((below_one' _).mono hb2.size)
                  clear hb2
                  refine Seq.wp_region_seq (fun w' => Below wb.heap.size wb w') (by kernel_rfl) (by kernel_rfl) hS ?_
                  repeat (first | (refine Seq.Seq.skip (by rfl) ?_; (try simp only [Act.put, List.setIfInBounds_toArray, List.set_cons_zero, List.set_cons_succ])) | (refine Seq.Seq.det ?_ (by rfl) (fun w hS => ?_) ?_; rotate_left; ((try dsimp only at hS); go_simp; (try rw [if_pos (by omega)]); with_reducible rfl); (try simp only [Act.put, List.setIfInBounds_toArray, List.set_cons_zero, List.set_cons_succ])))
                  refine Seq.Seq.make (by rfl) (by rfl) (fun K Q' hK => ?_)
                  go_simp
                  go_at_call 14
                  with_reducible refine (rright18_any (j0, j1, j2) hj0 _).mono ?_
                  rintro e w5 ⟨rfl, hb5⟩
                  rw [hs]
                  replace hS := hS.trans (hb5.mono hS.size)
                  refine hK.out _ _ (hS) ?_
                  clear hK K
                  try simp only [Act.put, List.setIfInBounds_toArray, List.set_cons_zero, List.set_cons_succ]
                  clear hb5
                  repeat (first | (refine Seq.Seq.skip (by rfl) ?_; (try simp only [Act.put, List.setIfInBounds_toArray, List.set_cons_zero, List.set_cons_succ])) | (refine Seq.Seq.det ?_ (by rfl) (fun w hS => ?_) ?_; rotate_left; ((try dsimp only at hS); go_simp; (try rw [if_pos (by omega)]); with_reducible rfl); (try simp only [Act.put, List.setIfInBounds_toArray, List.set_cons_zero, List.set_cons_succ])))
                  refine Seq.Seq.nil ?_
                  have HSS := Lib.hid hS
                  clear hS
                  go_wp2
                  go_roundw
                  case measure => simp [intOf]; omega
                  case rel => exact ⟨j + 1, _, by omega, by go_num, rfl, HFR, HSS.out⟩
            · have HFR := Lib.hid (hst true (by simp))
              clear hst hc HF
              go_wp2
              have hS := hb2.trans ((below_one' _).mono hb2.size)
              clear hb2
              refine Seq.wp_region_seq (fun w' => Below wb.heap.size wb w') (by kernel_rfl) (by kernel_rfl) hS ?_
              repeat (first | (refine Seq.Seq.skip (by rfl) ?_; (try simp only [Act.put, List.setIfInBounds_toArray, List.set_cons_zero, List.set_cons_succ])) | (refine Seq.Seq.det ?_ (by rfl) (fun w hS => ?_) ?_; rotate_left; ((try dsimp only at hS); go_simp; (try rw [if_pos (by omega)]); with_reducible rfl); (try simp only [Act.put, List.setIfInBounds_toArray, List.set_cons_zero, List.set_cons_succ])))
              refine Seq.Seq.nil ?_
              have HSS := Lib.hid hS
              clear hS
              go_wp2
              go_roundw
              case measure => simp [intOf]; omega
              case rel => exact ⟨j + 1, _, by omega, by go_num, rfl, HFR, HSS.out⟩
          · obtain rfl : j = n := by omega
            obtain rfl : b = true := by
              cases b
              · exact absurd (HF.out.1 rfl) HMEM.out
              · rfl
            have n0 := Ni _ hb2
            by_cases hi0 : i = 0
            · subst hi0
              go_wp2
              go_quiet (fail)
              have HBB := Lib.hid (below_drewN hb2 nq)
              go_wp2
              go_roundw
              case measure => simp [intOf]; omega
              case rel => exact ⟨1, by omega, by go_num, HBB.out⟩
            · have n1 := HNC.out _ hb2 (i - 1) (by omega)
              have hri := HRI.out hi0
              have e8 : (0 : Int) < i := by omega
              have e8' : decide ((0 : Int) < (i : Int)) = true := decide_eq_true e8
              have e8'' : 0 < i := by omega
              have e9 : IntKind.i64.wrap ((i : Int) - 1) = ((i - 1 : Nat) : Int) := by rw [show (i : Int) - 1 = ((i - 1 : Nat) : Int) by omega]; exact IntWalk.i64_in _ (by omega)
              have e10 : ((i - 1 : Nat) : Int) < N := by omega
              generalize D.getD (i - 1) 0 = y at *
              go_wp2
              go_quiet (fail)
              have HBB := Lib.hid (below_drewN hb2 nq)
              go_wp2
              go_roundw
              case measure => simp [intOf]; omega
              case rel => exact ⟨i + 1, by omega, by go_num, HBB.out⟩
      · go_wp2_with fail
        with_reducible refine (live18_any _).mono ?_
        rintro e w9 ⟨rfl, hb9⟩
        have HBB := Lib.hid (HBD.out.trans ((hb.trans (hb9.mono hb.size)).mono HBD.out.size))
        clear hb hb9
        go_wp2
        go_ret
        exact ⟨rfl, HBB.out⟩
  · have h21 : D2.length = N := by
      have a := nds_le hd2 hr2.nodup HD.out (fun s h => h)
      have b := nds_le HD.out HR.out.nodup hd2 (fun s h => h)
      have := HN.out; omega
    rw [h21] at hq2
    clear HD HR HN HM3 hd2 hr2 h21
    go_wp2
    go_loopw [12] (fun v12 wr => ∃ i : Nat, i ≤ N ∧ v12 = .int .i64 i ∧ Below wb.heap.size wb wr) (fun v _ => N - (intOf v).toNat)
    case atStart => exact ⟨0, by omega, rfl, Below.refl _ _⟩
    case round =>
      obtain ⟨i, hi, rfl, hb⟩ := hrel
      by_cases hlt : i < N
      · obtain ⟨ng, no, rfl, hng, hnc⟩ := HU.out (by omega)
        have Ni := fun w' h => hnc w' h i hlt
        have HNC := Lib.hid hnc
        have HMEM := Lib.hid (HMET.out i hlt)
        have HRI := Lib.hid (HRIS.out i hlt)
        generalize hx : D.getD i 0 = x at *
        have HX := Lib.hid hx
        clear hx hnc
        have e2 : (i : Int) < N := by omega
        have e3 : IntKind.i64.wrap ((i : Int) + 1) = ((i + 1 : Nat) : Int) := IntWalk.i64_in _ (by omega)
        go_wp2
        go_loopw [13, 14] (fun v13 v14 wr2 => ∃ (j : Nat) (b : Bool), j ≤ n ∧ v14 = .int .i64 j ∧ v13 = .bool b ∧ Hid ((!b) = true ↔ Fr e0 l x j) ∧ Below wb.heap.size wb wr2) (fun _ v _ => n - (intOf v).toNat)
        case atStart => exact ⟨0, false, by omega, rfl, rfl, Lib.hid ⟨fun _ k hk => absurd hk (by omega), fun _ => rfl⟩, hb⟩
        case round =>
          clear hb
          obtain ⟨j, b, hj, rfl, rfl, HF, hb2⟩ := hrel
          by_cases hji : j < n
          · obtain ⟨g, o, rfl, hg, hc⟩ := HC.out (by omega)
            have Lj := fun w' h => hc w' h j hji
            have hj0 := HB.out j hji
            have hst := fun b' => Fr.step (b := !b) (b' := !b') HF.out
            have e4 : (j : Int) < n := by omega
            have e6 : IntKind.i64.wrap ((j : Int) + 1) = ((j + 1 : Nat) : Int) := IntWalk.i64_in _ (by omega)
            cases b
            · generalize l.getD j (0, 0, 0) = s at *
              obtain ⟨j0, j1, j2⟩ := s
              dsimp only at Lj hj0 hst
              clear hc
              cases hs : slok (j0, j1, j2)
              · have HFR := Lib.hid (hst false (by unfold vk; rw [hs, Bool.and_false]; simp))
                clear hst HF
                go_wp2
                have hS := hb2.trans ((below_one' _).mono hb2.size)
                clear hb2
                refine Seq.wp_region_seq (fun w' => Below wb.heap.size wb w') (by kernel_rfl) (by kernel_rfl) hS ?_
                repeat (first | (refine Seq.Seq.skip (by rfl) ?_; (try simp only [Act.put, List.setIfInBounds_toArray, List.set_cons_zero, List.set_cons_succ])) | (refine Seq.Seq.det ?_ (by rfl) (fun w hS => ?_) ?_; rotate_left; ((try dsimp only at hS); go_simp; (try rw [if_pos (by omega)]); with_reducible rfl); (try simp only [Act.put, List.setIfInBounds_toArray, List.set_cons_zero, List.set_cons_succ])))
                refine Seq.Seq.make (by rfl) (by rfl) (fun K Q' hK => ?_)
                go_simp
                go_at_call 14
                with_reducible refine (rright18_any (j0, j1, j2) hj0 _).mono ?_
                rintro e w5 ⟨rfl, hb5⟩
                rw [hs]
                replace hS := hS.trans (hb5.mono hS.size)
                refine hK.out _ _ (hS) ?_
                clear hK K
                try simp only [Act.put, List.setIfInBounds_toArray, List.set_cons_zero, List.set_cons_succ]
                clear hb5
                repeat (first | (refine Seq.Seq.skip (by rfl) ?_; (try simp only [Act.put, List.setIfInBounds_toArray, List.set_cons_zero, List.set_cons_succ])) | (refine Seq.Seq.det ?_ (by rfl) (fun w hS => ?_) ?_; rotate_left; ((try dsimp only at hS); go_simp; (try rw [if_pos (by omega)]); with_reducible rfl); (try simp only [Act.put, List.setIfInBounds_toArray, List.set_cons_zero, List.set_cons_succ])))
                refine Seq.Seq.nil ?_
                have HSS := Lib.hid hS
                clear hS
                go_wp2
                go_roundw
                case measure => simp [intOf]; omega
                case rel => exact ⟨j + 1, _, by omega, by go_num, rfl, HFR, HSS.out⟩
              · by_cases hje : j0 = e0
                · replace hje := hje.symm
                  subst hje
                  by_cases hjn : j1 = x
                  · replace hjn := hjn.symm
                    subst hjn
                    have HFR := Lib.hid (hst true (by unfold vk; rw [hs]; simp))
                    clear hst HF
                    go_wp2
                    have hS := hb2.trans ((below_one' _).mono hb2.size)
                    clear hb2
                    refine Seq.wp_region_seq (fun w' => Below wb.heap.size wb w') (by kernel_rfl) (by kernel_rfl) hS ?_
                    repeat (first | (refine Seq.Seq.skip (by rfl) ?_; (try simp only [Act.put, List.setIfInBounds_toArray, List.set_cons_zero, List.set_cons_succ])) | (refine Seq.Seq.det ?_ (by rfl) (fun w hS => ?_) ?_; rotate_left; ((try dsimp only at hS); go_simp; (try rw [if_pos (by omega)]); with_reducible rfl); (try simp only [Act.put, List.setIfInBounds_toArray, List.set_cons_zero, List.set_cons_succ])))
                    refine Seq.Seq.make (by rfl) (by rfl) (fun K Q' hK => ?_)
                    go_simp
                    go_at_call 14
                    with_reducible refine (rright18_any (e0, x, j2) hj0 _).mono ?_
                    rintro e w5 ⟨rfl, hb5⟩
                    rw [hs]
                    replace hS := hS.trans (hb5.mono hS.size)
                    refine hK.out _ _ (hS) ?_
                    clear hK K
                    try simp only [Act.put, List.setIfInBounds_toArray, List.set_cons_zero, List.set_cons_succ]
                    clear hb5
                    repeat (first | (refine Seq.Seq.skip (by rfl) ?_; (try simp only [Act.put, List.setIfInBounds_toArray, List.set_cons_zero, List.set_cons_succ])) | (refine Seq.Seq.det ?_ (by rfl) (fun w hS => ?_) ?_; rotate_left; ((try dsimp only at hS); go_simp; (try rw [if_pos (by omega)]); with_reducible rfl); (try simp only [Act.put, List.setIfInBounds_toArray, List.set_cons_zero, List.set_cons_succ])))
                    refine Seq.Seq.nil ?_
                    have HSS := Lib.hid hS
                    clear hS
                    go_wp2
                    go_roundw
                    case measure => simp [intOf]; omega
                    case rel => exact ⟨j + 1, _, by omega, by go_num, rfl, HFR, HSS.out⟩
                  · have HFR := Lib.hid (hst false (by rw [decide_eq_false hjn]; simp))
                    have e8 : (j1 == x) = false := by simpa using hjn
                    clear hst hjn HF
                    go_wp2
                    have hS := hb2.trans ((below_one' _).mono hb2.size)
                    clear hb2
                    refine Seq.wp_region_seq (fun w' => Below wb.heap.size wb w') (by kernel_rfl) (by kernel_rfl) hS ?_
                    repeat (first | (refine Seq.Seq.skip (by rfl) ?_; (try simp only [Act.put, List.setIfInBounds_toArray, List.set_cons_zero, List.set_cons_succ])) | (refine Seq.Seq.det ?_ (by rfl) (fun w hS => ?_) ?_; rotate_left; ((try dsimp only at hS); go_simp; (try rw [if_pos (by omega)]); with_reducible rfl); (try simp only [Act.put, List.setIfInBounds_toArray, List.set_cons_zero, List.set_cons_succ])))
                    refine Seq.Seq.make (by rfl) (by rfl) (fun K Q' hK => ?_)
                    go_simp
                    go_at_call 14
                    with_reducible refine (rright18_any (e0, j1, j2) hj0 _).mono ?_
                    rintro e w5 ⟨rfl, hb5⟩
                    rw [hs]
                    replace hS := hS.trans (hb5.mono hS.size)
                    refine hK.out _ _ (hS) ?_
                    clear hK K
                    try simp only [Act.put, List.setIfInBounds_toArray, List.set_cons_zero, List.set_cons_succ]
                    clear hb5
                    repeat (first | (refine Seq.Seq.skip (by rfl) ?_; (try simp only [Act.put, List.setIfInBounds_toArray, List.set_cons_zero, List.set_cons_succ])) | (refine Seq.Seq.det ?_ (by rfl) (fun w hS => ?_) ?_; rotate_left; ((try dsimp only at hS); go_simp; (try rw [if_pos (by omega)]); with_reducible rfl); (try simp only [Act.put, List.setIfInBounds_toArray, List.set_cons_zero, List.set_cons_succ])))
                    refine Seq.Seq.nil ?_
                    have HSS := Lib.hid hS
                    clear hS
                    go_wp2
                    go_roundw
                    case measure => simp [intOf]; omega
                    case rel => exact ⟨j + 1, _, by omega, by go_num, rfl, HFR, HSS.out⟩
                · have HFR := Lib.hid (hst false (by unfold vk; rw [decide_eq_false hje]; simp))
                  have e7 : (j0 == e0) = false := by simpa using hje
                  clear hst hje HF
                  go_wp2
                  have hS := hb2.trans ((below_one' _).mono hb2.size)
                  clear hb2
                  refine Seq.wp_region_seq (fun w' => Below wb.heap.size wb w') (by kernel_rfl) (by kernel_rfl) hS ?_
                  repeat (first | (refine Seq.Seq.skip (by rfl) ?_; (try simp only [Act.put, List.setIfInBounds_toArray, List.set_cons_zero, List.set_cons_succ])) | (refine Seq.Seq.det ?_ (by rfl) (fun w hS => ?_) ?_; rotate_left; ((try dsimp only at hS); go_simp; (try rw [if_pos (by omega)]); with_reducible rfl); (try simp only [Act.put, List.setIfInBounds_toArray, List.set_cons_zero, List.set_cons_succ])))
                  refine Seq.Seq.make (by rfl) (by rfl) (fun K Q' hK => ?_)
                  go_simp
                  go_at_call 14
                  with_reducible refine (rright18_any (j0, j1, j2) hj0 _).mono ?_
                  rintro e w5 ⟨rfl, hb5⟩
                  rw [hs]
                  replace hS := hS.trans (hb5.mono hS.size)
                  refine hK.out _ _ (hS) ?_
                  clear hK K
                  try simp only [Act.put, List.setIfInBounds_toArray, List.set_cons_zero, List.set_cons_succ]
                  clear hb5
                  repeat (first | (refine Seq.Seq.skip (by rfl) ?_; (try simp only [Act.put, List.setIfInBounds_toArray, List.set_cons_zero, List.set_cons_succ])) | (refine Seq.Seq.det ?_ (by rfl) (fun w hS => ?_) ?_; rotate_left; ((try dsimp only at hS); go_simp; (try rw [if_pos (by omega)]); with_reducible rfl); (try simp only [Act.put, List.setIfInBounds_toArray, List.set_cons_zero, List.set_cons_succ])))
                  refine Seq.Seq.nil ?_
                  have HSS := Lib.hid hS
                  clear hS
                  go_wp2
                  go_roundw
                  case measure => simp [intOf]; omega
                  case rel => exact ⟨j + 1, _, by omega, by go_num, rfl, HFR, HSS.out⟩
            · have HFR := Lib.hid (hst true (by simp))
              clear hst hc HF
              go_wp2
              have hS := hb2.trans ((below_one' _).mono hb2.size)
              clear hb2
              refine Seq.wp_region_seq (fun w' => Below wb.heap.size wb w') (by kernel_rfl) (by kernel_rfl) hS ?_
              repeat (first | (refine Seq.Seq.skip (by rfl) ?_; (try simp only [Act.put, List.setIfInBounds_toArray, List.set_cons_zero, List.set_cons_succ])) | (refine Seq.Seq.det ?_ (by rfl) (fun w hS => ?_) ?_; rotate_left; ((try dsimp only at hS); go_simp; (try rw [if_pos (by omega)]); with_reducible rfl); (try simp only [Act.put, List.setIfInBounds_toArray, List.set_cons_zero, List.set_cons_succ])))
              refine Seq.Seq.nil ?_
              have HSS := Lib.hid hS
              clear hS
              go_wp2
              go_roundw
              case measure => simp [intOf]; omega
              case rel => exact ⟨j + 1, _, by omega, by go_num, rfl, HFR, HSS.out⟩
          · obtain rfl : j = n := by omega
            obtain rfl : b = true := by
              cases b
              · exact absurd (HF.out.1 rfl) HMEM.out
              · rfl
            have n0 := Ni _ hb2
            by_cases hi0 : i = 0
            · subst hi0
              go_wp2
              go_quiet (fail)
              have HBB := Lib.hid (below_drewN hb2 nq)
              go_wp2
              go_roundw
              case measure => simp [intOf]; omega
              case rel => exact ⟨1, by omega, by go_num, HBB.out⟩
            · have n1 := HNC.out _ hb2 (i - 1) (by omega)
              have hri := HRI.out hi0
              have e8 : (0 : Int) < i := by omega
              have e8' : decide ((0 : Int) < (i : Int)) = true := decide_eq_true e8
              have e8'' : 0 < i := by omega
              have e9 : IntKind.i64.wrap ((i : Int) - 1) = ((i - 1 : Nat) : Int) := by rw [show (i : Int) - 1 = ((i - 1 : Nat) : Int) by omega]; exact IntWalk.i64_in _ (by omega)
              have e10 : ((i - 1 : Nat) : Int) < N := by omega
              generalize D.getD (i - 1) 0 = y at *
              go_wp2
              go_quiet (fail)
              have HBB := Lib.hid (below_drewN hb2 nq)
              go_wp2
              go_roundw
              case measure => simp [intOf]; omega
              case rel => exact ⟨i + 1, by omega, by go_num, HBB.out⟩
      · go_wp2_with fail
        with_reducible refine (live18_any _).mono ?_
        rintro e w9 ⟨rfl, hb9⟩
        have HBB := Lib.hid (HBD.out.trans ((hb.trans (hb9.mono hb.size)).mono HBD.out.size))
        clear hb hb9
        go_wp2
        go_ret
        exact ⟨rfl, HBB.out⟩
  · have h21 : D2.length = N := by
      have a := nds_le hd2 hr2.nodup HD.out (fun s h => h)
      have b := nds_le HD.out HR.out.nodup hd2 (fun s h => h)
      have := HN.out; omega
    rw [h21] at hq2
    have ht : t = t3 := Int.le_antisymm (hm2.le HM3.out (fun s h => h)) (HM3.out.le hm2 (fun s h => h))
    subst ht
    clear HD HR HN HM3 hd2 hr2 h21 hm2
    go_wp2
    go_loopw [12] (fun v12 wr => ∃ i : Nat, i ≤ N ∧ v12 = .int .i64 i ∧ Below wb.heap.size wb wr) (fun v _ => N - (intOf v).toNat)
    case atStart => exact ⟨0, by omega, rfl, Below.refl _ _⟩
    case round =>
      obtain ⟨i, hi, rfl, hb⟩ := hrel
      by_cases hlt : i < N
      · obtain ⟨ng, no, rfl, hng, hnc⟩ := HU.out (by omega)
        have Ni := fun w' h => hnc w' h i hlt
        have HNC := Lib.hid hnc
        have HMEM := Lib.hid (HMET.out i hlt)
        have HRI := Lib.hid (HRIS.out i hlt)
        generalize hx : D.getD i 0 = x at *
        have HX := Lib.hid hx
        clear hx hnc
        have e2 : (i : Int) < N := by omega
        have e3 : IntKind.i64.wrap ((i : Int) + 1) = ((i + 1 : Nat) : Int) := IntWalk.i64_in _ (by omega)
        go_wp2
        go_loopw [13, 14] (fun v13 v14 wr2 => ∃ (j : Nat) (b : Bool), j ≤ n ∧ v14 = .int .i64 j ∧ v13 = .bool b ∧ Hid ((!b) = true ↔ Fr e0 l x j) ∧ Below wb.heap.size wb wr2) (fun _ v _ => n - (intOf v).toNat)
        case atStart => exact ⟨0, false, by omega, rfl, rfl, Lib.hid ⟨fun _ k hk => absurd hk (by omega), fun _ => rfl⟩, hb⟩
        case round =>
          clear hb
          obtain ⟨j, b, hj, rfl, rfl, HF, hb2⟩ := hrel
          by_cases hji : j < n
          · obtain ⟨g, o, rfl, hg, hc⟩ := HC.out (by omega)
            have Lj := fun w' h => hc w' h j hji
            have hj0 := HB.out j hji
            have hst := fun b' => Fr.step (b := !b) (b' := !b') HF.out
            have e4 : (j : Int) < n := by omega
            have e6 : IntKind.i64.wrap ((j : Int) + 1) = ((j + 1 : Nat) : Int) := IntWalk.i64_in _ (by omega)
            cases b
            · generalize l.getD j (0, 0, 0) = s at *
              obtain ⟨j0, j1, j2⟩ := s
              dsimp only at Lj hj0 hst
              clear hc
              cases hs : slok (j0, j1, j2)
              · have HFR := Lib.hid (hst false (by unfold vk; rw [hs, Bool.and_false]; simp))
                clear hst HF
                go_wp2
                have hS := hb2.trans ((below_one' _).mono hb2.size)
                clear hb2
                refine Seq.wp_region_seq (fun w' => Below wb.heap.size wb w') (by kernel_rfl) (by kernel_rfl) hS ?_
                repeat (first | (refine Seq.Seq.skip (by rfl) ?_; (try simp only [Act.put, List.setIfInBounds_toArray, List.set_cons_zero, List.set_cons_succ])) | (refine Seq.Seq.det ?_ (by rfl) (fun w hS => ?_) ?_; rotate_left; ((try dsimp only at hS); go_simp; (try rw [if_pos (by omega)]); with_reducible rfl); (try simp only [Act.put, List.setIfInBounds_toArray, List.set_cons_zero, List.set_cons_succ])))
                refine Seq.Seq.make (by rfl) (by rfl) (fun K Q' hK => ?_)
                go_simp
                go_at_call 14
                with_reducible refine (rright18_any (j0, j1, j2) hj0 _).mono ?_
                rintro e w5 ⟨rfl, hb5⟩
                rw [hs]
                replace hS := hS.trans (hb5.mono hS.size)
                refine hK.out _ _ (hS) ?_
                clear hK K
                try simp only [Act.put, List.setIfInBounds_toArray, List.set_cons_zero, List.set_cons_succ]
                clear hb5
                repeat (first | (refine Seq.Seq.skip (by rfl) ?_; (try simp only [Act.put, List.setIfInBounds_toArray, List.set_cons_zero, List.set_cons_succ])) | (refine Seq.Seq.det ?_ (by rfl) (fun w hS => ?_) ?_; rotate_left; ((try dsimp only at hS); go_simp; (try rw [if_pos (by omega)]); with_reducible rfl); (try simp only [Act.put, List.setIfInBounds_toArray, List.set_cons_zero, List.set_cons_succ])))
                refine Seq.Seq.nil ?_
                have HSS := Lib.hid hS
                clear hS
                go_wp2
                go_roundw
                case measure => simp [intOf]; omega
                case rel => exact ⟨j + 1, _, by omega, by go_num, rfl, HFR, HSS.out⟩
              · by_cases hje : j0 = e0
                · replace hje := hje.symm
                  subst hje
                  by_cases hjn : j1 = x
                  · replace hjn := hjn.symm
                    subst hjn
                    have HFR := Lib.hid (hst true (by unfold vk; rw [hs]; simp))
                    clear hst HF
                    go_wp2
                    have hS := hb2.trans ((below_one' _).mono hb2.size)
                    clear hb2
                    refine Seq.wp_region_seq (fun w' => Below wb.heap.size wb w') (by kernel_rfl) (by kernel_rfl) hS ?_
                    repeat (first | (refine Seq.Seq.skip (by rfl) ?_; (try simp only [Act.put, List.setIfInBounds_toArray, List.set_cons_zero, List.set_cons_succ])) | (refine Seq.Seq.det ?_ (by rfl) (fun w hS => ?_) ?_; rotate_left; ((try dsimp only at hS); go_simp; (try rw [if_pos (by omega)]); with_reducible rfl); (try simp only [Act.put, List.setIfInBounds_toArray, List.set_cons_zero, List.set_cons_succ])))
                    refine Seq.Seq.make (by rfl) (by rfl) (fun K Q' hK => ?_)
                    go_simp
                    go_at_call 14
                    with_reducible refine (rright18_any (e0, x, j2) hj0 _).mono ?_
                    rintro e w5 ⟨rfl, hb5⟩
                    rw [hs]
                    replace hS := hS.trans (hb5.mono hS.size)
                    refine hK.out _ _ (hS) ?_
                    clear hK K
                    try simp only [Act.put, List.setIfInBounds_toArray, List.set_cons_zero, List.set_cons_succ]
                    clear hb5
                    repeat (first | (refine Seq.Seq.skip (by rfl) ?_; (try simp only [Act.put, List.setIfInBounds_toArray, List.set_cons_zero, List.set_cons_succ])) | (refine Seq.Seq.det ?_ (by rfl) (fun w hS => ?_) ?_; rotate_left; ((try dsimp only at hS); go_simp; (try rw [if_pos (by omega)]); with_reducible rfl); (try simp only [Act.put, List.setIfInBounds_toArray, List.set_cons_zero, List.set_cons_succ])))
                    refine Seq.Seq.nil ?_
                    have HSS := Lib.hid hS
                    clear hS
                    go_wp2
                    go_roundw
                    case measure => simp [intOf]; omega
                    case rel => exact ⟨j + 1, _, by omega, by go_num, rfl, HFR, HSS.out⟩
                  · have HFR := Lib.hid (hst false (by rw [decide_eq_false hjn]; simp))
                    have e8 : (j1 == x) = false := by simpa using hjn
                    clear hst hjn HF
                    go_wp2
                    have hS := hb2.trans ((below_one' _).mono hb2.size)
                    clear hb2
                    refine Seq.wp_region_seq (fun w' => Below wb.heap.size wb w') (by kernel_rfl) (by kernel_rfl) hS ?_
                    repeat (first | (refine Seq.Seq.skip (by rfl) ?_; (try simp only [Act.put, List.setIfInBounds_toArray, List.set_cons_zero, List.set_cons_succ])) | (refine Seq.Seq.det ?_ (by rfl) (fun w hS => ?_) ?_; rotate_left; ((try dsimp only at hS); go_simp; (try rw [if_pos (by omega)]); with_reducible rfl); (try simp only [Act.put, List.setIfInBounds_toArray, List.set_cons_zero, List.set_cons_succ])))
                    refine Seq.Seq.make (by rfl) (by rfl) (fun K Q' hK => ?_)
                    go_simp
                    go_at_call 14
                    with_reducible refine (rright18_any (e0, j1, j2) hj0 _).mono ?_
                    rintro e w5 ⟨rfl, hb5⟩
                    rw [hs]
                    replace hS := hS.trans (hb5.mono hS.size)
                    refine hK.out _ _ (hS) ?_
                    clear hK K
                    try simp only [Act.put, List.setIfInBounds_toArray, List.set_cons_zero, List.set_cons_succ]
                    clear hb5
                    repeat (first | (refine Seq.Seq.skip (by rfl) ?_; (try simp only [Act.put, List.setIfInBounds_toArray, List.set_cons_zero, List.set_cons_succ])) | (refine Seq.Seq.det ?_ (by rfl) (fun w hS => ?_) ?_; rotate_left; ((try dsimp only at hS); go_simp; (try rw [if_pos (by omega)]); with_reducible rfl); (try simp only [Act.put, List.setIfInBounds_toArray, List.set_cons_zero, List.set_cons_succ])))
                    refine Seq.Seq.nil ?_
                    have HSS := Lib.hid hS
                    clear hS
                    go_wp2
                    go_roundw
                    case measure => simp [intOf]; omega
                    case rel => exact ⟨j + 1, _, by omega, by go_num, rfl, HFR, HSS.out⟩
                · have HFR := Lib.hid (hst false (by unfold vk; rw [decide_eq_false hje]; simp))
                  have e7 : (j0 == e0) = false := by simpa using hje
                  clear hst hje HF
                  go_wp2
                  have hS := hb2.trans ((below_one' _).mono hb2.size)
                  clear hb2
                  refine Seq.wp_region_seq (fun w' => Below wb.heap.size wb w') (by kernel_rfl) (by kernel_rfl) hS ?_
                  repeat (first | (refine Seq.Seq.skip (by rfl) ?_; (try simp only [Act.put, List.setIfInBounds_toArray, List.set_cons_zero, List.set_cons_succ])) | (refine Seq.Seq.det ?_ (by rfl) (fun w hS => ?_) ?_; rotate_left; ((try dsimp only at hS); go_simp; (try rw [if_pos (by omega)]); with_reducible rfl); (try simp only [Act.put, List.setIfInBounds_toArray, List.set_cons_zero, List.set_cons_succ])))
                  refine Seq.Seq.make (by rfl) (by rfl) (fun K Q' hK => ?_)
                  go_simp
                  go_at_call 14
                  with_reducible refine (rright18_any (j0, j1, j2) hj0 _).mono ?_
                  rintro e w5 ⟨rfl, hb5⟩
                  rw [hs]
                  replace hS := hS.trans (hb5.mono hS.size)
                  refine hK.out _ _ (hS) ?_
                  clear hK K
                  try simp only [Act.put, List.setIfInBounds_toArray, List.set_cons_zero, List.set_cons_succ]
                  clear hb5
                  repeat (first | (refine Seq.Seq.skip (by rfl) ?_; (try simp only [Act.put, List.setIfInBounds_toArray, List.set_cons_zero, List.set_cons_succ])) | (refine Seq.Seq.det ?_ (by rfl) (fun w hS => ?_) ?_; rotate_left; ((try dsimp only at hS); go_simp; (try rw [if_pos (by omega)]); with_reducible rfl); (try simp only [Act.put, List.setIfInBounds_toArray, List.set_cons_zero, List.set_cons_succ])))
                  refine Seq.Seq.nil ?_
                  have HSS := Lib.hid hS
                  clear hS
                  go_wp2
                  go_roundw
                  case measure => simp [intOf]; omega
                  case rel => exact ⟨j + 1, _, by omega, by go_num, rfl, HFR, HSS.out⟩
            · have HFR := Lib.hid (hst true (by simp))
              clear hst hc HF
              go_wp2
              have hS := hb2.trans ((below_one' _).mono hb2.size)
              clear hb2
              refine Seq.wp_region_seq (fun w' => Below wb.heap.size wb w') (by kernel_rfl) (by kernel_rfl) hS ?_
              repeat (first | (refine Seq.Seq.skip (by rfl) ?_; (try simp only [Act.put, List.setIfInBounds_toArray, List.set_cons_zero, List.set_cons_succ])) | (refine Seq.Seq.det ?_ (by rfl) (fun w hS => ?_) ?_; rotate_left; ((try dsimp only at hS); go_simp; (try rw [if_pos (by omega)]); with_reducible rfl); (try simp only [Act.put, List.setIfInBounds_toArray, List.set_cons_zero, List.set_cons_succ])))
              refine Seq.Seq.nil ?_
              have HSS := Lib.hid hS
              clear hS
              go_wp2
              go_roundw
              case measure => simp [intOf]; omega
              case rel => exact ⟨j + 1, _, by omega, by go_num, rfl, HFR, HSS.out⟩
          · obtain rfl : j = n := by omega
            obtain rfl : b = true := by
              cases b
              · exact absurd (HF.out.1 rfl) HMEM.out
              · rfl
            have n0 := Ni _ hb2
            by_cases hi0 : i = 0
            · subst hi0
              go_wp2
              go_quiet (fail)
              have HBB := Lib.hid (below_drewN hb2 nq)
              go_wp2
              go_roundw
              case measure => simp [intOf]; omega
              case rel => exact ⟨1, by omega, by go_num, HBB.out⟩
            · have n1 := HNC.out _ hb2 (i - 1) (by omega)
              have hri := HRI.out hi0
              have e8 : (0 : Int) < i := by omega
              have e8' : decide ((0 : Int) < (i : Int)) = true := decide_eq_true e8
              have e8'' : 0 < i := by omega
              have e9 : IntKind.i64.wrap ((i : Int) - 1) = ((i - 1 : Nat) : Int) := by rw [show (i : Int) - 1 = ((i - 1 : Nat) : Int) by omega]; exact IntWalk.i64_in _ (by omega)
              have e10 : ((i - 1 : Nat) : Int) < N := by omega
              generalize D.getD (i - 1) 0 = y at *
              go_wp2
              go_quiet (fail)
              have HBB := Lib.hid (below_drewN hb2 nq)
              go_wp2
              go_roundw
              case measure => simp [intOf]; omega
              case rel => exact ⟨i + 1, by omega, by go_num, HBB.out⟩
      · go_wp2_with fail
        with_reducible refine (live18_any _).mono ?_
        rintro e w9 ⟨rfl, hb9⟩
        have HBB := Lib.hid (HBD.out.trans ((hb.trans (hb9.mono hb.size)).mono HBD.out.size))
        clear hb hb9
        go_wp2
        go_ret
        exact ⟨rfl, HBB.out⟩

set_option maxRecDepth 100000 in
theorem lifted (os : Os) (started : os.Started) (H : Type) (enc : TypeId × Value → H) :
    ReturnsInHanded {} Try.checked os 5 .any (Rows.sealTailsSpec.pre6 enc Try.prog Try.f5 Rows.sealTailsRow.domain false) (Rows.sealTailsSpec.post enc Try.prog Try.f5 false true false false) := by
  refine returnsInHanded_of_change (C := Try.checked) own started (by kernel_rfl) Try.func5
    (ChangeSpec.witness6 (enc := enc) (C := Try.checked) false ⟨#[], #[.slice none 0 0, .int .u64 0, .int .i64 0], []⟩ 8 (by kernel_rfl) (by kernel_rfl) (by kernel_rfl) (by kernel_rfl)) ?_
  intro W base args ds gs before hval0 hW hcnd _
  have hval : ∀ (j : Nat) t v, Try.f5.params[j]? = some t → args[j]? = some v → Value.okWide Try.prog W .any base t v := hval0
  have hW' := hW
  obtain ⟨p, q, hA0, hV, rfl, hfz, hnd⟩ := hW
  have hA : DataW.TrodAll enc Try.prog W 0 (fun _ => true) true Try.f5.params.toList args.toList ds p := hA0
  rw [Try.params5] at hA hval
  obtain ⟨v0, vs0, d0, ds0, p0, q0, hargs, rfl, rfl, h0, r0⟩ := trodAll_cons hA
  obtain ⟨v1, vs1, d1, ds1, p1, q1, rfl, rfl, rfl, h1, r1⟩ := trodAll_cons r0
  obtain ⟨v2, vs2, d2, ds2, p2, q2, rfl, rfl, rfl, h2, r2⟩ := trodAll_cons r1
  obtain ⟨rfl, rfl, rfl⟩ := trodAll_nil r2
  obtain rfl : args = #[v0, v1, v2] := by cases args; simp_all
  obtain ⟨rfl, rfl⟩ := trodVars_none hV
  have lt0 : ∀ x ∈ p0, x.block < W.heap.size := by obtain ⟨m, hm⟩ := h0; exact DataW.trod_lt m _ _ _ hm
  have lt1 : ∀ x ∈ p1, x.block < W.heap.size := by obtain ⟨m, hm⟩ := h1; exact DataW.trod_lt m _ _ _ hm
  have lt2 : ∀ x ∈ p2, x.block < W.heap.size := by obtain ⟨m, hm⟩ := h2; exact DataW.trod_lt m _ _ _ hm
  clear hA0 hval0
  refine (walk enc W base v0 d0 p0 (hval 0 54 v0 rfl rfl) h0 v1 d1 p1 (hval 1 22 v1 rfl rfl) h1 v2 d2 p2 (hval 2 3 v2 rfl rfl) h2).mono fun e W' ⟨he, bel⟩ => ?_
  subst he
  exact ⟨_, rfl, _, _, _, [], _, [], hW', trodAll_mk1 (shut_bool Try.underlying4 _), (trodAll_cons_mk (Below.trod laidOut (by kernel_rfl) (of_decide_eq_true (by kernel_rfl)) h0 bel lt0) (trodAll_cons_mk (Below.trod laidOut (by kernel_rfl) (of_decide_eq_true (by kernel_rfl)) h1 bel lt1) (trodAll_cons_mk (Below.trod laidOut (by kernel_rfl) (of_decide_eq_true (by kernel_rfl)) h2 bel lt2) trodAll_mk0))), rfl, bel.frame _, fun h => by cases h⟩

theorem over : Rows.sealTailsRow.holds Try.pinned (OpenSpec.ofChange Rows.sealTailsSpec) :=
  OpenClaim.holds_of_wide 5 Try.f5 rfl rfl rfl rfl rfl rfl rfl ⟨rfl, rfl, rfl, rfl, rfl⟩ rfl rfl rfl rfl rfl (by kernel_rfl) Try.func5 (by kernel_rfl)
    (of_decide_eq_true (by kernel_rfl)) (by unfold Func.isWrapper; first | (rw [if_pos (by decide +kernel)]; kernel_rfl) | (rw [if_neg (by decide +kernel)]; exact ⟨rfl, rfl⟩))
    (fun os started H enc _ => lifted os started H enc)

/-- THE STATEMENT. -/
theorem proved : Rows.SealTailsSaid := over
#print axioms proved
end Go.Proofs.Ytdljkpmjamegjaa.sealTails
