/- As the seat's text, without what nothing here names. -/
import Derived.Test.YtoemmppoejaapaaK29f
import Derived.Sort.Walk13
import Derived.Deep.Cut
import Derived.Deep.CutRange
import Derived.Deep.CutBlock
import Derived.Deep.LoopGhost
import Derived.Sort.AssemblyPlain
import Derived.Lib.AppendZerosOnto
import Derived.Test.YtoemmppoejaapaaK25f
namespace Go.Proofs.Ytoemmppoejaapaa.Cur
open Go.RowKit Mem Go.Sort
set_option linter.unusedVariables false
set_option maxRecDepth 100000
theorem hintv_two {h : Hint} (e : hintv h = 2) : h = .decreasing := by cases h <;> simp [hintv] at e ⊢
set_option maxHeartbeats 16000000 in
theorem spdq_any (B g n cap : Nat) (hn : n ≤ 5000) (S : Plain13) : ∀ (N a b limit : Nat) (d : Array Int) (w : World), b - a < N → OwnA w B g n cap d → a ≤ b → b ≤ n → limit ≤ 64 → Go.Sort.Below ltInt a b d →
    Calls Try.prog 49 #[.slice (some ⟨g, 0, none⟩) n cap, .int .i64 a, .int .i64 b, .int .i64 limit] w (SrP B g n cap (pdq ltInt d a b limit true true) w) := by
  intro N
  induction N with
  | zero => intro _ _ _ _ _ h; exact absurd h (Nat.not_lt_zero _)
  | succ N ih =>
    intro a b limit d w hN h hab hb hlimit hBel0
    obtain ⟨F, hF⟩ : ∃ F, F = pdq ltInt d a b limit true true := ⟨_, rfl⟩
    rw [← hF]
    have H0 : Hid (OwnA w B g n cap d ∧ Ks (fun x => x = g) w w ∧ Go.Sort.Below ltInt a b d ∧ pdq ltInt d a b limit true true = F) := Lib.hid ⟨h, Ks.refl _ _, hBel0, hF.symm⟩
    clear h hBel0 hF
    go_enter Try.func49, Try.ntmps49
    go_wp2
    go_loopg [1, 2, 3, 8, 9] (b - a) (fun k s1 s2 s3 s8 s9 wr => ∃ (a' b' lim : Nat) (wb wp : Bool) (dk : Array Int), s1 = .int .i64 a' ∧ s2 = .int .i64 b' ∧ s3 = .int .i64 lim ∧ s8 = .bool wb ∧ s9 = .bool wp ∧
      a' ≤ b' ∧ b' ≤ n ∧ b' - a' ≤ k ∧ k ≤ b - a ∧ lim ≤ 64 ∧ Hid (OwnA wr B g n cap dk ∧ Ks (fun x => x = g) w wr ∧ Go.Sort.Below ltInt a' b' dk ∧ pdq ltInt dk a' b' lim wb wp = F))
    case atStart => exact ⟨a, b, limit, true, true, d, rfl, rfl, rfl, rfl, rfl, hab, hb, Nat.le_refl _, Nat.le_refl _, hlimit, H0⟩
    case round =>
      clear H0 d
      obtain ⟨a', b', lim, wb, wp, dk, rfl, rfl, rfl, rfl, rfl, hab', hb', hk, hkN, hlim, HR⟩ := hrel
      obtain ⟨L, hL⟩ : ∃ L, L = b' - a' := ⟨_, rfl⟩
      have eL : IntKind.i64.wrap ((b' : Int) - a') = (L : Int) := by rw [IntWalk.i64_in _ (by omega)]; omega
      have HL := Lib.hid hL
      by_cases h12 : L ≤ 12
      · have h12z : (L : Int) ≤ 12 := by omega
        have hc := sinsert_any B g n cap a' b' dk wr HR.out.1 hn hb' (by omega)
        have HF : Hid (insertionSort ltInt dk a' b' = F) := Lib.hid (by rw [← HR.out.2.2.2, pdq_small (by omega)])
        have HK := Lib.hid HR.out.2.1
        clear HR hL
        go_wp2_with fail
        with_reducible refine hc.mono ?_
        rintro e w1 ⟨rfl, c1, c2⟩
        rw [HF.out] at c1
        have HE := Lib.hid (And.intro c1 (HK.out.trans c2))
        clear c1 c2 hc
        go_wp2
        refine bodyPost_ret (v := .tuple #[]) (results_none rfl _ _ _) rfl ?_
        exact ⟨rfl, HE.out.1, HE.out.2⟩
      · have h12z : ¬ (L : Int) ≤ 12 := by omega
        have h12n : ¬ b' - a' ≤ 12 := by omega
        by_cases hl0 : lim = 0
        · subst hl0
          have hc := sheap_any B g n cap a' b' dk wr HR.out.1 hn (by omega) hb'
          have HF : Hid (heapSort ltInt dk a' b' = F) := Lib.hid (by rw [← HR.out.2.2.2, pdq_heap h12n rfl])
          have HK := Lib.hid HR.out.2.1
          clear HR hL
          go_wp2_with fail
          with_reducible refine hc.mono ?_
          rintro e w1 ⟨rfl, c1, c2⟩
          rw [HF.out] at c1
          have HE := Lib.hid (And.intro c1 (HK.out.trans c2))
          clear c1 c2 hc
          go_wp2
          refine bodyPost_ret (v := .tuple #[]) (results_none rfl _ _ _) rfl ?_
          exact ⟨rfl, HE.out.1, HE.out.2⟩
        · have hl0z : ((lim : Int) == 0) = false := by rw [beq_eq_false_iff_ne]; omega
          have e3 : IntKind.i64.wrap ((lim : Int) - 1) = ((lim - 1 : Nat) : Int) := by rw [IntWalk.i64_in _ (by omega)]; omega
          have hsz : dk.size = n := HR.out.1.1
          obtain ⟨s1, B1, hc1, s2, B2, hpv, s3, B3⟩ := rd_facts (limit := lim) (wb := wb) (wp := wp) S.swo S.par reverseRange_holds (show a' < b' by omega) (show b' ≤ dk.size by omega) HR.out.2.2.1
          have A : Hid (pdq ltInt dk a' b' lim wb wp = F) := Lib.hid HR.out.2.2.2
          have HC := Lib.hid (And.intro HR.out.1 HR.out.2.1)
          have SZ := Lib.hid (And.intro s1 (And.intro s2 (And.intro s3 (And.intro hsz (And.intro B3 hl0)))))
          clear HR hL hl0 s1 s2 s3 hsz B1 B2 B3
          go_upto_if 35 with fail
          go_cut [3] from 34 to 42 (fun s3 wc => s3 = .int .i64 (rd ltInt dk a' b' lim wb wp).lim ∧ Hid (OwnA wc B g n cap (rd ltInt dk a' b' lim wb wp).d1 ∧ Ks (fun x => x = g) w wc))
          case first =>
            cases wb
            · have hc := sbreak_any B g n cap a' b' dk wr HC.out.1 hn hab' hb'
              have HK := Lib.hid HC.out.2
              clear HC
              go_wp2_with fail
              with_reducible refine hc.mono ?_
              rintro e w1 ⟨rfl, c1, c2⟩
              have HE := Lib.hid (And.intro c1 (HK.out.trans c2))
              clear c1 c2 hc
              go_wp2
              go_meet
              exact ⟨rfl, HE⟩
            · go_wp2_with fail
              go_meet
              exact ⟨rfl, HC⟩
          case rest =>
            clear HC e3
            obtain ⟨rfl, HC⟩ := hcut
            have hc17 := spivot_any B g n cap a' b' (rd ltInt dk a' b' lim wb wp).d1 wc HC.out.1 hn (by omega) hb'
            have HK := Lib.hid HC.out.2
            clear HC
            have hc17 : Calls Try.prog 66 #[.slice (some ⟨g, 0, none⟩) n cap, .int .i64 a', .int .i64 b'] wc (CpvP B g n cap (rd ltInt dk a' b' lim wb wp).d1 (rd ltInt dk a' b' lim wb wp).c wc) := hc17
            go_upto_if 50 with (go_at_call 66; refine hc17.mono ?_; rintro e w2 ⟨rfl, c1, c2, c3⟩)
            have HC := Lib.hid (And.intro c1 (HK.out.trans (Ks.of_below c2)))
            clear c1 c2 c3 hc17 HK
            go_cut [11, 12] from 49 to 61 (fun s11 s12 wc => s11 = .int .i64 (rd ltInt dk a' b' lim wb wp).pivot ∧ s12 = .int .i64 (hintv (rd ltInt dk a' b' lim wb wp).hint) ∧ Hid (OwnA wc B g n cap (rd ltInt dk a' b' lim wb wp).d2 ∧ Ks (fun x => x = g) w wc))
            case first =>
              by_cases hh : (rd ltInt dk a' b' lim wb wp).c.2 = .decreasing
              · have hcode : (hintv (rd ltInt dk a' b' lim wb wp).c.2 == 2) = true := by rw [hh]; rfl
                obtain ⟨e2, epv, eht⟩ := rd_dec hh
                obtain ⟨b1, hb1⟩ : ∃ x, x = b' - 1 := ⟨_, rfl⟩
                obtain ⟨cc, hcc⟩ : ∃ x, x = (rd ltInt dk a' b' lim wb wp).c.1 - a' := ⟨_, rfl⟩
                have e5 : IntKind.i64.wrap ((b' : Int) - 1) = (b1 : Int) := by rw [IntWalk.i64_in _ (by omega)]; omega
                have e6 : IntKind.i64.wrap (((rd ltInt dk a' b' lim wb wp).c.1 : Int) - a') = (cc : Int) := by rw [IntWalk.i64_in _ (by omega)]; omega
                have e7 : IntKind.i64.wrap ((b1 : Int) - cc) = ((rd ltInt dk a' b' lim wb wp).pivot : Int) := by rw [IntWalk.i64_in _ (by omega), epv]; omega
                have hc18 := sreverse_any B g n cap a' b' (rd ltInt dk a' b' lim wb wp).d1 w2 HC.out.1 hn (by omega) hb'
                rw [← e2] at hc18
                have HK := Lib.hid HC.out.2
                have HT := Lib.hid eht
                clear HC hb1 hcc e2 epv eht hh
                go_wp2_with fail
                with_reducible refine hc18.mono ?_
                rintro e w3 ⟨rfl, c1, c2⟩
                have HE := Lib.hid (And.intro c1 (HK.out.trans c2))
                clear c1 c2 hc18
                go_wp2
                go_meet
                exact ⟨rfl, by rw [HT.out]; rfl, HE⟩
              · have hcode : (hintv (rd ltInt dk a' b' lim wb wp).c.2 == 2) = false := by rw [beq_eq_false_iff_ne]; exact fun h => hh (hintv_two h)
                obtain ⟨e2, epv, eht⟩ := rd_not hh
                have HT := Lib.hid (And.intro e2 (And.intro epv eht))
                clear e2 epv eht hh
                go_wp2_with fail
                go_meet
                exact ⟨by rw [HT.out.2.1], by rw [HT.out.2.2], by rw [HT.out.1]; exact HC⟩
            case rest =>
              clear HC
              obtain ⟨rfl, rfl, HC⟩ := hcut
              go_upto_region 15 with fail
              go_cut [12, 68] from 61 to 69 (fun s12 s68 wx => s12 = .int .i64 (hintv (rd ltInt dk a' b' lim wb wp).hint) ∧ s68 = .bool (wb && wp && decide ((rd ltInt dk a' b' lim wb wp).hint = .increasing)) ∧ Hid (OwnA wx B g n cap (rd ltInt dk a' b' lim wb wp).d2 ∧ Ks (fun x => x = g) w wx))
              case first =>
                cases wb <;> cases wp <;> cases hh3 : (rd ltInt dk a' b' lim _ _).hint <;>
                  (have hcode3 := congrArg hintv hh3
                   simp only [hintv] at hcode3
                   have HH := Lib.hid hh3
                   clear hh3
                   go_wp2_with fail
                   go_meet
                   exact ⟨by first | rfl | rw [HH.out], by first | rfl | (rw [HH.out]; rfl), HC⟩)
              case rest =>
                clear HC
                obtain ⟨rfl, rfl, HC⟩ := hcut
                go_upto_if 68 with fail
                go_cut [] from 68 to 73 (fun wx => (rd ltInt dk a' b' lim wb wp).pi.2 = false ∧ Hid (OwnA wx B g n cap (rd ltInt dk a' b' lim wb wp).pi.1 ∧ Ks (fun x => x = g) w wx))
                case first =>
                  cases h68 : (wb && wp && decide ((rd ltInt dk a' b' lim wb wp).hint = .increasing))
                  · have epi := rd_pi_no h68
                    have HE : Hid ((rd ltInt dk a' b' lim wb wp).pi.2 = false ∧ Hid (OwnA wc B g n cap (rd ltInt dk a' b' lim wb wp).pi.1 ∧ Ks (fun x => x = g) w wc)) := Lib.hid (by rw [epi]; exact ⟨rfl, HC⟩)
                    clear epi h68
                    go_wp2_with fail
                    go_meet
                    exact HE.out
                  · have epi := rd_pi_yes h68
                    have hc := spins_any B g n cap a' b' (rd ltInt dk a' b' lim wb wp).d2 wc HC.out.1 hn (by omega) hb'
                    rw [← epi] at hc
                    have HK := Lib.hid HC.out.2
                    clear epi h68 HC
                    go_wp2_with fail
                    with_reducible refine hc.mono ?_
                    rintro e w4 ⟨rfl, c1, c2⟩
                    have HE := Lib.hid (And.intro c1 (HK.out.trans c2))
                    clear c1 c2 hc HK
                    cases hp2 : (rd ltInt dk a' b' lim wb wp).pi.2
                    · have HP := Lib.hid hp2
                      clear hp2
                      go_wp2
                      go_meet
                      exact ⟨HP.out, HE⟩
                    · have HF : Hid ((rd ltInt dk a' b' lim wb wp).pi.1 = F) := Lib.hid (by rw [← A.out, pdq_done h12n SZ.out.2.2.2.2.2 hp2])
                      clear hp2
                      rw [HF.out] at HE
                      go_wp2
                      refine bodyPost_ret (v := .tuple #[]) (results_none rfl _ _ _) rfl ?_
                      exact ⟨rfl, HE.out.1, HE.out.2⟩
                case rest =>
                  clear HC
                  obtain ⟨hp2, HC⟩ := hcut
                  have HP2 := Lib.hid hp2
                  clear hp2
                  go_upto_region 17 with fail
                  go_cut [87] from 73 to 88 (fun s87 wx => s87 = .bool (decide (a' > 0) && !ltInt (rd ltInt dk a' b' lim wb wp).pi.1[a' - 1]! (rd ltInt dk a' b' lim wb wp).pi.1[(rd ltInt dk a' b' lim wb wp).pivot]!) ∧ Hid (OwnA wx B g n cap (rd ltInt dk a' b' lim wb wp).pi.1 ∧ Ks (fun x => x = g) w wx))
                  case first =>
                    by_cases ha0 : 0 < a'
                    · obtain ⟨m, hm⟩ : ∃ m, m = a' - 1 := ⟨_, rfl⟩
                      have e5 : IntKind.i64.wrap ((a' : Int) - 1) = (m : Int) := by rw [IntWalk.i64_in _ (by omega)]; omega
                      have a0 : decide ((0 : Int) < (a' : Int)) = true := decide_eq_true (by omega)
                      have a1 : decide (0 < a') = true := decide_eq_true (by omega)
                      have b0 : (m : Int) < n := by omega
                      have b1 : ((rd ltInt dk a' b' lim wb wp).pivot : Int) < n := by omega
                      have b2 : m < n := by omega
                      have b3 : (rd ltInt dk a' b' lim wb wp).pivot < n := by omega
                      obtain ⟨x, hx⟩ : ∃ x, x = (rd ltInt dk a' b' lim wb wp).pi.1[m]! := ⟨_, rfl⟩
                      obtain ⟨y, hy⟩ : ∃ y, y = (rd ltInt dk a' b' lim wb wp).pi.1[(rd ltInt dk a' b' lim wb wp).pivot]! := ⟨_, rfl⟩
                      have L9 : ∀ w', (fun w' => OwnA w' B g n cap (rd ltInt dk a' b' lim wb wp).pi.1) w' → w'.cell? ⟨g, m, none⟩ = some (.int .u64 x) ∧ w'.cell? ⟨g, (rd ltInt dk a' b' lim wb wp).pivot, none⟩ = some (.int .u64 y) := fun w' h => by
                        rw [hx, hy]; exact ⟨OwnA.cell h b2, OwnA.cell h b3⟩
                      have HFIN : Hid ((decide (a' > 0) && !ltInt (rd ltInt dk a' b' lim wb wp).pi.1[a' - 1]! (rd ltInt dk a' b' lim wb wp).pi.1[(rd ltInt dk a' b' lim wb wp).pivot]!) = !ltInt x y) := Lib.hid (by rw [← hm, decide_eq_true (show a' > 0 from ha0), hx, hy]; rfl)
                      have hS : (fun w' => OwnA w' B g n cap (rd ltInt dk a' b' lim wb wp).pi.1) wc.drew := HC.out.1.drew
                      have HK := Lib.hid (HC.out.2.trans (Ks.of_below (below_one' wc)))
                      clear HC hx hy hm ha0
                      refine Seq.wp_region_seq (fun w' => OwnA w' B g n cap (rd ltInt dk a' b' lim wb wp).pi.1) (by kernel_rfl) (by kernel_rfl) hS ?_
                      generalize wc.drew = w1 at *
                      repeat (first | (refine Seq.Seq.skip (by rfl) ?_; (try simp only [Act.put, List.setIfInBounds_toArray, List.set_cons_zero, List.set_cons_succ])) | (refine Seq.Seq.det ?_ (by rfl) (fun w hS => ?_) ?_; rotate_left; ((try dsimp only at hS); go_simp; (try rw [if_pos (by omega)]); with_reducible rfl); (try simp only [Act.put, List.setIfInBounds_toArray, List.set_cons_zero, List.set_cons_succ])))
                      refine Seq.Seq.make (by rfl) (by rfl) (fun K Q' hK => ?_)
                      go_simp
                      go_at_call 69
                      refine (lessu_any _ _ _).mono ?_
                      rintro e w' ⟨rfl, rfl⟩
                      refine hK.out _ _ (hS) ?_
                      clear hK K
                      try simp only [Act.put, List.setIfInBounds_toArray, List.set_cons_zero, List.set_cons_succ]
                      repeat (first | (refine Seq.Seq.skip (by rfl) ?_; (try simp only [Act.put, List.setIfInBounds_toArray, List.set_cons_zero, List.set_cons_succ])) | (refine Seq.Seq.det ?_ (by rfl) (fun w hS => ?_) ?_; rotate_left; ((try dsimp only at hS); go_simp; (try rw [if_pos (by omega)]); with_reducible rfl); (try simp only [Act.put, List.setIfInBounds_toArray, List.set_cons_zero, List.set_cons_succ])))
                      refine Seq.Seq.nil ?_
                      go_wp2
                      go_meet
                      exact ⟨by rw [HFIN.out], Lib.hid ⟨hS, HK.out⟩⟩
                    · have a0 : decide ((0 : Int) < (a' : Int)) = false := decide_eq_false (by omega)
                      have a1 : decide (0 < a') = false := decide_eq_false (by omega)
                      have HFIN : Hid ((decide (a' > 0) && !ltInt (rd ltInt dk a' b' lim wb wp).pi.1[a' - 1]! (rd ltInt dk a' b' lim wb wp).pi.1[(rd ltInt dk a' b' lim wb wp).pivot]!) = false) := Lib.hid (by rw [decide_eq_false (show ¬ a' > 0 from ha0)]; rfl)
                      have HE := Lib.hid (And.intro (HC.out.1.drew) (HC.out.2.trans (Ks.of_below (below_one' wc))))
                      clear HC ha0
                      refine Seq.wp_region_seq (fun w' => True) (by kernel_rfl) (by kernel_rfl) trivial ?_
                      generalize wc.drew = w1 at *
                      have hS : (fun w' : World => True) w1 := trivial
                      repeat (first | (refine Seq.Seq.skip (by rfl) ?_; (try simp only [Act.put, List.setIfInBounds_toArray, List.set_cons_zero, List.set_cons_succ])) | (refine Seq.Seq.det ?_ (by rfl) (fun w hS => ?_) ?_; rotate_left; ((try dsimp only at hS); go_simp; (try rw [if_pos (by omega)]); with_reducible rfl); (try simp only [Act.put, List.setIfInBounds_toArray, List.set_cons_zero, List.set_cons_succ])))
                      refine Seq.Seq.nil ?_
                      go_wp2
                      go_meet
                      exact ⟨by rw [HFIN.out], HE⟩
                  case rest =>
                    clear HC
                    obtain ⟨rfl, HC⟩ := hcut
                    have hB3 := SZ.out.2.2.2.2.1
                    have hs3 : (rd ltInt dk a' b' lim wb wp).pi.1.size = n := SZ.out.2.2.1.trans SZ.out.2.2.2.1
                    cases h87 : (decide (a' > 0) && !ltInt (rd ltInt dk a' b' lim wb wp).pi.1[a' - 1]! (rd ltInt dk a' b' lim wb wp).pi.1[(rd ltInt dk a' b' lim wb wp).pivot]!)
                    · obtain ⟨mid, ap, d4, hx⟩ : ∃ mid ap d4, partition ltInt (rd ltInt dk a' b' lim wb wp).pi.1 a' b' (rd ltInt dk a' b' lim wb wp).pivot = (mid, ap, d4) := ⟨_, _, _, rfl⟩
                      obtain ⟨r1, r2, r3, r4, r5, r6, r7⟩ := round_part S.swo S.prt hpv.1 hpv.2 (show b' ≤ (rd ltInt dk a' b' lim wb wp).pi.1.size by omega) hB3 hx
                      have hc22 := spart_any B g n cap a' b' (rd ltInt dk a' b' lim wb wp).pivot (rd ltInt dk a' b' lim wb wp).pi.1 wc HC.out.1 hn (by omega) hb' (by omega)
                      rw [hx] at hc22
                      have X := Lib.hid hx
                      have H87 := Lib.hid h87
                      have HK := Lib.hid HC.out.2
                      have HRR := Lib.hid (And.intro r4 (And.intro r5 (And.intro r6 r7)))
                      clear hx h87 HC r3 r4 r5 r6 r7 hB3 hs3
                      obtain ⟨lf, hlf⟩ : ∃ x, x = mid - a' := ⟨_, rfl⟩
                      obtain ⟨rg, hrg⟩ : ∃ x, x = b' - mid := ⟨_, rfl⟩
                      obtain ⟨L8, hL8⟩ : ∃ x, x = L / 8 := ⟨_, rfl⟩
                      have e5 : IntKind.i64.wrap ((mid : Int) - a') = (lf : Int) := by rw [IntWalk.i64_in _ (by omega)]; omega
                      have e6 : IntKind.i64.wrap ((b' : Int) - mid) = (rg : Int) := by rw [IntWalk.i64_in _ (by omega)]; omega
                      have e7 : (L : Int).tdiv 8 = (L8 : Int) := by rw [Int.tdiv_eq_ediv_of_nonneg (by omega)]; omega
                      have e8 : IntKind.i64.wrap (L8 : Int) = (L8 : Int) := IntWalk.i64_in _ (by have := HL.out; omega)
                      have e9 : IntKind.i64.wrap ((mid : Int) + 1) = ((mid + 1 : Nat) : Int) := IntWalk.i64_in _ (by omega)
                      have HV := Lib.hid (And.intro hlf (And.intro hrg hL8))
                      clear hlf hrg hL8
                      go_upto_if 113 with (go_at_call 71; refine hc22.mono ?_; rintro e w7 ⟨rfl, c1, c2⟩)
                      try dsimp only at c1
                      have hlim2 : (rd ltInt dk a' b' lim wb wp).lim ≤ 64 := Nat.le_trans rd_lim_le hlim
                      have hms : mid ≤ n := by omega
                      by_cases h4 : lf < rg
                      · have h4z : (lf : Int) < rg := by omega
                        have hih := ih a' mid (rd ltInt dk a' b' lim wb wp).lim d4 w7 (by have := HL.out; omega) c1 r1 hms hlim2 HRR.out.1
                        obtain ⟨pL, sL⟩ := S.pdq S.swo d4 a' mid (rd ltInt dk a' b' lim wb wp).lim true true r1 (by rw [c1.1]; omega) HRR.out.1
                        have HB := Lib.hid ((HRR.out.2.2.1 _ pL sL).1)
                        have HQ : Hid (pdq ltInt (pdq ltInt d4 a' mid (rd ltInt dk a' b' lim wb wp).lim true true) (mid + 1) b' (rd ltInt dk a' b' lim wb wp).lim (decide (L8 ≤ lf)) ap = F) := Lib.hid (by
                          have := pdq_left h12n SZ.out.2.2.2.2.2 HP2.out H87.out (by rw [X.out]; exact ⟨r1, r2⟩) (by rw [X.out]; have := HV.out; omega)
                          rw [X.out] at this
                          rw [← A.out, this]
                          have e1 := HV.out
                          have e2 := HL.out
                          rw [e1.1, e1.2.2, e2])
                        have HK2 := Lib.hid (HK.out.trans c2)
                        clear c1 c2 pL sL h4
                        go_wp2_with fail
                        with_reducible refine hih.mono ?_
                        rintro e w8 ⟨rfl, c1, c2⟩
                        have HE := Lib.hid (And.intro c1 (And.intro (HK2.out.trans c2) (And.intro HB.out HQ.out)))
                        clear c1 c2 hih
                        go_wp2
                        go_roundg (b' - (mid + 1))
                        case measure => omega
                        case rel =>
                          exact ⟨mid + 1, b', (rd ltInt dk a' b' lim wb wp).lim, decide (L8 ≤ lf), ap, _, by go_num, rfl, rfl, congrArg Value.bool (decide_eq_decide.2 ⟨fun h => by omega, fun h => by omega⟩), rfl, by omega, by omega, Nat.le_refl _, by omega, hlim2, HE⟩
                      · have h4z : ¬ (lf : Int) < rg := by omega
                        have hih := ih (mid + 1) b' (rd ltInt dk a' b' lim wb wp).lim d4 w7 (by have := HL.out; omega) c1 (by omega) hb' hlim2 HRR.out.2.1
                        rw [show ((mid + 1 : Nat) : Int) = (mid : Int) + 1 by omega] at hih
                        obtain ⟨pL, sL⟩ := S.pdq S.swo d4 (mid + 1) b' (rd ltInt dk a' b' lim wb wp).lim true true (by omega) (by rw [c1.1]; omega) HRR.out.2.1
                        have HB := Lib.hid ((HRR.out.2.2.2 _ pL sL).1)
                        have HQ : Hid (pdq ltInt (pdq ltInt d4 (mid + 1) b' (rd ltInt dk a' b' lim wb wp).lim true true) a' mid (rd ltInt dk a' b' lim wb wp).lim (decide (L8 ≤ rg)) ap = F) := Lib.hid (by
                          have := pdq_right h12n SZ.out.2.2.2.2.2 HP2.out H87.out (by rw [X.out]; exact ⟨r1, r2⟩) (by rw [X.out]; have := HV.out; omega)
                          rw [X.out] at this
                          rw [← A.out, this]
                          have e1 := HV.out
                          have e2 := HL.out
                          rw [e1.2.1, e1.2.2, e2])
                        have HK2 := Lib.hid (HK.out.trans c2)
                        clear c1 c2 pL sL h4
                        go_wp2_with fail
                        with_reducible refine hih.mono ?_
                        rintro e w8 ⟨rfl, c1, c2⟩
                        have HE := Lib.hid (And.intro c1 (And.intro (HK2.out.trans c2) (And.intro HB.out HQ.out)))
                        clear c1 c2 hih
                        go_wp2
                        go_roundg (mid - a')
                        case measure => omega
                        case rel =>
                          exact ⟨a', mid, (rd ltInt dk a' b' lim wb wp).lim, decide (L8 ≤ rg), ap, _, rfl, rfl, rfl, congrArg Value.bool (decide_eq_decide.2 ⟨fun h => by omega, fun h => by omega⟩), rfl, by omega, by omega, Nat.le_refl _, by omega, hlim2, HE⟩
                    · have h87' := h87
                      simp only [Bool.and_eq_true, decide_eq_true_eq, Bool.not_eq_true'] at h87'
                      obtain ⟨mid, d4, hx⟩ : ∃ mid d4, partitionEqual ltInt (rd ltInt dk a' b' lim wb wp).pi.1 a' b' (rd ltInt dk a' b' lim wb wp).pivot = (mid, d4) := ⟨_, _, rfl⟩
                      obtain ⟨r1, r2, r3, r4, _⟩ := round_eq S.swo S.peq h87'.1 hpv.1 hpv.2 (show b' ≤ (rd ltInt dk a' b' lim wb wp).pi.1.size by omega) hB3 h87'.2 hx
                      have hc21 := sparteq_any B g n cap a' b' (rd ltInt dk a' b' lim wb wp).pivot (rd ltInt dk a' b' lim wb wp).pi.1 wc HC.out.1 hn (by omega) hb' (by omega)
                      rw [hx] at hc21
                      have HQ : Hid (pdq ltInt d4 mid b' (rd ltInt dk a' b' lim wb wp).lim wb wp = F) := Lib.hid (by
                        have := pdq_eq h12n SZ.out.2.2.2.2.2 HP2.out h87 (by rw [hx]; exact ⟨r1, r2⟩)
                        rw [hx] at this
                        rw [← A.out, this])
                      have HK := Lib.hid HC.out.2
                      have HB := Lib.hid r4
                      have hlim2 : (rd ltInt dk a' b' lim wb wp).lim ≤ 64 := Nat.le_trans rd_lim_le hlim
                      clear hx h87 h87' HC r3 r4 hB3 hs3
                      go_wp2_with fail
                      with_reducible refine hc21.mono ?_
                      rintro e w7 ⟨rfl, c1, c2⟩
                      have HE := Lib.hid (And.intro c1 (And.intro (HK.out.trans c2) (And.intro HB.out HQ.out)))
                      clear c1 c2 hc21
                      go_wp2
                      go_roundg (b' - mid)
                      case measure => omega
                      case rel => exact ⟨mid, b', (rd ltInt dk a' b' lim wb wp).lim, wb, wp, d4, rfl, rfl, rfl, rfl, rfl, r2, hb', Nat.le_refl _, by omega, hlim2, HE⟩
end Go.Proofs.Ytoemmppoejaapaa.Cur
namespace Go.Proofs.Ytoemmppoejaapaa.Cur
open Go.RowKit Mem Go.Sort
set_option linter.unusedVariables false
set_option maxRecDepth 100000
theorem plain13_any : Plain13 where
  swo := swo_ltInt
  ins := insertionSort_holds
  par := partialInsertionSort_holds
  prt := partition_holds _
  peq := partitionEqual_holds _
  pdq := pdq_sorts _
def SoP (B g n cap : Nat) (l : List Int) (w : World) (e : Ending) (w' : World) : Prop := e = .returned (.tuple #[]) ∧ (∃ d : Array Int, OwnA w' B g n cap d ∧ d.toList = l.mergeSort (fun x y => decide (x ≤ y))) ∧ Ks (fun x => x = g) w w'
theorem ssort_any (B g n cap : Nat) (d : Array Int) (w : World) (h : OwnA w B g n cap d) (hn : n ≤ 5000) :
    Calls Try.prog 28 #[.slice (some ⟨g, 0, none⟩) n cap] w (SoP B g n cap d.toList w) := by
  have hk : bitsLen n ≤ 62 := (bitsLen_le_iff n 62).2 (by omega)
  have hL := slen_any n hn
  have hp := spdq_any B g n cap hn plain13_any (n + 1) 0 n (bitsLen n) d w (by omega) h (Nat.zero_le _) (Nat.le_refl _) (by omega) (Or.inl rfl)
  rw [show ((0 : Nat) : Int) = 0 from rfl] at hp
  have HS : Hid (∀ w', OwnA w' B g n cap (pdq ltInt d 0 n (bitsLen n) true true) → ∃ d2 : Array Int, OwnA w' B g n cap d2 ∧ d2.toList = d.toList.mergeSort (fun x y => decide (x ≤ y))) := Lib.hid (fun w' h' => ⟨_, h', by
    have e := sortInt d.toList
    unfold Go.Sort.sort at e
    rw [show d.toList.toArray = d from rfl, h.1] at e
    exact e⟩)
  have e1 : IntKind.u64.wrap (n : Int) = (n : Int) := by rw [IntKind.wrap_u64]; omega
  clear h
  go_enter Try.func28, Try.ntmps28
  go_wp2_with fail
  with_reducible refine (hL _).mono ?_
  rintro e w1 ⟨rfl, rfl⟩
  go_wp2_with fail
  with_reducible refine hp.mono ?_
  rintro e w1 ⟨rfl, c1, c2⟩
  have HE := Lib.hid (And.intro (HS.out _ c1) c2)
  clear c1 c2 hp hL
  go_wp2
  go_end0
  exact ⟨rfl, HE.out.1, HE.out.2⟩
end Go.Proofs.Ytoemmppoejaapaa.Cur
namespace Go.Proofs.Ytoemmppoejaapaa.Cur
open Go.RowKit Mem
set_option linter.unusedVariables false
set_option maxRecDepth 100000
end Go.Proofs.Ytoemmppoejaapaa.Cur
namespace Go.Proofs.Ytoemmppoejaapaa.Cur
open Go.RowKit Mem
set_option linter.unusedVariables false
set_option maxRecDepth 100000
end Go.Proofs.Ytoemmppoejaapaa.Cur
namespace Go.Proofs.Ytoemmppoejaapaa.Cur
open Go.RowKit Mem
set_option linter.unusedVariables false
set_option maxRecDepth 100000
theorem own_arr {w : World} {B : Nat} {v : Value} {z : List Int} (h : OwnU w B v z) (h1 : 1 ≤ z.length) : ∃ g cap, v = .slice (some ⟨g, 0, none⟩) z.length cap ∧ B ≤ g ∧ OwnA w B g z.length cap z.toArray := by
  rcases h.2 with ⟨e, h0⟩ | ⟨g, cap, cur, e, hg, r⟩
  · omega
  · subst e; exact ⟨g, cap, rfl, hg, by simp, h⟩
end Go.Proofs.Ytoemmppoejaapaa.Cur
namespace Go.Proofs.Ytoemmppoejaapaa.Cur
open Go.RowKit Mem
set_option linter.unusedVariables false
set_option maxRecDepth 100000
end Go.Proofs.Ytoemmppoejaapaa.Cur
