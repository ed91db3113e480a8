/- Tokens expanded, by the document. -/
import Derived.Test.YtklkflfdianbpaaExpD
namespace Go.Proofs.Ytklkflfdianbpaa.Cur
open Go.RowKit Mem
set_option linter.unusedVariables false

theorem chk_cpy {n : Nat} {o l before bound : Int} (h : chk n o l before bound = 0) (hl : 0 < l) : n = 0 := by
  obtain ⟨h1, h2, h3⟩ := chk_ok h
  rcases h1 with h1 | h1
  · unfold trun at h1
    rw [decide_eq_true_eq] at h1
    omega
  · unfold tcpy at h1
    rw [decide_eq_true_eq] at h1
    exact h1.1


set_option maxRecDepth 100000 in
set_option maxHeartbeats 4000000 in
theorem rtokens_any (A : Option Addr) (n m : Nat) (T : List Tk) (bound : Int) (w : World) (hT : TksL w A n T) (hok : ∀ t ∈ T, tkok t) (hn : n ≤ 100000) (hb : bound ≤ 800000) :
    Calls Try.prog 10 #[.slice A n m, .int .i64 bound] w (XpPost (xpb T bound n) w) := by
  have HT := Lib.hid hT
  have HOK := Lib.hid hok
  have hF := Blk.new w #[.int .i64 0, .int .i64 0] 28
  have hbF := below_one w (.cells #[.int .i64 0, .int .i64 0] 28)
  clear hT hok
  go_enter Try.func10, Try.ntmps10
  go_wp2
  go_loopw [6, 7] (fun u i wr => ∃ (k : Nat) (y : List Int), k ≤ n ∧ i = .int .i64 k ∧ Own wr (w.heap.size + 1) u y ∧ Blk wr w.heap.size #[.int .i64 0, .int .i64 0] 28 ∧ Below w.heap.size w wr ∧ Hid (xpb T bound k = (y, 0, 0)) ∧ Hid (y.length ≤ 800000)) (fun _ i _ => n - (intOf i).toNat)
  case atStart => exact ⟨0, [], by omega, rfl, Own.nil _ _, hF, hbF, Lib.hid rfl, Lib.hid (by simp)⟩
  case round =>
    clear hF hbF
    obtain ⟨k, y, hk, rfl, hu, hF, hbd, HY, HYB⟩ := hrel
    obtain ⟨Av, cv, rfl, hbs, hnilv, hlev⟩ := hu.parts
    clear hbs
    by_cases hlt : k < n
    · obtain ⟨b, o, Ar, Lr, Cr, rfl, hC, hnil, hle⟩ := (HT.out.below hbd).2 k hlt
      have hokt := tkok_getD HOK.out k
      have hlen := hC.2.2.2.1
      have hy8 : y.length ≤ 800000 := HYB.out
      have HXP := Lib.hid (fun hc => xp_bad (own := fun k => (T.getD k tk0).1) (d := 0) (f := id) (n := n) HY.out hlt hc)
      have HXM := Lib.hid (fun hc => xp_more (own := fun k => (T.getD k tk0).1) (d := 0) (f := id) HY.out hc)
      generalize T.getD k tk0 = t at *
      rw [hlen] at HXP HXM
      obtain ⟨hokb, hoko, _⟩ := hokt
      have hCc := hC
      obtain ⟨c0, c1, c2, _⟩ := hCc
      go_wp2_with fail
      refine (rtright_any _ _ _ _ _ _).mono ?_
      rintro e w1 ⟨rfl, hb1⟩
      obtain ⟨rt, hrt⟩ : ∃ rt, rt = (trun Lr t.2.1 t.2.2 || tcpy Lr t.2.1 t.2.2) := ⟨_, rfl⟩
      rw [← hrt]
      replace hu := hu.below hb1
      replace hF := hF.below hb1
      replace hC := hC.below hb1 (Nat.le_refl _)
      replace hbd := hbd.trans (hb1.mono hbd.size)
      clear hb1
      cases rt
      · have h0 : chk Lr t.2.1 t.2.2 y.length bound = 3 := by unfold chk; rw [← hrt]; rfl
        rw [h0] at HXP
        have HXN := Lib.hid (HXP.out (by decide))
        have hfq : fq 3 k = k := rfl
        clear h0 HXP HXM hrt c0 c1 c2 hC
        go_wp2_with fail
        refine (rat_any _ _ _).mono ?_
        rintro e w9 ⟨rfl, hb9⟩
        rw [hfq]
        replace hF := hF.below hb9
        replace hbd := hbd.trans (hb9.mono hbd.size)
        obtain ⟨f0, f1⟩ := hF.c2
        obtain ⟨g0, g1⟩ := hF.f2
        clear hb9
        go_wp2
        refine bodyPost_ret (v := .tuple #[.slice none 0 0, .agg #[.int .i64 3, .int .i64 k]]) (by simp [results, Try.results10, go_sem, f0, f1]) rfl ⟨_, by rw [show xpb T bound n = _ from HXN.out], by rw [show xpb T bound n = _ from HXN.out]; exact Own.nil _ _, ?_⟩
        exact (hbd.setCell (Nat.le_refl _) _).setCell (Nat.le_refl _) _
      · obtain ⟨sz, hsz⟩ : ∃ sz, sz = tsz Lr t.2.1 t.2.2 := ⟨_, rfl⟩
        have hbsz := tsz_bd Lr t.2.1 t.2.2
        rw [← hsz] at hbsz
        have HSZ := Lib.hid hsz
        have e1 : IntKind.i64.wrap ((y.length : Int) + sz) = y.length + sz := IntWalk.i64_in _ (by omega)
        have HCK : Hid (chk Lr t.2.1 t.2.2 y.length bound = if bound < y.length + sz then 11 else if (y.length : Int) < t.2.1 then 10 else 0) := Lib.hid (by unfold chk; rw [← hrt, if_pos rfl, ← hsz])
        clear hsz hrt c0 c1 c2
        have hCc := hC
        obtain ⟨c0, c1, c2, _⟩ := hCc
        go_wp2_with fail
        refine (rtlen_any _ _ _ _ _ _).mono ?_
        rintro e w1 ⟨rfl, hb1⟩
        rw [← HSZ.out]
        replace hu := hu.below hb1
        replace hF := hF.below hb1
        replace hC := hC.below hb1 (Nat.le_refl _)
        replace hbd := hbd.trans (hb1.mono hbd.size)
        clear hb1
        clear c0 c1 c2
        by_cases hbo : bound < y.length + sz
        · have h0 := HCK.out
          rw [if_pos hbo] at h0
          rw [h0] at HXP
          have HXN := Lib.hid (HXP.out (by decide))
          have hfq : fq 11 k = k := rfl
          clear h0 HXP HXM HCK hC
          go_wp2_with fail
          refine (rat_any _ _ _).mono ?_
          rintro e w9 ⟨rfl, hb9⟩
          rw [hfq]
          replace hF := hF.below hb9
          replace hbd := hbd.trans (hb9.mono hbd.size)
          obtain ⟨f0, f1⟩ := hF.c2
          obtain ⟨g0, g1⟩ := hF.f2
          clear hb9
          go_wp2
          refine bodyPost_ret (v := .tuple #[.slice none 0 0, .agg #[.int .i64 11, .int .i64 k]]) (by simp [results, Try.results10, go_sem, f0, f1]) rfl ⟨_, by rw [show xpb T bound n = _ from HXN.out], by rw [show xpb T bound n = _ from HXN.out]; exact Own.nil _ _, ?_⟩
          exact (hbd.setCell (Nat.le_refl _) _).setCell (Nat.le_refl _) _
        · have hCc := hC
          obtain ⟨c0, c1, c2, _⟩ := hCc
          by_cases hof : (y.length : Int) < t.2.1
          · have h0 := HCK.out
            rw [if_neg hbo, if_pos hof] at h0
            rw [h0] at HXP
            have HXN := Lib.hid (HXP.out (by decide))
            have hfq : fq 10 k = k := rfl
            clear h0 HXP HXM HCK hC
            go_wp2_with fail
            refine (rat_any _ _ _).mono ?_
            rintro e w9 ⟨rfl, hb9⟩
            rw [hfq]
            replace hF := hF.below hb9
            replace hbd := hbd.trans (hb9.mono hbd.size)
            obtain ⟨f0, f1⟩ := hF.c2
            obtain ⟨g0, g1⟩ := hF.f2
            clear hb9
            go_wp2
            refine bodyPost_ret (v := .tuple #[.slice none 0 0, .agg #[.int .i64 10, .int .i64 k]]) (by simp [results, Try.results10, go_sem, f0, f1]) rfl ⟨_, by rw [show xpb T bound n = _ from HXN.out], by rw [show xpb T bound n = _ from HXN.out]; exact Own.nil _ _, ?_⟩
            exact (hbd.setCell (Nat.le_refl _) _).setCell (Nat.le_refl _) _
          · have h0 := HCK.out
            rw [if_neg hbo, if_neg hof] at h0
            obtain ⟨l0, l1, l2, l3, _⟩ := chk_run h0
            have l4 := chk_cpy h0
            have HXN := Lib.hid (HXM.out h0)
            obtain ⟨ln, hln⟩ := Int.eq_ofNat_of_zero_le l0
            have hln2 : t.2.2.toNat = ln := by rw [hln]; rfl
            rw [hln2] at HXN
            rw [hln] at l1 l2 l3 l4
            have HLN := Lib.hid hln
            have HL3 := Lib.hid l3
            have HL4 := Lib.hid l4
            have HLEN : Hid ((agn 0 id (y ++ t.1) t.2.1 ln).length ≤ 800000) := Lib.hid (by rw [agn_length, List.length_append, hC.2.2.2.1]; omega)
            have HL2 : Hid (y.length + Lr + ln ≤ 900000) := Lib.hid (by omega)
            clear h0 HXP HXM HCK hln hln2 l0 l1 l2 l3 l4
            go_wp2_with fail
            have hw := rwith_any Av y.length cv y Ar Lr Cr t.1 t.2.1 ln _ hu.bs.2 hnilv hC.2.2.2 hnil HL2.out (fun h => by have h1 := HL3.out (by omega); have h2 := HL4.out (by omega); omega)
            rw [← HLN.out] at hw
            refine hw.mono ?_
            rintro e w2 ⟨v2, rfl, ho2, hb2⟩
            have hFl := hF.lt
            replace ho2 := ho2.base (B' := w.heap.size + 1) (fun g hg => by have := Own.ge ho2 g hg; omega)
            replace hF := hF.below hb2
            replace hbd := hbd.trans (hb2.mono hbd.size)
            clear hb2 hC hw hu c0 c1 c2
            go_wp2
            go_roundw
            case rel => exact ⟨k + 1, _, hlt, by go_num, ho2, hF, hbd, HXN, HLEN⟩
            case measure => simp [intOf]; omega
    · obtain rfl : k = n := by omega
      obtain ⟨f0, f1⟩ := hF.c2
      obtain ⟨g0, g1⟩ := hF.f2
      go_wp2
      refine bodyPost_ret (v := .tuple #[.slice Av y.length cv, .agg #[.int .i64 0, .int .i64 0]]) (by simp [results, Try.results10, go_sem, f0, f1]) rfl ⟨_, by rw [HY.out], by rw [HY.out]; exact (Own.far (p := ⟨w.heap.size, 1, none⟩) (Own.far (p := ⟨w.heap.size, 0, none⟩) hu (Nat.lt_succ_self _) _) (Nat.lt_succ_self _) _).base (fun g hg => by have := Own.ge hu g hg; omega), ?_⟩
      exact (hbd.setCell (Nat.le_refl _) _).setCell (Nat.le_refl _) _
end Go.Proofs.Ytklkflfdianbpaa.Cur
