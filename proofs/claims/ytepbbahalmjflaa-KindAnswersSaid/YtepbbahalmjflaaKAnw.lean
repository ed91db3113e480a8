/- KindAnswers: called with any two numbers, the law returns true; no condition. -/
import Derived.Test.YtepbbahalmjflaaRows
import Derived.Test.YtepbbahalmjflaaKndL
import Derived.ProofKit
import Derived.OpenShut
import Derived.ShutString
import Derived.ChangeOld
namespace Go.Proofs.Ytepbbahalmjflaa.kindAnswers
open Go.ChangeShapes Go.WideShapes Go.ChangeAt Go.RowKit
open Go.ChangeMaps (open_string shut_string)
set_option linter.unusedVariables false

theorem own : ownKnob Try.prog.godebug = none := by kernel_rfl
theorem laidOut : laidOutB Try.prog = true := by kernel_rfl
open Cur Mem
set_option maxRecDepth 100000


/-- How many of the first numbers answer a kind. -/
def cans (k : Int) : Nat → Int
  | 0 => 0
  | i + 1 => if kans k (i : Int) then cans k i + 1 else cans k i
theorem kans_no {k : Int} (h : (kof k).2.2 = 0) (a : Int) : kans k a = false := decide_eq_false (fun h2 => h2.1 h)
theorem cans_bd (k : Int) : ∀ i : Nat, 0 ≤ cans k i ∧ cans k i ≤ i
  | 0 => ⟨Int.le_refl _, Int.le_refl _⟩
  | i + 1 => by
    have := cans_bd k i
    unfold cans
    split <;> omega
theorem kof_in {k : Int} (h : (kof k).2.2 ≠ 0) : 1 ≤ k ∧ k ≤ 14 := by
  by_cases h2 : 1 ≤ k ∧ k ≤ 14
  · exact h2
  · rw [kof_out h2] at h; exact absurd rfl h
theorem cans_all (k : Int) : cans k 20 = if kreq k then 2 else 0 := by
  by_cases h : (kof k).2.2 = 0
  · rw [if_neg (by unfold kreq; simp [h])]
    simp only [cans, kans_no h, Bool.false_eq_true, if_false]
  · obtain ⟨h1, h2⟩ := kof_in h
    rcases cases14 h1 h2 with rfl | rfl | rfl | rfl | rfl | rfl | rfl | rfl | rfl | rfl | rfl | rfl | rfl | rfl <;> decide +kernel
theorem kans_kind {k a : Int} (h : kans k a = true) : kreq a = false ∧ kri a = true := by
  obtain ⟨h1, h2⟩ := of_decide_eq_true h
  obtain ⟨k1, k2⟩ := kof_in h1
  rcases h2 with rfl | rfl
  · rcases cases14 k1 k2 with rfl | rfl | rfl | rfl | rfl | rfl | rfl | rfl | rfl | rfl | rfl | rfl | rfl | rfl <;> first | exact ⟨by decide +kernel, by decide +kernel⟩ | exact absurd (by decide +kernel) h1
  · exact ⟨by decide +kernel, by decide +kernel⟩
theorem kans_14 {k : Int} (h : kreq k = true) : kans k 14 = true := decide_eq_true ⟨of_decide_eq_true h, .inr rfl⟩

set_option maxHeartbeats 8000000 in
theorem walk {H : Type} (enc : TypeId × Value → H) (w : World) (base : Nat) (v0 : Value) (d0 : DataW H) (p0 : List MemPlace) (g0 : Value.okWide Try.prog w .any base 3 v0) (h0 : DataW.Trod enc Try.prog w 0 (fun _ => true) true 3 v0 d0 p0) (v1 : Value) (d1 : DataW H) (p1 : List MemPlace) (g1 : Value.okWide Try.prog w .any base 3 v1) (h1 : DataW.Trod enc Try.prog w 0 (fun _ => true) true 3 v1 d1 p1) :
    Calls Try.prog 5 #[v0, v1] w fun e w' => e = .returned (.bool true) ∧ Below w.heap.size w w' := by
  obtain ⟨k, rfl, k0, k1⟩ := open_i64 g0 h0
  obtain ⟨a, rfl, p0, p1⟩ := open_i64 g1 h1
  clear g0 h0 g1 h1
  obtain ⟨_, _, a0, _⟩ := kof_bd k
  by_cases ha : (kof k).2.2 = 0
  · have HKA : Hid (kans k a = false) := Lib.hid (kans_no ha a)
    have HD : Hid (decide (0 < (kof k).2.2) = false) := Lib.hid (decide_eq_false (by omega))
    clear ha
    go_enter Try.func5, Try.ntmps5
    go_wp2_with fail
    refine (rkof_any k _).mono ?_
    rintro e w1 ⟨rfl, hb1⟩
    unfold kagg
    have hY := Blk.new w1 #[.string (kof k).1, .int .i64 (kof k).2.1, .int .i64 (kof k).2.2] 23
    have hb2 := hb1.trans ((below_one w1 (.cells #[.string (kof k).1, .int .i64 (kof k).2.1, .int .i64 (kof k).2.2] 23)).mono hb1.size)
    go_upto_region 2 with (fail)
    generalize w1.alloc (.cells #[.string (kof k).1, .int .i64 (kof k).2.1, .int .i64 (kof k).2.2] 23) = wE at *
    generalize w1.heap.size = bb at *
    have L : ∀ w', HkW wE w' → w'.cell? ⟨bb, 2, none⟩ = some (.int .i64 (kof k).2.2) := fun w' h => (hY.below h).c3.2.2
    have HB1 := Lib.hid hb2
    have hS : HkW wE wE.drew := below_one' _
    clear hY hb2 hb1
    refine Seq.wp_region_seq (HkW wE) (by kernel_rfl) (by kernel_rfl) hS ?_
    generalize wE.drew = wd at *
    repeat (first | (refine Seq.Seq.skip (by rfl) ?_; (try simp only [Act.put, List.setIfInBounds_toArray, List.set_cons_zero, List.set_cons_succ])) | (refine Seq.Seq.det ?_ (by rfl) (fun w hS => ?_) ?_; rotate_left; ((try dsimp only at hS); go_simp; (try rw [if_pos (by omega)]); with_reducible rfl); (try simp only [Act.put, List.setIfInBounds_toArray, List.set_cons_zero, List.set_cons_succ])))
    refine Seq.Seq.make (by rfl) (by rfl) (fun K Q' hK => ?_)
    go_simp
    go_at_call 17
    refine (kans_any k a _).mono ?_
    rintro e v1 ⟨rfl, hc1⟩
    rw [HKA.out]
    replace hS := Below.trans hS (hc1.mono (Below.size hS))
    clear hc1
    refine hK.out _ _ (hS) ?_
    clear hK K
    try simp only [Act.put, List.setIfInBounds_toArray, List.set_cons_zero, List.set_cons_succ]
    repeat (first | (refine Seq.Seq.skip (by rfl) ?_; (try simp only [Act.put, List.setIfInBounds_toArray, List.set_cons_zero, List.set_cons_succ])) | (refine Seq.Seq.det ?_ (by rfl) (fun w hS => ?_) ?_; rotate_left; ((try dsimp only at hS); go_simp; (try rw [if_pos (by omega)]); with_reducible rfl); (try simp only [Act.put, List.setIfInBounds_toArray, List.set_cons_zero, List.set_cons_succ])))
    rw [HD.out]
    repeat (first | (refine Seq.Seq.skip (by rfl) ?_; (try simp only [Act.put, List.setIfInBounds_toArray, List.set_cons_zero, List.set_cons_succ])) | (refine Seq.Seq.det ?_ (by rfl) (fun w hS => ?_) ?_; rotate_left; ((try dsimp only at hS); go_simp; (try rw [if_pos (by omega)]); with_reducible rfl); (try simp only [Act.put, List.setIfInBounds_toArray, List.set_cons_zero, List.set_cons_succ])))
    try rw [HE1.out]
    repeat (first | (refine Seq.Seq.skip (by rfl) ?_; (try simp only [Act.put, List.setIfInBounds_toArray, List.set_cons_zero, List.set_cons_succ])) | (refine Seq.Seq.det ?_ (by rfl) (fun w hS => ?_) ?_; rotate_left; ((try dsimp only at hS); go_simp; (try rw [if_pos (by omega)]); with_reducible rfl); (try simp only [Act.put, List.setIfInBounds_toArray, List.set_cons_zero, List.set_cons_succ])))
    try rw [HE2.out]
    repeat (first | (refine Seq.Seq.skip (by rfl) ?_; (try simp only [Act.put, List.setIfInBounds_toArray, List.set_cons_zero, List.set_cons_succ])) | (refine Seq.Seq.det ?_ (by rfl) (fun w hS => ?_) ?_; rotate_left; ((try dsimp only at hS); go_simp; (try rw [if_pos (by omega)]); with_reducible rfl); (try simp only [Act.put, List.setIfInBounds_toArray, List.set_cons_zero, List.set_cons_succ])))
    refine Seq.Seq.nil ?_
    have hbd : Below wE.heap.size wE v1 := hS
    have HB2 := Lib.hid (HB1.out.trans (hbd.mono HB1.out.size))
    clear hS L hbd HB1
    go_wp2
    try rw [show (!true) = false from rfl]
    go_loopw [6, 7] (fun m i wr => ∃ j : Nat, j ≤ 20 ∧ i = .int .i64 (j : Int) ∧ m = .int .i64 (cans k j) ∧ Below w.heap.size w wr) (fun _ i _ => 30 - (intOf i).toNat)
    case atStart => exact ⟨0, by omega, rfl, rfl, HB2.out⟩
    case round =>
      obtain ⟨j, hj, rfl, rfl, hb⟩ := hrel
      have HB := Lib.hid hb
      clear hb
      by_cases h20 : j = 20
      · subst h20
        have HC := Lib.hid (cans_all k)
        cases hq : kreq k
        case true =>
          rw [hq] at HC
          have HQ := Lib.hid hq
          have H14 := Lib.hid (kans_14 hq)
          rw [show cans k 20 = 2 from HC.out]
          clear hq
          go_wp2_with fail
          refine (kreq_any k _).mono ?_
          rintro e w3 ⟨rfl, hb3⟩
          rw [HQ.out]
          have hbd := HB.out.trans (hb3.mono HB.out.size)
          clear hb3
          go_wp2_with fail
          refine (kans_any k 14 _).mono ?_
          rintro e w4 ⟨rfl, hb4⟩
          rw [H14.out]
          replace hbd := hbd.trans (hb4.mono hbd.size)
          clear hb4
          go_wp2_with fail
          refine (live27_any _).mono ?_
          rintro e w5 ⟨rfl, hb5⟩
          replace hbd := hbd.trans (hb5.mono hbd.size)
          clear hb5
          go_wp2
          go_ret
          exact ⟨rfl, hbd⟩
        case false =>
          rw [hq] at HC
          have HQ := Lib.hid hq
          rw [show cans k 20 = 0 from HC.out]
          clear hq
          go_wp2_with fail
          refine (kreq_any k _).mono ?_
          rintro e w3 ⟨rfl, hb3⟩
          rw [HQ.out]
          have hbd := HB.out.trans (hb3.mono HB.out.size)
          clear hb3
          go_wp2_with fail
          refine (live27_any _).mono ?_
          rintro e w5 ⟨rfl, hb5⟩
          replace hbd := hbd.trans (hb5.mono hbd.size)
          clear hb5
          go_wp2
          go_ret
          exact ⟨rfl, hbd⟩
      · have hcb := cans_bd k j
        have hst : cans k (j + 1) = if kans k (j : Int) then cans k j + 1 else cans k j := rfl
        obtain ⟨s, hs⟩ : ∃ s, s = cans k j := ⟨_, rfl⟩
        rw [← hs] at hst hcb ⊢
        have HST := Lib.hid hst
        clear hs hst
        cases hk : kans k (j : Int)
        case false =>
          have HK := Lib.hid hk
          clear hk
          go_wp2_with fail
          refine (kans_any k (j : Int) _).mono ?_
          rintro e w3 ⟨rfl, hb3⟩
          rw [HK.out]
          go_wp2
          go_roundw
          case rel => exact ⟨j + 1, by omega, by rw [Int.natCast_add]; rfl, by rw [HST.out, HK.out]; rfl, HB.out.trans (hb3.mono HB.out.size)⟩
          case measure => simp [intOf]; omega
        case true =>
          have HK := Lib.hid hk
          obtain ⟨hr, hi⟩ := kans_kind hk
          have HR := Lib.hid hr
          have HI := Lib.hid hi
          clear hk hr hi
          go_wp2_with fail
          refine (kans_any k (j : Int) _).mono ?_
          rintro e w3 ⟨rfl, hb3⟩
          rw [HK.out]
          have hbd := HB.out.trans (hb3.mono HB.out.size)
          clear hb3
          go_wp2_with fail
          refine (kreq_any (j : Int) _).mono ?_
          rintro e w4 ⟨rfl, hb4⟩
          rw [HR.out]
          replace hbd := hbd.trans (hb4.mono hbd.size)
          clear hb4
          go_wp2_with fail
          refine (kright_any (j : Int) _).mono ?_
          rintro e w5 ⟨rfl, rfl⟩
          rw [HI.out]
          go_wp2
          go_roundw
          case rel => exact ⟨j + 1, by omega, by rw [Int.natCast_add]; rfl, by rw [HST.out, HK.out]; rfl, hbd⟩
          case measure => simp [intOf]; omega
  · have HD : Hid (decide (0 < (kof k).2.2) = true) := Lib.hid (decide_eq_true (by omega))
    by_cases h2 : a = (kof k).2.2
    · have HKA : Hid (kans k a = true) := Lib.hid (decide_eq_true ⟨ha, .inl h2⟩)
      have HE1 : Hid ((a == (kof k).2.2) = true) := Lib.hid (beq_iff_eq.2 h2)
      clear ha h2
      go_enter Try.func5, Try.ntmps5
      go_wp2_with fail
      refine (rkof_any k _).mono ?_
      rintro e w1 ⟨rfl, hb1⟩
      unfold kagg
      have hY := Blk.new w1 #[.string (kof k).1, .int .i64 (kof k).2.1, .int .i64 (kof k).2.2] 23
      have hb2 := hb1.trans ((below_one w1 (.cells #[.string (kof k).1, .int .i64 (kof k).2.1, .int .i64 (kof k).2.2] 23)).mono hb1.size)
      go_upto_region 2 with (fail)
      generalize w1.alloc (.cells #[.string (kof k).1, .int .i64 (kof k).2.1, .int .i64 (kof k).2.2] 23) = wE at *
      generalize w1.heap.size = bb at *
      have L : ∀ w', HkW wE w' → w'.cell? ⟨bb, 2, none⟩ = some (.int .i64 (kof k).2.2) := fun w' h => (hY.below h).c3.2.2
      have HB1 := Lib.hid hb2
      have hS : HkW wE wE.drew := below_one' _
      clear hY hb2 hb1
      refine Seq.wp_region_seq (HkW wE) (by kernel_rfl) (by kernel_rfl) hS ?_
      generalize wE.drew = wd at *
      repeat (first | (refine Seq.Seq.skip (by rfl) ?_; (try simp only [Act.put, List.setIfInBounds_toArray, List.set_cons_zero, List.set_cons_succ])) | (refine Seq.Seq.det ?_ (by rfl) (fun w hS => ?_) ?_; rotate_left; ((try dsimp only at hS); go_simp; (try rw [if_pos (by omega)]); with_reducible rfl); (try simp only [Act.put, List.setIfInBounds_toArray, List.set_cons_zero, List.set_cons_succ])))
      refine Seq.Seq.make (by rfl) (by rfl) (fun K Q' hK => ?_)
      go_simp
      go_at_call 17
      refine (kans_any k a _).mono ?_
      rintro e v1 ⟨rfl, hc1⟩
      rw [HKA.out]
      replace hS := Below.trans hS (hc1.mono (Below.size hS))
      clear hc1
      refine hK.out _ _ (hS) ?_
      clear hK K
      try simp only [Act.put, List.setIfInBounds_toArray, List.set_cons_zero, List.set_cons_succ]
      repeat (first | (refine Seq.Seq.skip (by rfl) ?_; (try simp only [Act.put, List.setIfInBounds_toArray, List.set_cons_zero, List.set_cons_succ])) | (refine Seq.Seq.det ?_ (by rfl) (fun w hS => ?_) ?_; rotate_left; ((try dsimp only at hS); go_simp; (try rw [if_pos (by omega)]); with_reducible rfl); (try simp only [Act.put, List.setIfInBounds_toArray, List.set_cons_zero, List.set_cons_succ])))
      rw [HD.out]
      repeat (first | (refine Seq.Seq.skip (by rfl) ?_; (try simp only [Act.put, List.setIfInBounds_toArray, List.set_cons_zero, List.set_cons_succ])) | (refine Seq.Seq.det ?_ (by rfl) (fun w hS => ?_) ?_; rotate_left; ((try dsimp only at hS); go_simp; (try rw [if_pos (by omega)]); with_reducible rfl); (try simp only [Act.put, List.setIfInBounds_toArray, List.set_cons_zero, List.set_cons_succ])))
      try rw [HE1.out]
      repeat (first | (refine Seq.Seq.skip (by rfl) ?_; (try simp only [Act.put, List.setIfInBounds_toArray, List.set_cons_zero, List.set_cons_succ])) | (refine Seq.Seq.det ?_ (by rfl) (fun w hS => ?_) ?_; rotate_left; ((try dsimp only at hS); go_simp; (try rw [if_pos (by omega)]); with_reducible rfl); (try simp only [Act.put, List.setIfInBounds_toArray, List.set_cons_zero, List.set_cons_succ])))
      try rw [HE2.out]
      repeat (first | (refine Seq.Seq.skip (by rfl) ?_; (try simp only [Act.put, List.setIfInBounds_toArray, List.set_cons_zero, List.set_cons_succ])) | (refine Seq.Seq.det ?_ (by rfl) (fun w hS => ?_) ?_; rotate_left; ((try dsimp only at hS); go_simp; (try rw [if_pos (by omega)]); with_reducible rfl); (try simp only [Act.put, List.setIfInBounds_toArray, List.set_cons_zero, List.set_cons_succ])))
      refine Seq.Seq.nil ?_
      have hbd : Below wE.heap.size wE v1 := hS
      have HB2 := Lib.hid (HB1.out.trans (hbd.mono HB1.out.size))
      clear hS L hbd HB1
      go_wp2
      try rw [show (!true) = false from rfl]
      go_loopw [6, 7] (fun m i wr => ∃ j : Nat, j ≤ 20 ∧ i = .int .i64 (j : Int) ∧ m = .int .i64 (cans k j) ∧ Below w.heap.size w wr) (fun _ i _ => 30 - (intOf i).toNat)
      case atStart => exact ⟨0, by omega, rfl, rfl, HB2.out⟩
      case round =>
        obtain ⟨j, hj, rfl, rfl, hb⟩ := hrel
        have HB := Lib.hid hb
        clear hb
        by_cases h20 : j = 20
        · subst h20
          have HC := Lib.hid (cans_all k)
          cases hq : kreq k
          case true =>
            rw [hq] at HC
            have HQ := Lib.hid hq
            have H14 := Lib.hid (kans_14 hq)
            rw [show cans k 20 = 2 from HC.out]
            clear hq
            go_wp2_with fail
            refine (kreq_any k _).mono ?_
            rintro e w3 ⟨rfl, hb3⟩
            rw [HQ.out]
            have hbd := HB.out.trans (hb3.mono HB.out.size)
            clear hb3
            go_wp2_with fail
            refine (kans_any k 14 _).mono ?_
            rintro e w4 ⟨rfl, hb4⟩
            rw [H14.out]
            replace hbd := hbd.trans (hb4.mono hbd.size)
            clear hb4
            go_wp2_with fail
            refine (live27_any _).mono ?_
            rintro e w5 ⟨rfl, hb5⟩
            replace hbd := hbd.trans (hb5.mono hbd.size)
            clear hb5
            go_wp2
            go_ret
            exact ⟨rfl, hbd⟩
          case false =>
            rw [hq] at HC
            have HQ := Lib.hid hq
            rw [show cans k 20 = 0 from HC.out]
            clear hq
            go_wp2_with fail
            refine (kreq_any k _).mono ?_
            rintro e w3 ⟨rfl, hb3⟩
            rw [HQ.out]
            have hbd := HB.out.trans (hb3.mono HB.out.size)
            clear hb3
            go_wp2_with fail
            refine (live27_any _).mono ?_
            rintro e w5 ⟨rfl, hb5⟩
            replace hbd := hbd.trans (hb5.mono hbd.size)
            clear hb5
            go_wp2
            go_ret
            exact ⟨rfl, hbd⟩
        · have hcb := cans_bd k j
          have hst : cans k (j + 1) = if kans k (j : Int) then cans k j + 1 else cans k j := rfl
          obtain ⟨s, hs⟩ : ∃ s, s = cans k j := ⟨_, rfl⟩
          rw [← hs] at hst hcb ⊢
          have HST := Lib.hid hst
          clear hs hst
          cases hk : kans k (j : Int)
          case false =>
            have HK := Lib.hid hk
            clear hk
            go_wp2_with fail
            refine (kans_any k (j : Int) _).mono ?_
            rintro e w3 ⟨rfl, hb3⟩
            rw [HK.out]
            go_wp2
            go_roundw
            case rel => exact ⟨j + 1, by omega, by rw [Int.natCast_add]; rfl, by rw [HST.out, HK.out]; rfl, HB.out.trans (hb3.mono HB.out.size)⟩
            case measure => simp [intOf]; omega
          case true =>
            have HK := Lib.hid hk
            obtain ⟨hr, hi⟩ := kans_kind hk
            have HR := Lib.hid hr
            have HI := Lib.hid hi
            clear hk hr hi
            go_wp2_with fail
            refine (kans_any k (j : Int) _).mono ?_
            rintro e w3 ⟨rfl, hb3⟩
            rw [HK.out]
            have hbd := HB.out.trans (hb3.mono HB.out.size)
            clear hb3
            go_wp2_with fail
            refine (kreq_any (j : Int) _).mono ?_
            rintro e w4 ⟨rfl, hb4⟩
            rw [HR.out]
            replace hbd := hbd.trans (hb4.mono hbd.size)
            clear hb4
            go_wp2_with fail
            refine (kright_any (j : Int) _).mono ?_
            rintro e w5 ⟨rfl, rfl⟩
            rw [HI.out]
            go_wp2
            go_roundw
            case rel => exact ⟨j + 1, by omega, by rw [Int.natCast_add]; rfl, by rw [HST.out, HK.out]; rfl, hbd⟩
            case measure => simp [intOf]; omega
    · have HE1 : Hid ((a == (kof k).2.2) = false) := Lib.hid (beq_eq_false_iff_ne.2 h2)
      by_cases h3 : a = 14
      · have HKA : Hid (kans k a = true) := Lib.hid (decide_eq_true ⟨ha, .inr h3⟩)
        have HE2 : Hid ((a == 14) = true) := Lib.hid (beq_iff_eq.2 h3)
        clear ha h2 h3
        go_enter Try.func5, Try.ntmps5
        go_wp2_with fail
        refine (rkof_any k _).mono ?_
        rintro e w1 ⟨rfl, hb1⟩
        unfold kagg
        have hY := Blk.new w1 #[.string (kof k).1, .int .i64 (kof k).2.1, .int .i64 (kof k).2.2] 23
        have hb2 := hb1.trans ((below_one w1 (.cells #[.string (kof k).1, .int .i64 (kof k).2.1, .int .i64 (kof k).2.2] 23)).mono hb1.size)
        go_upto_region 2 with (fail)
        generalize w1.alloc (.cells #[.string (kof k).1, .int .i64 (kof k).2.1, .int .i64 (kof k).2.2] 23) = wE at *
        generalize w1.heap.size = bb at *
        have L : ∀ w', HkW wE w' → w'.cell? ⟨bb, 2, none⟩ = some (.int .i64 (kof k).2.2) := fun w' h => (hY.below h).c3.2.2
        have HB1 := Lib.hid hb2
        have hS : HkW wE wE.drew := below_one' _
        clear hY hb2 hb1
        refine Seq.wp_region_seq (HkW wE) (by kernel_rfl) (by kernel_rfl) hS ?_
        generalize wE.drew = wd at *
        repeat (first | (refine Seq.Seq.skip (by rfl) ?_; (try simp only [Act.put, List.setIfInBounds_toArray, List.set_cons_zero, List.set_cons_succ])) | (refine Seq.Seq.det ?_ (by rfl) (fun w hS => ?_) ?_; rotate_left; ((try dsimp only at hS); go_simp; (try rw [if_pos (by omega)]); with_reducible rfl); (try simp only [Act.put, List.setIfInBounds_toArray, List.set_cons_zero, List.set_cons_succ])))
        refine Seq.Seq.make (by rfl) (by rfl) (fun K Q' hK => ?_)
        go_simp
        go_at_call 17
        refine (kans_any k a _).mono ?_
        rintro e v1 ⟨rfl, hc1⟩
        rw [HKA.out]
        replace hS := Below.trans hS (hc1.mono (Below.size hS))
        clear hc1
        refine hK.out _ _ (hS) ?_
        clear hK K
        try simp only [Act.put, List.setIfInBounds_toArray, List.set_cons_zero, List.set_cons_succ]
        repeat (first | (refine Seq.Seq.skip (by rfl) ?_; (try simp only [Act.put, List.setIfInBounds_toArray, List.set_cons_zero, List.set_cons_succ])) | (refine Seq.Seq.det ?_ (by rfl) (fun w hS => ?_) ?_; rotate_left; ((try dsimp only at hS); go_simp; (try rw [if_pos (by omega)]); with_reducible rfl); (try simp only [Act.put, List.setIfInBounds_toArray, List.set_cons_zero, List.set_cons_succ])))
        rw [HD.out]
        repeat (first | (refine Seq.Seq.skip (by rfl) ?_; (try simp only [Act.put, List.setIfInBounds_toArray, List.set_cons_zero, List.set_cons_succ])) | (refine Seq.Seq.det ?_ (by rfl) (fun w hS => ?_) ?_; rotate_left; ((try dsimp only at hS); go_simp; (try rw [if_pos (by omega)]); with_reducible rfl); (try simp only [Act.put, List.setIfInBounds_toArray, List.set_cons_zero, List.set_cons_succ])))
        try rw [HE1.out]
        repeat (first | (refine Seq.Seq.skip (by rfl) ?_; (try simp only [Act.put, List.setIfInBounds_toArray, List.set_cons_zero, List.set_cons_succ])) | (refine Seq.Seq.det ?_ (by rfl) (fun w hS => ?_) ?_; rotate_left; ((try dsimp only at hS); go_simp; (try rw [if_pos (by omega)]); with_reducible rfl); (try simp only [Act.put, List.setIfInBounds_toArray, List.set_cons_zero, List.set_cons_succ])))
        try rw [HE2.out]
        repeat (first | (refine Seq.Seq.skip (by rfl) ?_; (try simp only [Act.put, List.setIfInBounds_toArray, List.set_cons_zero, List.set_cons_succ])) | (refine Seq.Seq.det ?_ (by rfl) (fun w hS => ?_) ?_; rotate_left; ((try dsimp only at hS); go_simp; (try rw [if_pos (by omega)]); with_reducible rfl); (try simp only [Act.put, List.setIfInBounds_toArray, List.set_cons_zero, List.set_cons_succ])))
        refine Seq.Seq.nil ?_
        have hbd : Below wE.heap.size wE v1 := hS
        have HB2 := Lib.hid (HB1.out.trans (hbd.mono HB1.out.size))
        clear hS L hbd HB1
        go_wp2
        try rw [show (!true) = false from rfl]
        go_loopw [6, 7] (fun m i wr => ∃ j : Nat, j ≤ 20 ∧ i = .int .i64 (j : Int) ∧ m = .int .i64 (cans k j) ∧ Below w.heap.size w wr) (fun _ i _ => 30 - (intOf i).toNat)
        case atStart => exact ⟨0, by omega, rfl, rfl, HB2.out⟩
        case round =>
          obtain ⟨j, hj, rfl, rfl, hb⟩ := hrel
          have HB := Lib.hid hb
          clear hb
          by_cases h20 : j = 20
          · subst h20
            have HC := Lib.hid (cans_all k)
            cases hq : kreq k
            case true =>
              rw [hq] at HC
              have HQ := Lib.hid hq
              have H14 := Lib.hid (kans_14 hq)
              rw [show cans k 20 = 2 from HC.out]
              clear hq
              go_wp2_with fail
              refine (kreq_any k _).mono ?_
              rintro e w3 ⟨rfl, hb3⟩
              rw [HQ.out]
              have hbd := HB.out.trans (hb3.mono HB.out.size)
              clear hb3
              go_wp2_with fail
              refine (kans_any k 14 _).mono ?_
              rintro e w4 ⟨rfl, hb4⟩
              rw [H14.out]
              replace hbd := hbd.trans (hb4.mono hbd.size)
              clear hb4
              go_wp2_with fail
              refine (live27_any _).mono ?_
              rintro e w5 ⟨rfl, hb5⟩
              replace hbd := hbd.trans (hb5.mono hbd.size)
              clear hb5
              go_wp2
              go_ret
              exact ⟨rfl, hbd⟩
            case false =>
              rw [hq] at HC
              have HQ := Lib.hid hq
              rw [show cans k 20 = 0 from HC.out]
              clear hq
              go_wp2_with fail
              refine (kreq_any k _).mono ?_
              rintro e w3 ⟨rfl, hb3⟩
              rw [HQ.out]
              have hbd := HB.out.trans (hb3.mono HB.out.size)
              clear hb3
              go_wp2_with fail
              refine (live27_any _).mono ?_
              rintro e w5 ⟨rfl, hb5⟩
              replace hbd := hbd.trans (hb5.mono hbd.size)
              clear hb5
              go_wp2
              go_ret
              exact ⟨rfl, hbd⟩
          · have hcb := cans_bd k j
            have hst : cans k (j + 1) = if kans k (j : Int) then cans k j + 1 else cans k j := rfl
            obtain ⟨s, hs⟩ : ∃ s, s = cans k j := ⟨_, rfl⟩
            rw [← hs] at hst hcb ⊢
            have HST := Lib.hid hst
            clear hs hst
            cases hk : kans k (j : Int)
            case false =>
              have HK := Lib.hid hk
              clear hk
              go_wp2_with fail
              refine (kans_any k (j : Int) _).mono ?_
              rintro e w3 ⟨rfl, hb3⟩
              rw [HK.out]
              go_wp2
              go_roundw
              case rel => exact ⟨j + 1, by omega, by rw [Int.natCast_add]; rfl, by rw [HST.out, HK.out]; rfl, HB.out.trans (hb3.mono HB.out.size)⟩
              case measure => simp [intOf]; omega
            case true =>
              have HK := Lib.hid hk
              obtain ⟨hr, hi⟩ := kans_kind hk
              have HR := Lib.hid hr
              have HI := Lib.hid hi
              clear hk hr hi
              go_wp2_with fail
              refine (kans_any k (j : Int) _).mono ?_
              rintro e w3 ⟨rfl, hb3⟩
              rw [HK.out]
              have hbd := HB.out.trans (hb3.mono HB.out.size)
              clear hb3
              go_wp2_with fail
              refine (kreq_any (j : Int) _).mono ?_
              rintro e w4 ⟨rfl, hb4⟩
              rw [HR.out]
              replace hbd := hbd.trans (hb4.mono hbd.size)
              clear hb4
              go_wp2_with fail
              refine (kright_any (j : Int) _).mono ?_
              rintro e w5 ⟨rfl, rfl⟩
              rw [HI.out]
              go_wp2
              go_roundw
              case rel => exact ⟨j + 1, by omega, by rw [Int.natCast_add]; rfl, by rw [HST.out, HK.out]; rfl, hbd⟩
              case measure => simp [intOf]; omega
      · have HKA : Hid (kans k a = false) := Lib.hid (decide_eq_false (fun h4 => h4.2.elim h2 h3))
        have HE2 : Hid ((a == 14) = false) := Lib.hid (beq_eq_false_iff_ne.2 h3)
        clear ha h2 h3
        go_enter Try.func5, Try.ntmps5
        go_wp2_with fail
        refine (rkof_any k _).mono ?_
        rintro e w1 ⟨rfl, hb1⟩
        unfold kagg
        have hY := Blk.new w1 #[.string (kof k).1, .int .i64 (kof k).2.1, .int .i64 (kof k).2.2] 23
        have hb2 := hb1.trans ((below_one w1 (.cells #[.string (kof k).1, .int .i64 (kof k).2.1, .int .i64 (kof k).2.2] 23)).mono hb1.size)
        go_upto_region 2 with (fail)
        generalize w1.alloc (.cells #[.string (kof k).1, .int .i64 (kof k).2.1, .int .i64 (kof k).2.2] 23) = wE at *
        generalize w1.heap.size = bb at *
        have L : ∀ w', HkW wE w' → w'.cell? ⟨bb, 2, none⟩ = some (.int .i64 (kof k).2.2) := fun w' h => (hY.below h).c3.2.2
        have HB1 := Lib.hid hb2
        have hS : HkW wE wE.drew := below_one' _
        clear hY hb2 hb1
        refine Seq.wp_region_seq (HkW wE) (by kernel_rfl) (by kernel_rfl) hS ?_
        generalize wE.drew = wd at *
        repeat (first | (refine Seq.Seq.skip (by rfl) ?_; (try simp only [Act.put, List.setIfInBounds_toArray, List.set_cons_zero, List.set_cons_succ])) | (refine Seq.Seq.det ?_ (by rfl) (fun w hS => ?_) ?_; rotate_left; ((try dsimp only at hS); go_simp; (try rw [if_pos (by omega)]); with_reducible rfl); (try simp only [Act.put, List.setIfInBounds_toArray, List.set_cons_zero, List.set_cons_succ])))
        refine Seq.Seq.make (by rfl) (by rfl) (fun K Q' hK => ?_)
        go_simp
        go_at_call 17
        refine (kans_any k a _).mono ?_
        rintro e v1 ⟨rfl, hc1⟩
        rw [HKA.out]
        replace hS := Below.trans hS (hc1.mono (Below.size hS))
        clear hc1
        refine hK.out _ _ (hS) ?_
        clear hK K
        try simp only [Act.put, List.setIfInBounds_toArray, List.set_cons_zero, List.set_cons_succ]
        repeat (first | (refine Seq.Seq.skip (by rfl) ?_; (try simp only [Act.put, List.setIfInBounds_toArray, List.set_cons_zero, List.set_cons_succ])) | (refine Seq.Seq.det ?_ (by rfl) (fun w hS => ?_) ?_; rotate_left; ((try dsimp only at hS); go_simp; (try rw [if_pos (by omega)]); with_reducible rfl); (try simp only [Act.put, List.setIfInBounds_toArray, List.set_cons_zero, List.set_cons_succ])))
        rw [HD.out]
        repeat (first | (refine Seq.Seq.skip (by rfl) ?_; (try simp only [Act.put, List.setIfInBounds_toArray, List.set_cons_zero, List.set_cons_succ])) | (refine Seq.Seq.det ?_ (by rfl) (fun w hS => ?_) ?_; rotate_left; ((try dsimp only at hS); go_simp; (try rw [if_pos (by omega)]); with_reducible rfl); (try simp only [Act.put, List.setIfInBounds_toArray, List.set_cons_zero, List.set_cons_succ])))
        try rw [HE1.out]
        repeat (first | (refine Seq.Seq.skip (by rfl) ?_; (try simp only [Act.put, List.setIfInBounds_toArray, List.set_cons_zero, List.set_cons_succ])) | (refine Seq.Seq.det ?_ (by rfl) (fun w hS => ?_) ?_; rotate_left; ((try dsimp only at hS); go_simp; (try rw [if_pos (by omega)]); with_reducible rfl); (try simp only [Act.put, List.setIfInBounds_toArray, List.set_cons_zero, List.set_cons_succ])))
        try rw [HE2.out]
        repeat (first | (refine Seq.Seq.skip (by rfl) ?_; (try simp only [Act.put, List.setIfInBounds_toArray, List.set_cons_zero, List.set_cons_succ])) | (refine Seq.Seq.det ?_ (by rfl) (fun w hS => ?_) ?_; rotate_left; ((try dsimp only at hS); go_simp; (try rw [if_pos (by omega)]); with_reducible rfl); (try simp only [Act.put, List.setIfInBounds_toArray, List.set_cons_zero, List.set_cons_succ])))
        refine Seq.Seq.nil ?_
        have hbd : Below wE.heap.size wE v1 := hS
        have HB2 := Lib.hid (HB1.out.trans (hbd.mono HB1.out.size))
        clear hS L hbd HB1
        go_wp2
        try rw [show (!true) = false from rfl]
        go_loopw [6, 7] (fun m i wr => ∃ j : Nat, j ≤ 20 ∧ i = .int .i64 (j : Int) ∧ m = .int .i64 (cans k j) ∧ Below w.heap.size w wr) (fun _ i _ => 30 - (intOf i).toNat)
        case atStart => exact ⟨0, by omega, rfl, rfl, HB2.out⟩
        case round =>
          obtain ⟨j, hj, rfl, rfl, hb⟩ := hrel
          have HB := Lib.hid hb
          clear hb
          by_cases h20 : j = 20
          · subst h20
            have HC := Lib.hid (cans_all k)
            cases hq : kreq k
            case true =>
              rw [hq] at HC
              have HQ := Lib.hid hq
              have H14 := Lib.hid (kans_14 hq)
              rw [show cans k 20 = 2 from HC.out]
              clear hq
              go_wp2_with fail
              refine (kreq_any k _).mono ?_
              rintro e w3 ⟨rfl, hb3⟩
              rw [HQ.out]
              have hbd := HB.out.trans (hb3.mono HB.out.size)
              clear hb3
              go_wp2_with fail
              refine (kans_any k 14 _).mono ?_
              rintro e w4 ⟨rfl, hb4⟩
              rw [H14.out]
              replace hbd := hbd.trans (hb4.mono hbd.size)
              clear hb4
              go_wp2_with fail
              refine (live27_any _).mono ?_
              rintro e w5 ⟨rfl, hb5⟩
              replace hbd := hbd.trans (hb5.mono hbd.size)
              clear hb5
              go_wp2
              go_ret
              exact ⟨rfl, hbd⟩
            case false =>
              rw [hq] at HC
              have HQ := Lib.hid hq
              rw [show cans k 20 = 0 from HC.out]
              clear hq
              go_wp2_with fail
              refine (kreq_any k _).mono ?_
              rintro e w3 ⟨rfl, hb3⟩
              rw [HQ.out]
              have hbd := HB.out.trans (hb3.mono HB.out.size)
              clear hb3
              go_wp2_with fail
              refine (live27_any _).mono ?_
              rintro e w5 ⟨rfl, hb5⟩
              replace hbd := hbd.trans (hb5.mono hbd.size)
              clear hb5
              go_wp2
              go_ret
              exact ⟨rfl, hbd⟩
          · have hcb := cans_bd k j
            have hst : cans k (j + 1) = if kans k (j : Int) then cans k j + 1 else cans k j := rfl
            obtain ⟨s, hs⟩ : ∃ s, s = cans k j := ⟨_, rfl⟩
            rw [← hs] at hst hcb ⊢
            have HST := Lib.hid hst
            clear hs hst
            cases hk : kans k (j : Int)
            case false =>
              have HK := Lib.hid hk
              clear hk
              go_wp2_with fail
              refine (kans_any k (j : Int) _).mono ?_
              rintro e w3 ⟨rfl, hb3⟩
              rw [HK.out]
              go_wp2
              go_roundw
              case rel => exact ⟨j + 1, by omega, by rw [Int.natCast_add]; rfl, by rw [HST.out, HK.out]; rfl, HB.out.trans (hb3.mono HB.out.size)⟩
              case measure => simp [intOf]; omega
            case true =>
              have HK := Lib.hid hk
              obtain ⟨hr, hi⟩ := kans_kind hk
              have HR := Lib.hid hr
              have HI := Lib.hid hi
              clear hk hr hi
              go_wp2_with fail
              refine (kans_any k (j : Int) _).mono ?_
              rintro e w3 ⟨rfl, hb3⟩
              rw [HK.out]
              have hbd := HB.out.trans (hb3.mono HB.out.size)
              clear hb3
              go_wp2_with fail
              refine (kreq_any (j : Int) _).mono ?_
              rintro e w4 ⟨rfl, hb4⟩
              rw [HR.out]
              replace hbd := hbd.trans (hb4.mono hbd.size)
              clear hb4
              go_wp2_with fail
              refine (kright_any (j : Int) _).mono ?_
              rintro e w5 ⟨rfl, rfl⟩
              rw [HI.out]
              go_wp2
              go_roundw
              case rel => exact ⟨j + 1, by omega, by rw [Int.natCast_add]; rfl, by rw [HST.out, HK.out]; rfl, hbd⟩
              case measure => simp [intOf]; omega


set_option maxRecDepth 100000 in
theorem lifted (os : Os) (started : os.Started) (H : Type) (enc : TypeId × Value → H) :
    ReturnsInHanded {} Try.checked os 5 .any (Rows.kindAnswersSpec.pre6 enc Try.prog Try.f5 Rows.kindAnswersRow.domain false) (Rows.kindAnswersSpec.post enc Try.prog Try.f5 false true false false) := by
  refine returnsInHanded_of_change (C := Try.checked) own started (by kernel_rfl) Try.func5
    (ChangeSpec.witness6 (enc := enc) (C := Try.checked) false ⟨#[], #[.int .i64 1, .int .i64 1], []⟩ 8 (by kernel_rfl) (by kernel_rfl) (by kernel_rfl) (by kernel_rfl)) ?_
  intro W base args ds gs before hval0 hW hcnd _
  have hval : ∀ (j : Nat) t v, Try.f5.params[j]? = some t → args[j]? = some v → Value.okWide Try.prog W .any base t v := hval0
  have hW' := hW
  obtain ⟨p, q, hA0, hV, rfl, hfz, hnd⟩ := hW
  have hA : DataW.TrodAll enc Try.prog W 0 (fun _ => true) true Try.f5.params.toList args.toList ds p := hA0
  rw [Try.params5] at hA hval
  obtain ⟨v0, vs0, d0, ds0, p0, q0, hargs, rfl, rfl, h0, r0⟩ := trodAll_cons hA
  obtain ⟨v1, vs1, d1, ds1, p1, q1, rfl, rfl, rfl, h1, r1⟩ := trodAll_cons r0
  obtain ⟨rfl, rfl, rfl⟩ := trodAll_nil r1
  obtain rfl : args = #[v0, v1] := by cases args; simp_all
  obtain ⟨rfl, rfl⟩ := trodVars_none hV
  have lt0 : ∀ x ∈ p0, x.block < W.heap.size := by obtain ⟨m, hm⟩ := h0; exact DataW.trod_lt m _ _ _ hm
  have lt1 : ∀ x ∈ p1, x.block < W.heap.size := by obtain ⟨m, hm⟩ := h1; exact DataW.trod_lt m _ _ _ hm
  clear hA0 hval0
  refine (walk enc W base v0 d0 p0 (hval 0 3 v0 rfl rfl) h0 v1 d1 p1 (hval 1 3 v1 rfl rfl) h1).mono fun e W' ⟨he, bel⟩ => ?_
  subst he
  exact ⟨_, rfl, _, _, _, [], _, [], hW', trodAll_mk1 (shut_bool Try.underlying4 _), (trodAll_cons_mk (Below.trod laidOut (by kernel_rfl) (of_decide_eq_true (by kernel_rfl)) h0 bel lt0) (trodAll_cons_mk (Below.trod laidOut (by kernel_rfl) (of_decide_eq_true (by kernel_rfl)) h1 bel lt1) trodAll_mk0)), rfl, bel.frame _, fun h => by cases h⟩

theorem over : Rows.kindAnswersRow.holds Try.pinned (OpenSpec.ofChange Rows.kindAnswersSpec) :=
  OpenClaim.holds_of_wide 5 Try.f5 rfl rfl rfl rfl rfl rfl rfl ⟨rfl, rfl, rfl, rfl, rfl⟩ rfl rfl rfl rfl rfl (by kernel_rfl) Try.func5 (by kernel_rfl)
    (of_decide_eq_true (by kernel_rfl)) (by unfold Func.isWrapper; first | (rw [if_pos (by decide +kernel)]; kernel_rfl) | (rw [if_neg (by decide +kernel)]; exact ⟨rfl, rfl⟩))
    (fun os started H enc _ => lifted os started H enc)

/-- THE STATEMENT. -/
theorem proved : Rows.KindAnswersSaid := over
#print axioms proved
end Go.Proofs.Ytepbbahalmjflaa.kindAnswers
