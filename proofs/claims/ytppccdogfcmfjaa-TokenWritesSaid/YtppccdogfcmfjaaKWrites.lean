/- TokenWrites: called with any two rows of tokens, the law returns true; no condition. -/
import Derived.Test.YtppccdogfcmfjaaRows
import Derived.Test.YtppccdogfcmfjaaTokL
import Derived.Test.YtppccdogfcmfjaaTokI
import Derived.Test.YtppccdogfcmfjaaTokE
import Derived.Test.YtppccdogfcmfjaaTokC
import Derived.Test.YtppccdogfcmfjaaK1
import Derived.ProofKit
import Derived.OpenShut
import Derived.ShutString
import Derived.ChangeOld
namespace Go.Proofs.Ytppccdogfcmfjaa.tokenWrites
open Go.ChangeShapes Go.WideShapes Go.ChangeAt Go.RowKit
open Go.ChangeMaps (open_string shut_string)
set_option linter.unusedVariables false

theorem own : ownKnob Try.prog.godebug = none := by kernel_rfl
theorem laidOut : laidOutB Try.prog = true := by kernel_rfl
open Cur Mem



def TS (b q : Nat) (Ar : Option Addr) (Lr Cr : Nat) (t : Tk) (w : World) : Prop := TkC w b q Ar Lr Cr t
theorem TS.below {b q : Nat} {Ar : Option Addr} {Lr Cr : Nat} {t : Tk} {w w' : World} (h : TS b q Ar Lr Cr t w) (hb : Below w.heap.size w w') : TS b q Ar Lr Cr t w' := TkC.below h hb (Nat.le_refl _)
theorem one_at {w : World} {b o k Lr Cr : Nat} {Ar : Option Addr} {t : Tk} (h : TkC w b (o + k * 3) Ar Lr Cr t) (hn : Ar = none → Cr = 0) (hl : Lr ≤ Cr) : TksL w (some ⟨b, o + k * 3, none⟩) 1 [t] :=
  ⟨rfl, fun i hi => by
    obtain rfl : i = 0 := by omega
    exact ⟨b, o + k * 3, Ar, Lr, Cr, rfl, by simpa using h, hn, hl⟩⟩
theorem tbs_one (t : Tk) : tbs [t] 1 = tby t := by
  have := tbs_tcat [t]
  rw [tcat_one] at this
  exact this

set_option maxRecDepth 100000 in
set_option maxHeartbeats 8000000 in
theorem walk {H : Type} (enc : TypeId × Value → H) (w : World) (base : Nat) (v0 : Value) (d0 : DataW H) (p0 : List MemPlace) (g0 : Value.okWide Try.prog w .any base 22 v0) (h0 : DataW.Trod enc Try.prog w 0 (fun _ => true) true 22 v0 d0 p0) (v1 : Value) (d1 : DataW H) (p1 : List MemPlace) (g1 : Value.okWide Try.prog w .any base 22 v1) (h1 : DataW.Trod enc Try.prog w 0 (fun _ => true) true 22 v1 d1 p1) :
    Calls Try.prog 3 #[v0, v1] w fun e w' => e = .returned (.bool true) ∧ Below w.heap.size w w' := by
  obtain ⟨A, n, m, T, rfl, hnm, hT, hok, hA⟩ := open_tokens g0 h0
  obtain ⟨A', n', m', U, rfl, hnm', hU, hok', hA'⟩ := open_tokens g1 h1
  clear g0 h0 g1 h1
  have hbd := Below.refl w.heap.size w
  go_enter Try.func3, Try.ntmps3
  go_wp2_with fail
  refine (tlong_any _ _ _ _ _ hT).mono ?_
  rintro e w1 ⟨rfl, rfl⟩
  cases hl : tlong T
  rotate_left
  · clear hl
    go_wp2_with fail
    refine (live11_any _).mono ?_
    rintro e w15 ⟨rfl, hb15⟩
    go_wp2
    go_ret
    exact ⟨rfl, hbd.trans (hb15.mono hbd.size)⟩
  go_wp2_with fail
  refine (tlong_any _ _ _ _ _ hU).mono ?_
  rintro e w1 ⟨rfl, rfl⟩
  cases hl' : tlong U
  rotate_left
  · clear hl hl'
    go_wp2_with fail
    refine (live11_any _).mono ?_
    rintro e w15 ⟨rfl, hb15⟩
    go_wp2
    go_ret
    exact ⟨rfl, hbd.trans (hb15.mono hbd.size)⟩
  obtain ⟨hl1, hl2⟩ := tlong_no hl
  obtain ⟨hl1', hl2'⟩ := tlong_no hl'
  have hTl := hT.1
  have hUl := hU.1
  have hby := tbs_le hl2 n (by omega)
  have hn100 : n ≤ 100 := by omega
  have hn100' : n' ≤ 100 := by omega
  have HBY : Hid ((tbs T n).length ≤ 40000) := Lib.hid (by omega)
  have HLIT := Lib.hid hl2
  have HOK := Lib.hid hok
  have HOK' := Lib.hid hok'
  have HA := Lib.hid hA
  have HTL := Lib.hid hTl
  have HT := Lib.hid hT
  have HU := Lib.hid hU
  clear hl hl' hok hok' hA hA' hl2 hl2' hl1 hl1' hby hTl hUl hT hU
  go_wp2
  go_loopw [5, 6, 7] (fun g t i wr => ∃ k : Nat, k ≤ n ∧ i = .int .i64 k ∧ g = .bool (tall T k) ∧ t = .int .i64 (ttot T k) ∧ Below w.heap.size w wr) (fun _ _ i _ => n - (intOf i).toNat)
  case atStart => exact ⟨0, by omega, rfl, rfl, rfl, Below.refl _ _⟩
  case round =>
    clear hbd
    obtain ⟨k, hk, rfl, rfl, rfl, hbd⟩ := hrel
    by_cases hlt : k < n
    · obtain ⟨b, o, Ar, Lr, Cr, rfl, hC, hnil, hle⟩ := (HT.out.below hbd).2 k hlt
      have hLr := HLIT.out k
      rw [hC.2.2.2.1] at hLr
      have HNX : Hid (ttot T (k + 1) = ttot T k + tsz Lr (T.getD k tk0).2.1 (T.getD k tk0).2.2) := Lib.hid (by rw [← hC.2.2.2.1]; rfl)
      have HNG : Hid (tall T (k + 1) = (tall T k && tright (T.getD k tk0))) := Lib.hid rfl
      have h1 := ttot_bd T k
      have h2 := tsz_bd Lr (T.getD k tk0).2.1 (T.getD k tk0).2.2
      have HB2 : Hid (0 ≤ ttot T k + tsz Lr (T.getD k tk0).2.1 (T.getD k tk0).2.2 ∧ ttot T k + tsz Lr (T.getD k tk0).2.1 (T.getD k tk0).2.2 ≤ 200000000) := Lib.hid (by omega)
      have HNIL := Lib.hid hnil
      clear h1 h2 hnil
      generalize T.getD k tk0 = t at *
      go_wp2_with fail
      have L : ∀ w', TS b (o + k * 3) Ar Lr Cr t w' → w'.cell? ⟨b, o + k * 3, none⟩ = some (.slice Ar Lr Cr) ∧ w'.cell? ⟨b, o + k * 3 + 1, none⟩ = some (.int .i64 t.2.1) ∧ w'.cell? ⟨b, o + k * 3 + 2, none⟩ = some (.int .i64 t.2.2) := fun w' h => ⟨h.1, h.2.1, h.2.2.1⟩
      have hS : TS b (o + k * 3) Ar Lr Cr t wr.drew := hC
      have hbd1 := hbd.trans ((below_one' wr).mono hbd.size)
      have hkn : (k : Int) < n := by omega
      clear hbd hC
      refine Seq.wp_region_seq (TS b (o + k * 3) Ar Lr Cr t) (by kernel_rfl) (by kernel_rfl) hS ?_
      repeat (first | (refine Seq.Seq.skip (by rfl) ?_; (try simp only [Act.put, List.setIfInBounds_toArray, List.set_cons_zero, List.set_cons_succ])) | (refine Seq.Seq.det ?_ (by rfl) (fun w hS => ?_) ?_; rotate_left; ((try dsimp only at hS); go_simp; (try rw [if_pos (by omega)]); with_reducible rfl); (try simp only [Act.put, List.setIfInBounds_toArray, List.set_cons_zero, List.set_cons_succ])))
      refine Seq.Seq.make (by rfl) (by rfl) (fun K Q' hK => ?_)
      go_simp
      go_at_call 9
      refine (tright_any _ _ _ _ _ _).mono ?_
      rintro e w11 ⟨rfl, hb11⟩
      replace hbd1 := hbd1.trans (hb11.mono hbd1.size)
      replace hS := hS.below hb11
      refine hK.out _ _ (hS) ?_
      clear hK K
      try simp only [Act.put, List.setIfInBounds_toArray, List.set_cons_zero, List.set_cons_succ]
      clear hb11
      repeat (first | (refine Seq.Seq.skip (by rfl) ?_; (try simp only [Act.put, List.setIfInBounds_toArray, List.set_cons_zero, List.set_cons_succ])) | (refine Seq.Seq.det ?_ (by rfl) (fun w hS => ?_) ?_; rotate_left; ((try dsimp only at hS); go_simp; (try rw [if_pos (by omega)]); with_reducible rfl); (try simp only [Act.put, List.setIfInBounds_toArray, List.set_cons_zero, List.set_cons_succ])))
      refine Seq.Seq.make (by rfl) (by rfl) (fun K Q' hK => ?_)
      go_simp
      go_at_call 10
      refine (rtright_any _ _ _ _ _ _).mono ?_
      rintro e w11 ⟨rfl, hb11⟩
      replace hbd1 := hbd1.trans (hb11.mono hbd1.size)
      replace hS := hS.below hb11
      refine hK.out _ _ (hS) ?_
      clear hK K
      try simp only [Act.put, List.setIfInBounds_toArray, List.set_cons_zero, List.set_cons_succ]
      clear hb11
      obtain ⟨rt, hrt⟩ : ∃ rt, rt = (trun Lr t.2.1 t.2.2 || tcpy Lr t.2.1 t.2.2) := ⟨_, rfl⟩
      rw [← hrt]
      have HRT := Lib.hid hrt
      clear hrt
      have e0 : (rt != rt) = false := by cases rt <;> rfl
      repeat (first | (refine Seq.Seq.skip (by rfl) ?_; (try simp only [Act.put, List.setIfInBounds_toArray, List.set_cons_zero, List.set_cons_succ])) | (refine Seq.Seq.det ?_ (by rfl) (fun w hS => ?_) ?_; rotate_left; ((try dsimp only at hS); go_simp; (try rw [if_pos (by omega)]); with_reducible rfl); (try simp only [Act.put, List.setIfInBounds_toArray, List.set_cons_zero, List.set_cons_succ])))
      refine Seq.Seq.make (by rfl) (by rfl) (fun K Q' hK => ?_)
      go_simp
      go_at_call 11
      refine (tlen_any _ _ _ _ _ _).mono ?_
      rintro e w11 ⟨rfl, hb11⟩
      replace hbd1 := hbd1.trans (hb11.mono hbd1.size)
      replace hS := hS.below hb11
      refine hK.out _ _ (hS) ?_
      clear hK K
      try simp only [Act.put, List.setIfInBounds_toArray, List.set_cons_zero, List.set_cons_succ]
      clear hb11
      repeat (first | (refine Seq.Seq.skip (by rfl) ?_; (try simp only [Act.put, List.setIfInBounds_toArray, List.set_cons_zero, List.set_cons_succ])) | (refine Seq.Seq.det ?_ (by rfl) (fun w hS => ?_) ?_; rotate_left; ((try dsimp only at hS); go_simp; (try rw [if_pos (by omega)]); with_reducible rfl); (try simp only [Act.put, List.setIfInBounds_toArray, List.set_cons_zero, List.set_cons_succ])))
      refine Seq.Seq.make (by rfl) (by rfl) (fun K Q' hK => ?_)
      go_simp
      go_at_call 12
      refine (rtlen_any _ _ _ _ _ _).mono ?_
      rintro e w11 ⟨rfl, hb11⟩
      replace hbd1 := hbd1.trans (hb11.mono hbd1.size)
      replace hS := hS.below hb11
      refine hK.out _ _ (hS) ?_
      clear hK K
      try simp only [Act.put, List.setIfInBounds_toArray, List.set_cons_zero, List.set_cons_succ]
      clear hb11
      obtain ⟨sz, hsz⟩ : ∃ sz, sz = tsz Lr t.2.1 t.2.2 := ⟨_, rfl⟩
      rw [← hsz]
      have HSZ := Lib.hid hsz
      clear hsz
      have e1 : (sz != sz) = false := by simp
      repeat (first | (refine Seq.Seq.skip (by rfl) ?_; (try simp only [Act.put, List.setIfInBounds_toArray, List.set_cons_zero, List.set_cons_succ])) | (refine Seq.Seq.det ?_ (by rfl) (fun w hS => ?_) ?_; rotate_left; ((try dsimp only at hS); go_simp; (try rw [if_pos (by omega)]); with_reducible rfl); (try simp only [Act.put, List.setIfInBounds_toArray, List.set_cons_zero, List.set_cons_succ])))
      refine Seq.Seq.nil ?_
      clear e0 e1 L
      replace hS : TkC w11 b (o + k * 3) Ar Lr Cr t := hS
      have hlits : 0 < Lr → ∀ a, Ar = some a → a.block < w11.heap.size := fun h0 => hS.2.2.2.lt h0
      have HLITS := Lib.hid hlits
      clear hlits
      go_wp2_with fail
      refine (wnew_any 400 _ (by omega)).mono ?_
      rintro e w12 ⟨wb, rfl, hwb, hb12, hw12⟩
      rw [if_neg (by omega)] at hw12
      have hS2 := hS.below hb12 (Nat.le_refl _)
      obtain ⟨c0, c1, c2, hlit⟩ := hS2
      clear hwb
      go_wp2_with fail
      refine (tput_any Ar Lr Cr t hw12 hlit HNIL.out (fun h0 a ha => hw12.off_lt (HLITS.out h0 a ha)) (by simp; omega) hb12.size).mono ?_
      rintro e w13 ⟨r13, rfl, hk13, hg13, hw13⟩
      have hb13 := hw12.belowOf hb12 (Nat.le_refl _) hk13 (Nat.le_refl _)
      clear hk13 hg13 hw12 hb12 c0 c1 c2 hlit HLITS
      replace hbd1 := hbd1.trans (hb13.mono hbd1.size)
      replace hS := hS.below hb13 (Nat.le_refl _)
      have hTR : tright t = rt := by unfold tright; rw [hS.2.2.2.1]; exact HRT.out.symm
      clear hb13
      cases rt
      · have hput : tput t [] 400 0 = ([], 3) := by unfold tput; rw [hTR]; rfl
        rw [hput] at hw13
        have HTR := Lib.hid hTR
        clear hput hTR
        go_wp2_with fail
        refine (wbytes_bad hw13 rfl).mono ?_
        rintro e w14 ⟨rfl, rfl⟩
        clear hw13
        have hSc := hS
        obtain ⟨c0, c1, c2, _⟩ := hSc
        go_wp2_with fail
        refine (rtright_any _ _ _ _ _ _).mono ?_
        rintro e w14 ⟨rfl, hb14⟩
        rw [← HRT.out]
        replace hbd1 := hbd1.trans (hb14.mono hbd1.size)
        replace hS := hS.below hb14 (Nat.le_refl _)
        clear hb14 c0 c1 c2
        cases hg : tall T k
        · have HG := Lib.hid hg
          clear hg
          have e3 : IntKind.i64.wrap (ttot T k + sz) = ttot T k + sz := IntWalk.i64_in _ (by rw [HSZ.out]; have := HB2.out; omega)
          have hSc := hS
          obtain ⟨c0, c1, c2, _⟩ := hSc
          go_wp2_with fail
          refine (rtlen_any _ _ _ _ _ _).mono ?_
          rintro e w14 ⟨rfl, hb14⟩
          rw [← HSZ.out]
          replace hbd1 := hbd1.trans (hb14.mono hbd1.size)
          clear hb14 c0 c1 c2 hS
          go_wp2
          go_roundw
          case rel => exact ⟨k + 1, hlt, by go_num, by rw [HNG.out, HG.out, HTR.out]; rfl, by rw [HNX.out, HSZ.out], hbd1⟩
          case measure => simp [intOf]; omega
        · have HG := Lib.hid hg
          clear hg
          have hSc := hS
          obtain ⟨c0, c1, c2, _⟩ := hSc
          go_wp2_with fail
          refine (rtright_any _ _ _ _ _ _).mono ?_
          rintro e w14 ⟨rfl, hb14⟩
          rw [← HRT.out]
          replace hbd1 := hbd1.trans (hb14.mono hbd1.size)
          replace hS := hS.below hb14 (Nat.le_refl _)
          clear hb14 c0 c1 c2
          have e3 : IntKind.i64.wrap (ttot T k + sz) = ttot T k + sz := IntWalk.i64_in _ (by rw [HSZ.out]; have := HB2.out; omega)
          have hSc := hS
          obtain ⟨c0, c1, c2, _⟩ := hSc
          go_wp2_with fail
          refine (rtlen_any _ _ _ _ _ _).mono ?_
          rintro e w14 ⟨rfl, hb14⟩
          rw [← HSZ.out]
          replace hbd1 := hbd1.trans (hb14.mono hbd1.size)
          clear hb14 c0 c1 c2 hS
          go_wp2
          go_roundw
          case rel => exact ⟨k + 1, hlt, by go_num, by rw [HNG.out, HG.out, HTR.out]; rfl, by rw [HNX.out, HSZ.out], hbd1⟩
          case measure => simp [intOf]; omega
      · have hput : tput t [] 400 0 = (tby t, 0) := by
          have := tby_le (t := t)
          unfold tput
          rw [if_pos hTR, puts_fits (by rw [titems_flat, hS.2.2.2.1] at *; simp; omega), titems_flat]
          rfl
        rw [hput] at hw13
        have hbl : (tby t).length ≤ 400 := by have := tby_le (t := t); rw [hS.2.2.2.1] at this; omega
        have HTR := Lib.hid hTR
        have HBL := Lib.hid hbl
        clear hput hTR hbl
        go_wp2_with fail
        refine (wbytes_good hw13 (by have := HBL.out; omega)).mono ?_
        rintro e w14 ⟨g, rfl, hg, hb14, hblk⟩
        have hbs := Bs.of_block hblk
        replace hbd1 := hbd1.trans (hb14.mono hbd1.size)
        replace hS := hS.below hb14 (Nat.le_refl _)
        clear hw13 hg hb14 hblk
        have hSc := hS
        obtain ⟨c0, c1, c2, _⟩ := hSc
        go_wp2_with fail
        refine (rtright_any _ _ _ _ _ _).mono ?_
        rintro e w14 ⟨rfl, hb14⟩
        rw [← HRT.out]
        replace hbd1 := hbd1.trans (hb14.mono hbd1.size)
        replace hS := hS.below hb14 (Nat.le_refl _)
        replace hbs := hbs.below hb14
        clear hb14 c0 c1 c2
        have hkm : (k : Int) + 1 ≤ m := by omega
        have hkm2 : k + 1 ≤ m := by omega
        go_wp2_with fail
        refine (rtbytes_any _ 1 _ [t] _ (one_at hS HNIL.out hle) (fun i hi => by cases (Nat.lt_one_iff.1 hi); exact HTR.out) (by omega) (by rw [tbs_one]; have := HBL.out; omega)).mono ?_
        rintro e w15 ⟨A15, m15, rfl, hb15, hbs15, _⟩
        rw [tbs_one] at hbs15
        rw [tbs_one]
        replace hbd1 := hbd1.trans (hb15.mono hbd1.size)
        replace hS := hS.below hb15 (Nat.le_refl _)
        replace hbs := hbs.below hb15
        clear hb15
        go_wp2_with fail
        refine (same_any _ _ _ _ _ _ (tby t) _ hbs hbs15).mono ?_
        rintro e w16 ⟨rfl, rfl⟩
        clear hbs hbs15
        cases hg : tall T k
        · have HG := Lib.hid hg
          clear hg
          have e3 : IntKind.i64.wrap (ttot T k + sz) = ttot T k + sz := IntWalk.i64_in _ (by rw [HSZ.out]; have := HB2.out; omega)
          have hSc := hS
          obtain ⟨c0, c1, c2, _⟩ := hSc
          go_wp2_with fail
          refine (rtlen_any _ _ _ _ _ _).mono ?_
          rintro e w14 ⟨rfl, hb14⟩
          rw [← HSZ.out]
          replace hbd1 := hbd1.trans (hb14.mono hbd1.size)
          clear hb14 c0 c1 c2 hS
          go_wp2
          go_roundw
          case rel => exact ⟨k + 1, hlt, by go_num, by rw [HNG.out, HG.out, HTR.out]; rfl, by rw [HNX.out, HSZ.out], hbd1⟩
          case measure => simp [intOf]; omega
        · have HG := Lib.hid hg
          clear hg
          have hSc := hS
          obtain ⟨c0, c1, c2, _⟩ := hSc
          go_wp2_with fail
          refine (rtright_any _ _ _ _ _ _).mono ?_
          rintro e w14 ⟨rfl, hb14⟩
          rw [← HRT.out]
          replace hbd1 := hbd1.trans (hb14.mono hbd1.size)
          replace hS := hS.below hb14 (Nat.le_refl _)
          clear hb14 c0 c1 c2
          have e3 : IntKind.i64.wrap (ttot T k + sz) = ttot T k + sz := IntWalk.i64_in _ (by rw [HSZ.out]; have := HB2.out; omega)
          have hSc := hS
          obtain ⟨c0, c1, c2, _⟩ := hSc
          go_wp2_with fail
          refine (rtlen_any _ _ _ _ _ _).mono ?_
          rintro e w14 ⟨rfl, hb14⟩
          rw [← HSZ.out]
          replace hbd1 := hbd1.trans (hb14.mono hbd1.size)
          clear hb14 c0 c1 c2 hS
          go_wp2
          go_roundw
          case rel => exact ⟨k + 1, hlt, by go_num, by rw [HNG.out, HG.out, HTR.out]; rfl, by rw [HNX.out, HSZ.out], hbd1⟩
          case measure => simp [intOf]; omega
    · obtain rfl : k = n := by omega
      go_wp2_with fail
      refine (tbytes_any _ _ _ _ _ (HT.out.below hbd) (by omega) (by have := HBY.out; omega) (fun i => by have := HLIT.out i; omega)).mono ?_
      rintro e w2 ⟨A2, n2, m2, rfl, hb2, hbs, _⟩
      rw [HTL.out] at hbs
      rw [HTL.out]
      replace hbd := hbd.trans (hb2.mono hbd.size)
      clear hb2
      cases ha : tall T k
      · rw [ha] at hbs
        obtain rfl : 0 = n2 := hbs.1
        rw [if_neg (by simp)]
        clear ha
        go_wp2_with fail
        refine (ttotal_any _ _ _ _ _ (HT.out.below hbd) (by omega)).mono ?_
        rintro e w3 ⟨rfl, hb3⟩
        replace hbd := hbd.trans (hb3.mono hbd.size)
        replace hbs := hbs.below hb3
        clear hb3
        have e0 : (ttot T k != ttot T k) = false := by simp
        go_wp2_with fail
        refine (tsame_any _ _ _ _ _ _ T U _ (by omega) (HT.out.below hbd) (HU.out.below hbd) HOK.out HOK'.out).mono ?_
        rintro e w3 ⟨rfl, hb3⟩
        replace hbd := hbd.trans (hb3.mono hbd.size)
        replace hbs := hbs.below hb3
        clear hb3
        go_wp2_with fail
        refine (rtsame_any _ _ _ _ _ _ T U _ (by omega) (HT.out.below hbd) (HU.out.below hbd) HOK.out HOK'.out).mono ?_
        rintro e w3 ⟨rfl, hb3⟩
        replace hbd := hbd.trans (hb3.mono hbd.size)
        replace hbs := hbs.below hb3
        clear hb3
        generalize decide (T = U) = eq at *
        have e1 : (eq != eq) = false := by cases eq <;> rfl
        go_wp2_with fail
        refine (tsame_any _ _ _ _ _ _ T T _ (by omega) (HT.out.below hbd) (HT.out.below hbd) HOK.out HOK.out).mono ?_
        rintro e w3 ⟨rfl, hb3⟩
        rw [decide_eq_true rfl]
        replace hbd := hbd.trans (hb3.mono hbd.size)
        replace hbs := hbs.below hb3
        clear hb3 e0 e1
        clear hbs
        go_wp2_with fail
        refine (live11_any _).mono ?_
        rintro e w15 ⟨rfl, hb15⟩
        go_wp2
        go_ret
        exact ⟨rfl, hbd.trans (hb15.mono hbd.size)⟩
      · rw [ha] at hbs
        rw [if_pos rfl]
        have HALL := Lib.hid ha
        clear ha
        replace hbs : Bs w2 A2 n2 (tbs T k) := hbs
        go_wp2_with fail
        refine (ttotal_any _ _ _ _ _ (HT.out.below hbd) (by omega)).mono ?_
        rintro e w3 ⟨rfl, hb3⟩
        replace hbd := hbd.trans (hb3.mono hbd.size)
        replace hbs := hbs.below hb3
        clear hb3
        have e0 : (ttot T k != ttot T k) = false := by simp
        go_wp2_with fail
        refine (tsame_any _ _ _ _ _ _ T U _ (by omega) (HT.out.below hbd) (HU.out.below hbd) HOK.out HOK'.out).mono ?_
        rintro e w3 ⟨rfl, hb3⟩
        replace hbd := hbd.trans (hb3.mono hbd.size)
        replace hbs := hbs.below hb3
        clear hb3
        go_wp2_with fail
        refine (rtsame_any _ _ _ _ _ _ T U _ (by omega) (HT.out.below hbd) (HU.out.below hbd) HOK.out HOK'.out).mono ?_
        rintro e w3 ⟨rfl, hb3⟩
        replace hbd := hbd.trans (hb3.mono hbd.size)
        replace hbs := hbs.below hb3
        clear hb3
        generalize decide (T = U) = eq at *
        have e1 : (eq != eq) = false := by cases eq <;> rfl
        go_wp2_with fail
        refine (tsame_any _ _ _ _ _ _ T T _ (by omega) (HT.out.below hbd) (HT.out.below hbd) HOK.out HOK.out).mono ?_
        rintro e w3 ⟨rfl, hb3⟩
        rw [decide_eq_true rfl]
        replace hbd := hbd.trans (hb3.mono hbd.size)
        replace hbs := hbs.below hb3
        clear hb3 e0 e1
        go_wp2_with fail
        refine (rtbytes_any _ _ _ T _ (HT.out.below hbd) (tall_right HALL.out) (by omega) (by have := HBY.out; omega)).mono ?_
        rintro e w15 ⟨A15, m15, rfl, hb15, hbs15, _⟩
        replace hbd := hbd.trans (hb15.mono hbd.size)
        replace hbs := hbs.below hb15
        clear hb15
        go_wp2_with fail
        refine (same_any _ _ _ _ _ _ (tbs T k) _ hbs hbs15).mono ?_
        rintro e w16 ⟨rfl, rfl⟩
        clear hbs hbs15
        go_wp2_with fail
        refine (live11_any _).mono ?_
        rintro e w15 ⟨rfl, hb15⟩
        go_wp2
        go_ret
        exact ⟨rfl, hbd.trans (hb15.mono hbd.size)⟩

set_option maxRecDepth 100000 in
theorem lifted (os : Os) (started : os.Started) (H : Type) (enc : TypeId × Value → H) :
    ReturnsInHanded {} Try.checked os 3 .any (Rows.tokenWritesSpec.pre6 enc Try.prog Try.f3 Rows.tokenWritesRow.domain false) (Rows.tokenWritesSpec.post enc Try.prog Try.f3 false true false false) := by
  refine returnsInHanded_of_change (C := Try.checked) own started (by kernel_rfl) Try.func3
    (ChangeSpec.witness6 (enc := enc) (C := Try.checked) false ⟨#[], #[.slice none 0 0, .slice none 0 0], []⟩ 8 (by kernel_rfl) (by kernel_rfl) (by kernel_rfl) (by kernel_rfl)) ?_
  intro W base args ds gs before hval0 hW hcnd _
  have hval : ∀ (j : Nat) t v, Try.f3.params[j]? = some t → args[j]? = some v → Value.okWide Try.prog W .any base t v := hval0
  have hW' := hW
  obtain ⟨p, q, hA0, hV, rfl, hfz, hnd⟩ := hW
  have hA : DataW.TrodAll enc Try.prog W 0 (fun _ => true) true Try.f3.params.toList args.toList ds p := hA0
  rw [Try.params3] at hA hval
  obtain ⟨v0, vs0, d0, ds0, p0, q0, hargs, rfl, rfl, h0, r0⟩ := trodAll_cons hA
  obtain ⟨v1, vs1, d1, ds1, p1, q1, rfl, rfl, rfl, h1, r1⟩ := trodAll_cons r0
  obtain ⟨rfl, rfl, rfl⟩ := trodAll_nil r1
  obtain rfl : args = #[v0, v1] := by cases args; simp_all
  obtain ⟨rfl, rfl⟩ := trodVars_none hV
  have lt0 : ∀ x ∈ p0, x.block < W.heap.size := by obtain ⟨m, hm⟩ := h0; exact DataW.trod_lt m _ _ _ hm
  have lt1 : ∀ x ∈ p1, x.block < W.heap.size := by obtain ⟨m, hm⟩ := h1; exact DataW.trod_lt m _ _ _ hm
  clear hA0 hval0
  refine (walk enc W base v0 d0 p0 (hval 0 22 v0 rfl rfl) h0 v1 d1 p1 (hval 1 22 v1 rfl rfl) h1).mono fun e W' ⟨he, bel⟩ => ?_
  subst he
  exact ⟨_, rfl, _, _, _, [], _, [], hW', trodAll_mk1 (shut_bool Try.underlying4 _), (trodAll_cons_mk (Below.trod laidOut (by kernel_rfl) (of_decide_eq_true (by kernel_rfl)) h0 bel lt0) (trodAll_cons_mk (Below.trod laidOut (by kernel_rfl) (of_decide_eq_true (by kernel_rfl)) h1 bel lt1) trodAll_mk0)), rfl, bel.frame _, fun h => by cases h⟩

theorem over : Rows.tokenWritesRow.holds Try.pinned (OpenSpec.ofChange Rows.tokenWritesSpec) :=
  OpenClaim.holds_of_wide 3 Try.f3 rfl rfl rfl rfl rfl rfl rfl ⟨rfl, rfl, rfl, rfl, rfl⟩ rfl rfl rfl rfl rfl (by kernel_rfl) Try.func3 (by kernel_rfl)
    (of_decide_eq_true (by kernel_rfl)) (by unfold Func.isWrapper; first | (rw [if_pos (by decide +kernel)]; kernel_rfl) | (rw [if_neg (by decide +kernel)]; exact ⟨rfl, rfl⟩))
    (fun os started H enc _ => lifted os started H enc)

/-- THE STATEMENT. -/
theorem proved : Rows.TokenWritesSaid := over
#print axioms proved
end Go.Proofs.Ytppccdogfcmfjaa.tokenWrites
