/- ExpandOrigins: called with any tokens, the law returns true; no condition. -/
import Derived.Test.YtklkflfdianbpaaRows
import Derived.Test.YtklkflfdianbpaaExpW
import Derived.ProofKit
import Derived.OpenShut
import Derived.ShutString
import Derived.ChangeOld
namespace Go.Proofs.Ytklkflfdianbpaa.expandOrigins
open Go.ChangeShapes Go.WideShapes Go.ChangeAt Go.RowKit
open Go.ChangeMaps (open_string shut_string)
set_option linter.unusedVariables false

theorem own : ownKnob Try.prog.godebug = none := by kernel_rfl
theorem laidOut : laidOutB Try.prog = true := by kernel_rfl
open Cur Mem



theorem xpd_bd (T : List Tk) (b : Int) : ∀ n, ∀ x ∈ (xp (zro T) 0 (· + 1) T b n).1, 0 ≤ x ∧ x ≤ (xp (zro T) 0 (· + 1) T b n).1.length
  | 0, x, h => by cases h
  | n + 1, x, h => by
    by_cases h0 : (xp (zro T) 0 (· + 1) T b (n + 1)).2.1 = 0
    · obtain ⟨i0, _, i2⟩ := Cur.xp_pre h0
      have ih := xpd_bd T b n
      have hh : ∀ x ∈ (xp (zro T) 0 (· + 1) T b n).1 ++ zro T n, 0 ≤ x ∧ x ≤ (((xp (zro T) 0 (· + 1) T b n).1 ++ zro T n).length : Int) := fun x hx => by
        rw [List.length_append]
        rcases List.mem_append.1 hx with h | h
        · have := ih x h
          omega
        · unfold zro at h
          have := List.eq_of_mem_replicate h
          omega
      rw [i2] at h ⊢
      have := dp_bd (o := (T.getD n tk0).2.1) hh (by omega) _ x h
      rw [agn_length]
      omega
    · rw [xp_nil h0] at h
      cases h
set_option maxRecDepth 100000 in
set_option maxHeartbeats 8000000 in
theorem walk {H : Type} (enc : TypeId × Value → H) (w : World) (base : Nat) (v0 : Value) (d0 : DataW H) (p0 : List MemPlace) (g0 : Value.okWide Try.prog w .any base 22 v0) (h0 : DataW.Trod enc Try.prog w 0 (fun _ => true) true 22 v0 d0 p0) :
    Calls Try.prog 6 #[v0] w fun e w' => e = .returned (.bool true) ∧ Below w.heap.size w w' := by
  obtain ⟨A, n, m, T, rfl, hnm, hT, hok, hA⟩ := open_tokens g0 h0
  clear g0 h0
  have hbd := Below.refl w.heap.size w
  go_enter Try.func6, Try.ntmps6
  go_wp2_with fail
  refine (tlong_any _ _ _ _ _ hT).mono ?_
  rintro e w1 ⟨rfl, rfl⟩
  cases hl : tlong T
  rotate_left
  · clear hl
    go_wp2_with fail
    refine (live12_any _).mono ?_
    rintro e w15 ⟨rfl, hb15⟩
    go_wp2
    go_ret
    exact ⟨rfl, hbd.trans (hb15.mono hbd.size)⟩
  obtain ⟨hl1, hl2⟩ := tlong_no hl
  have hTl := hT.1
  have hn100 : n ≤ 100 := by omega
  have HOK := Lib.hid hok
  have HT := Lib.hid hT
  clear hl hok hA hl2 hl1 hT hbd
  have h1 := eorigins_any A n m T w HT.out HOK.out (by omega)
  have h2 := fun w' (h : TksL w' A n T) => edeep_any A n m T w' h HOK.out (by omega)
  have h3 := fun w' (h : TksL w' A n T) => rtokens_any A n m T 5000 w' h HOK.out (by omega) (by omega)
  rw [xpb_lit] at h3
  have HF := Lib.hid (fun (i q : Nat) (hi : i < n) (hq : (q : Int) < tsz (T.getD i tk0).1.length (T.getD i tk0).2.1 (T.getD i tk0).2.2) (h : (xp (lit T) 0 id T 5000 n).2.1 = 0) => row_fact (b := 5000) (b' := 1048576) (by omega) h hi hq)
  have HLN := Lib.hid (row_lens (T := T) (b := 5000) (b' := 1048576) (n := n) (by omega))
  have HTOT := Lib.hid (fun k => xp_tot (own := lit T) (d := 0) (f := id) (T := T) (bound := 5000) (fun k => rfl) (k := k))
  have HNIL := Lib.hid (xp_nil (own := lit T) (d := 0) (f := id) (T := T) (bound := 5000) (k := n))
  obtain ⟨O, hO⟩ : ∃ O, (xpo T 1048576 n).1 = O := ⟨_, rfl⟩
  obtain ⟨D, hD⟩ : ∃ D, (xpd T 1048576 n).1 = D := ⟨_, rfl⟩
  obtain ⟨co, hco⟩ : ∃ co, (xpo T 1048576 n).2.1 = co := ⟨_, rfl⟩
  obtain ⟨cd, hcd⟩ : ∃ cd, (xpd T 1048576 n).2.1 = cd := ⟨_, rfl⟩
  obtain ⟨y, c, q, hg⟩ : ∃ y c q, xp (lit T) 0 id T 5000 n = (y, c, q) := ⟨_, _, _, rfl⟩
  have HO := Lib.hid hO
  have HD := Lib.hid hD
  have HCO := Lib.hid hco
  have HCD := Lib.hid hcd
  have HG := Lib.hid hg
  rw [hO, hco] at h1
  rw [hD, hcd] at h2
  rw [hg] at h3
  have H2 := Lib.hid h2
  have H3 := Lib.hid h3
  clear hO hD hco hcd hg h2 h3
  go_wp2_with fail
  refine h1.mono ?_
  rintro e w1 ⟨v1, rfl, ho1, hb1⟩
  obtain ⟨A1, c1, rfl⟩ := ho1.slice
  have hT1 := HT.out.below hb1
  clear h1
  go_wp2_with fail
  refine (H2.out _ hT1).mono ?_
  rintro e w2 ⟨v2, rfl, ho2, hb2⟩
  obtain ⟨A2, c2, rfl⟩ := ho2.slice
  have hT2 := hT1.below hb2
  have ho1' : OwnP w2 _ _ O := own_below ho1 hb2
  have hd2 := hb1.trans (hb2.mono hb1.size)
  clear hT1 ho1 hb1 hb2
  go_wp2_with fail
  refine (H3.out _ hT2).mono ?_
  rintro e w3 ⟨v3, rfl, ho3, hb3⟩
  obtain ⟨A3, c3, rfl⟩ := ho3.slice
  have hbX := below_one w3 (.cells #[.int .i64 c, .int .i64 q] 28)
  have hX := Blk.new w3 #[.int .i64 c, .int .i64 q] 28
  have hbd := (hd2.trans (hb3.mono hd2.size))
  have hbd := hbd.trans (hbX.mono hbd.size)
  have HR1 : Hid (OwnP _ _ _ O) := Lib.hid (own_below (own_below ho1' hb3) hbX)
  have HR2 : Hid (OwnI _ _ _ D) := Lib.hid (own_below (own_below ho2 hb3) hbX)
  have HR3 := Lib.hid (ho3.below hbX)
  obtain ⟨x0, x1⟩ := hX.c2
  have HX := Lib.hid hX
  have HTW := Lib.hid (((hT2.below hb3).below hbX))
  clear hX hbX ho1' ho2 ho3 hb3 hd2 hT2 H2 H3
  by_cases hc11 : c = 11
  · subst hc11
    go_wp2_with fail
    refine (live12_any _).mono ?_
    rintro e w15 ⟨rfl, hb15⟩
    go_wp2
    go_ret
    exact ⟨rfl, hbd.trans (hb15.mono hbd.size)⟩
  · have hcb : (c == 11) = false := by simpa using hc11
    obtain ⟨e1, e2, e3, e4⟩ := HLN.out (by rw [HG.out]; exact hc11)
    rw [HG.out, HCO.out] at e1
    rw [HG.out, HCD.out] at e2
    rw [HG.out] at e3 e4
    rw [HO.out] at e3
    rw [HD.out] at e4
    dsimp only at e1 e2 e3 e4
    have hE := Lib.hid e3
    have hE2 := Lib.hid e4
    subst e1
    clear e3 e4 HLN
    by_cases hc0 : co = 0
    · subst hc0
      subst e2
      have HF2 : Hid (∀ i k : Nat, i < n → (k : Int) < tsz (T.getD i tk0).1.length (T.getD i tk0).2.1 (T.getD i tk0).2.2 →
          (xp (lit T) 0 id T 5000 i).1.length + k < y.length ∧
          (∃ t j : Nat, O.getD ((xp (lit T) 0 id T 5000 i).1.length + k) (0, 0) = ((t : Int), (j : Int)) ∧ t ≤ i ∧ j < (T.getD t tk0).1.length ∧ (T.getD t tk0).1.getD j 0 = y.getD ((xp (lit T) 0 id T 5000 i).1.length + k) 0) ∧
          (trun (T.getD i tk0).1.length (T.getD i tk0).2.1 (T.getD i tk0).2.2 = true → O.getD ((xp (lit T) 0 id T 5000 i).1.length + k) (0, 0) = ((i : Int), (k : Int)) ∧ D.getD ((xp (lit T) 0 id T 5000 i).1.length + k) 0 = 0) ∧
          (tcpy (T.getD i tk0).1.length (T.getD i tk0).2.1 (T.getD i tk0).2.2 = true → ∃ s : Nat, (((xp (lit T) 0 id T 5000 i).1.length + k : Nat) : Int) - (T.getD i tk0).2.1 = s ∧ s < y.length ∧
            O.getD ((xp (lit T) 0 id T 5000 i).1.length + k) (0, 0) = O.getD s (0, 0) ∧ D.getD ((xp (lit T) 0 id T 5000 i).1.length + k) 0 = D.getD s 0 + 1)) := Lib.hid (fun i k hi hk => by
        have h := HF.out i k hi hk (by rw [HG.out])
        have ho : (xp (ogs T) (0, 0) id T 1048576 n).1 = O := HO.out
        have hd : (xp (zro T) 0 (· + 1) T 1048576 n).1 = D := HD.out
        rw [HG.out, ho, hd] at h
        exact h)
      have HPN : Hid (∀ i, i < n → ((((xp (lit T) 0 id T 5000 (i + 1)).1.length : Nat) : Int) = (((xp (lit T) 0 id T 5000 i).1.length : Nat) : Int) + tsz (T.getD i tk0).1.length (T.getD i tk0).2.1 (T.getD i tk0).2.2)) := Lib.hid (fun i hi => by
        have h0 : (xp (lit T) 0 id T 5000 n).2.1 = 0 := by rw [HG.out]
        have h1 := (HTOT.out (i + 1) (xp_zero (by omega) h0)).1
        have h2 := (HTOT.out i (xp_zero (by omega) h0)).1
        rw [h1, h2]
        rfl)
      have HY5 : Hid (y.length ≤ 5000) := Lib.hid (by
        have h0 : (xp (lit T) 0 id T 5000 n).2.1 = 0 := by rw [HG.out]
        have := (HTOT.out n h0).2
        rw [HG.out] at this
        dsimp only at this
        omega)
      have HDB : Hid (∀ s, s < y.length → 0 ≤ D.getD s 0 ∧ D.getD s 0 ≤ y.length) := Lib.hid (fun s hs => by
        have hd : (xp (zro T) 0 (· + 1) T 1048576 n).1 = D := HD.out
        have := xpd_bd T 1048576 n
        rw [hd] at this
        have hs2 : s < D.length := by rw [hE2.out]; exact hs
        have h := this (D.getD s 0) (by rw [List.getD_eq_getElem?_getD, List.getElem?_eq_getElem hs2]; exact List.getElem_mem hs2)
        rw [hE2.out] at h
        exact h)
      have HP0 : Hid ((xp (lit T) 0 id T 5000 0).1.length = 0) := Lib.hid rfl
      generalize hP : (fun i => (xp (lit T) 0 id T 5000 i).1.length) = P at *
      have hP' : ∀ i, (xp (lit T) 0 id T 5000 i).1.length = P i := fun i => by rw [← hP]
      simp only [hP'] at HF2 HPN HP0
      clear hP hP' HF HTOT HNIL HO HD HCO HCD HG
      rw [hE.out, hE2.out]
      go_wp2
      generalize w3.alloc (.cells #[.int .i64 0, .int .i64 q] 28) = W0 at *
      have HT0 := Lib.hid (show TksL W0 A n T from HTW.out)
      clear x0 x1 HX hc11 hcb HTW
      have hB0 := hbd
      have HB0 := Lib.hid hB0
      clear hbd hB0
      go_loopw [9, 10] (fun v9 v10 wr => ∃ i : Nat, i ≤ n ∧ v10 = .int .i64 i ∧ v9 = .int .i64 (P i : Nat) ∧ Below W0.heap.size W0 wr) (fun _ v10 _ => n - (intOf v10).toNat)
      case atStart => exact ⟨0, Nat.zero_le _, rfl, by rw [HP0.out]; rfl, Below.refl _ _⟩
      case round =>
        obtain ⟨i, hi, rfl, rfl, hb⟩ := hrel
        by_cases hlt : i < n
        · have HI := Lib.hid hlt
          obtain ⟨b, o, Ar, Lr, Cr, rfl, hC0, hnil, hle⟩ := HT0.out.2 i hlt
          have HF3 := Lib.hid (fun k hk => HF2.out i k hlt hk)
          have HPN2 := Lib.hid (HPN.out i hlt)
          rw [hC0.2.2.2.1] at HF3 HPN2
          have hts := tsz_bd Lr (T.getD i tk0).2.1 (T.getD i tk0).2.2
          have HTR : Hid (trun Lr (T.getD i tk0).2.1 (T.getD i tk0).2.2 = trun Lr (T.getD i tk0).2.1 (T.getD i tk0).2.2) := Lib.hid rfl
          have C : ∀ w', Below W0.heap.size W0 w' → w'.cell? ⟨b, o + i * 3, none⟩ = some (.slice Ar Lr Cr) ∧ w'.cell? ⟨b, o + i * 3 + 1, none⟩ = some (.int .i64 (T.getD i tk0).2.1) ∧ w'.cell? ⟨b, o + i * 3 + 2, none⟩ = some (.int .i64 (T.getD i tk0).2.2) := fun w' h => by
            have := hC0.below h (Nat.le_refl _)
            exact ⟨this.1, this.2.1, this.2.2.1⟩
          have HC := Lib.hid C
          have hoff := (tkok_getD HOK.out i).2.1
          clear hC0 hnil C HF2 HPN
          generalize hto : (T.getD i tk0).2.1 = to at *
          generalize htl : (T.getD i tk0).2.2 = tl at *
          obtain ⟨sz, hsz⟩ : ∃ sz, sz = tsz Lr to tl := ⟨_, rfl⟩
          rw [← hsz] at hts HPN2 HF3
          have HSZ := Lib.hid hsz
          have HSI := Lib.hid hi
          have hin : (i : Int) < n := by omega
          clear hto htl hsz hi HTR
          go_wp2
          go_loopw [9, 11] (fun v9 v11 wr => ∃ k : Nat, (k : Int) ≤ sz ∧ v11 = .int .i64 k ∧ v9 = .int .i64 ((P i + k : Nat) : Int) ∧ Below W0.heap.size W0 wr) (fun _ v11 _ => sz.toNat - (intOf v11).toNat)
          case atStart => exact ⟨0, hts.1, rfl, rfl, hb⟩
          case round =>
            clear hb
            obtain ⟨k, hk, rfl, rfl, hb⟩ := hrel
            obtain ⟨c0, c1, c2⟩ := HC.out _ hb
            by_cases hks : (k : Int) < sz
            · obtain ⟨f1, ⟨t, j, f2, f3, f4, f5⟩, f6, f7⟩ := HF3.out k hks
              have hHK := Lib.hid hks
              obtain ⟨p, hp⟩ : ∃ p, P i + k = p := ⟨_, rfl⟩
              rw [hp] at f1 f2 f5 f6 f7 ⊢
              have HP := Lib.hid hp
              have hp5 : (p : Int) ≤ 5000 := by have := HY5.out; omega
              obtain ⟨b', o', Ar', Lr', Cr', hA', hCt, _, _⟩ := HT0.out.2 t (by have := HI.out; omega)
              injection hA' with hA'
              injection hA' with hA1 hA2
              subst hA1 hA2
              have hLt := hCt.2.2.2.1
              rw [hLt] at f4
              obtain ⟨g3, o3, hAr', hlit⟩ := hCt.2.2.2.at_ f4
              subst hAr'
              rw [f5] at hlit
              obtain ⟨_, _, _, hrO⟩ := own_rw HR1.out rfl
              obtain ⟨_, _, _, hrD⟩ := own_rw HR2.out rfl
              obtain ⟨g1, o1, hA1, hcO⟩ := hrO (by rw [pv_len, hE.out]; omega)
              obtain ⟨g2, o2, hA2, hcD⟩ := hrD (by unfold iv; rw [List.length_map, hE2.out]; omega)
              obtain ⟨g4, o4, hA3, hcY⟩ := (HR3.out.bs.2).at_ f1
              subst hA1 hA2 hA3
              have cO : ∀ q, q < y.length → W0.cell? ⟨g1, o1 + q * 2, none⟩ = some (.int .i64 (O.getD q (0, 0)).1) ∧ W0.cell? ⟨g1, o1 + q * 2 + 1, none⟩ = some (.int .i64 (O.getD q (0, 0)).2) := fun q hq => by
                obtain ⟨p0, p1⟩ := pv_get O q (by rw [hE.out]; exact hq)
                have c0 := hcO _ _ p0
                have c1 := hcO _ _ p1
                rw [← Nat.add_assoc] at c1
                exact ⟨c0, c1⟩
              have cD : ∀ q, q < y.length → W0.cell? ⟨g2, o2 + q, none⟩ = some (.int .i64 (D.getD q 0)) := fun q hq => by
                refine hcD q _ ?_
                unfold iv
                rw [List.getElem?_map, List.getD_eq_getElem?_getD, List.getElem?_eq_getElem (by rw [hE2.out]; exact hq)]
                rfl
              have cT := hCt.1
              have hti : t < n := by have := HI.out; omega
              have hsr : trun Lr to tl = true ∨ (trun Lr to tl = false ∧ tcpy Lr to tl = true) := by
                cases hr : trun Lr to tl
                · cases hcp : tcpy Lr to tl
                  · have := HSZ.out
                    rw [tsz_no hr hcp] at this
                    omega
                  · exact .inr ⟨rfl, rfl⟩
                · exact .inl rfl
              have HF6 := Lib.hid f6
              have HF7 := Lib.hid f7
              have HF2 := Lib.hid f2
              have HCO := Lib.hid cO
              have HCD := Lib.hid cD
              obtain ⟨yb, hyb⟩ : ∃ yb, y.getD p 0 = yb := ⟨_, rfl⟩
              rw [hyb] at hlit hcY
              have e3 : decide ((Lr' : Int) ≤ j) = false := by simp; omega
              have e4 : decide (Lr' ≤ j) = false := by simp; omega
              clear f2 f5 f6 f7 hCt hLt hrO hrD hcO hcD hp cO cD hyb
              rcases hsr with hrun | ⟨hrun, hcpy⟩
              · obtain ⟨h1, h2⟩ := HF6.out hrun
                have h3 := HF2.out
                rw [h1] at h3
                injection h3 with h3 h4
                obtain rfl : i = t := by omega
                obtain rfl : k = j := by omega
                have hnc : tcpy Lr to tl = false := by
                  unfold trun at hrun
                  unfold tcpy
                  simp only [decide_eq_true_eq] at hrun
                  rw [decide_eq_false_iff_not]
                  omega
                have hq := (HC.out W0 (Below.refl _ _)).1.symm.trans cT
                injection hq with hq
                injection hq with q1 q2 q3
                subst q1 q2 q3
                have cT1 := (HC.out W0 (Below.refl _ _)).2.1
                have cT2 := (HC.out W0 (Below.refl _ _)).2.2
                have hO := HCO.out p f1
                have hD := HCD.out p f1
                rw [h1] at hO
                rw [h2] at hD
                have HR := Lib.hid hrun
                have HN := Lib.hid hnc
                clear h1 h2 h3 h4 hrun hnc
                have L : ∀ w', Below W0.heap.size W0 w' → w'.cell? ⟨g1, o1 + p * 2, none⟩ = some (.int .i64 i) ∧ w'.cell? ⟨g1, o1 + p * 2 + 1, none⟩ = some (.int .i64 k) ∧ w'.cell? ⟨g2, o2 + p, none⟩ = some (.int .i64 0) ∧ w'.cell? ⟨g3, o3 + k, none⟩ = some (.int .u8 yb) ∧ w'.cell? ⟨g4, o4 + p, none⟩ = some (.int .u8 yb) ∧
                    w'.cell? ⟨b, o + i * 3, none⟩ = some (.slice (some ⟨g3, o3, none⟩) Lr Cr) ∧ w'.cell? ⟨b, o + i * 3 + 1, none⟩ = some (.int .i64 to) ∧ w'.cell? ⟨b, o + i * 3 + 2, none⟩ = some (.int .i64 tl) := fun w' h =>
                  ⟨(h.cell (lt_of_cell hO.1)).trans hO.1, (h.cell (lt_of_cell hO.2)).trans hO.2, (h.cell (lt_of_cell hD)).trans hD, (h.cell (lt_of_cell hlit)).trans hlit, (h.cell (lt_of_cell hcY)).trans hcY, (h.cell (lt_of_cell cT)).trans cT, (h.cell (lt_of_cell cT1)).trans cT1, (h.cell (lt_of_cell cT2)).trans cT2⟩
                clear hO hD hlit hcY cT cT1 cT2
                have HL := Lib.hid L
                clear L
                go_wp2_with fail
                refine (rtlen_any _ _ _ _ _ _).mono ?_
                rintro e w14 ⟨rfl, hb14⟩
                rw [← HSZ.out]
                replace hb := hb.trans (hb14.mono hb.size)
                clear hb14 c0 c1 c2
                go_wp2
                have L := HL.out
                refine Seq.wp_region_seq (fun w' => Below W0.heap.size W0 w') (by kernel_rfl) (by kernel_rfl) (hb.trans ((below_one' _).mono hb.size)) ?_
                replace hb := hb.trans ((below_one' _).mono hb.size)
                repeat (first | (refine Seq.Seq.skip (by rfl) ?_; (try simp only [Act.put, List.setIfInBounds_toArray, List.set_cons_zero, List.set_cons_succ])) | (refine Seq.Seq.det ?_ (by rfl) (fun w hS => ?_) ?_; rotate_left; ((try dsimp only at hS); go_simp; (try rw [if_pos (by omega)]); with_reducible rfl); (try simp only [Act.put, List.setIfInBounds_toArray, List.set_cons_zero, List.set_cons_succ])))
                refine Seq.Seq.nil ?_
                go_wp2_with fail
                refine Seq.wp_region_seq (fun w' => Below W0.heap.size W0 w') (by kernel_rfl) (by kernel_rfl) (hb.trans ((below_one' _).mono hb.size)) ?_
                replace hb := hb.trans ((below_one' _).mono hb.size)
                repeat (first | (refine Seq.Seq.skip (by rfl) ?_; (try simp only [Act.put, List.setIfInBounds_toArray, List.set_cons_zero, List.set_cons_succ])) | (refine Seq.Seq.det ?_ (by rfl) (fun w hS => ?_) ?_; rotate_left; ((try dsimp only at hS); go_simp; (try rw [if_pos (by omega)]); with_reducible rfl); (try simp only [Act.put, List.setIfInBounds_toArray, List.set_cons_zero, List.set_cons_succ])))
                refine Seq.Seq.nil ?_
                go_wp2_with fail
                refine (rrun_any _ _ _ _ _ _).mono ?_
                rintro e w15 ⟨rfl, hb15⟩
                rw [HR.out]
                replace hb := hb.trans (hb15.mono hb.size)
                clear hb15
                go_wp2_with fail
                refine Seq.wp_region_seq (fun w' => Below W0.heap.size W0 w') (by kernel_rfl) (by kernel_rfl) (hb.trans ((below_one' _).mono hb.size)) ?_
                replace hb := hb.trans ((below_one' _).mono hb.size)
                repeat (first | (refine Seq.Seq.skip (by rfl) ?_; (try simp only [Act.put, List.setIfInBounds_toArray, List.set_cons_zero, List.set_cons_succ])) | (refine Seq.Seq.det ?_ (by rfl) (fun w hS => ?_) ?_; rotate_left; ((try dsimp only at hS); go_simp; (try rw [if_pos (by omega)]); with_reducible rfl); (try simp only [Act.put, List.setIfInBounds_toArray, List.set_cons_zero, List.set_cons_succ])))
                refine Seq.Seq.make (by rfl) (by rfl) (fun K Q' hK => ?_)
                go_simp
                refine (rcopy_any _ _ _ _ _ _).mono ?_
                rintro e w16 ⟨rfl, hb16⟩
                rw [HN.out]
                replace hb := hb.trans (hb16.mono hb.size)
                refine hK.out _ _ (hb) ?_
                clear hK K
                try simp only [Act.put, List.setIfInBounds_toArray, List.set_cons_zero, List.set_cons_succ]
                clear hb16
                repeat (first | (refine Seq.Seq.skip (by rfl) ?_; (try simp only [Act.put, List.setIfInBounds_toArray, List.set_cons_zero, List.set_cons_succ])) | (refine Seq.Seq.det ?_ (by rfl) (fun w hS => ?_) ?_; rotate_left; ((try dsimp only at hS); go_simp; (try rw [if_pos (by omega)]); with_reducible rfl); (try simp only [Act.put, List.setIfInBounds_toArray, List.set_cons_zero, List.set_cons_succ])))
                refine Seq.Seq.nil ?_
                have HBB := Lib.hid hb
                clear L e3 e4 hb
                go_wp2_with fail
                go_roundw
                case rel => exact ⟨k + 1, by have := hHK.out; omega, by go_num, by rw [show P i + (k + 1) = p + 1 by have := HP.out; omega]; have := HY5.out; go_num, HBB.out⟩
                case measure => have := hHK.out; simp [intOf]; omega
              · obtain ⟨s, h1, h2, h3, h4⟩ := HF7.out hcpy
                have hO := HCO.out p f1
                have hD := HCD.out p f1
                have hO2 := HCO.out s h2
                have hD2 := HCD.out s h2
                have hds := HDB.out s h2
                rw [h3] at hO
                rw [h4] at hD
                have h5 := HF2.out
                rw [h3] at h5
                rw [h5] at hO hO2
                have cT1 := (HC.out W0 (Below.refl _ _)).2.1
                have cT2 := (HC.out W0 (Below.refl _ _)).2.2
                have cT0 := (HC.out W0 (Below.refl _ _)).1
                obtain ⟨ds, hds2⟩ : ∃ ds, D.getD s 0 = ds := ⟨_, rfl⟩
                rw [hds2] at hD hD2 hds
                have e6 : IntKind.i64.wrap ((p : Int) - to) = s := by rw [h1]; exact IntWalk.i64_in _ (by have := HY5.out; omega)
                have e7 : IntKind.i64.wrap (ds + 1) = ds + 1 := IntWalk.i64_in _ (by have := HY5.out; omega)
                have e8 : decide (i < t) = false := by simp; omega
                have e9 : ¬ i < t := by omega
                have e10 : s < y.length := h2
                have HR := Lib.hid hrun
                have HN := Lib.hid hcpy
                clear h1 h3 h4 h5 hrun hcpy hds2
                dsimp only at hO hO2
                have L : ∀ w', Below W0.heap.size W0 w' → w'.cell? ⟨g1, o1 + p * 2, none⟩ = some (.int .i64 t) ∧ w'.cell? ⟨g1, o1 + p * 2 + 1, none⟩ = some (.int .i64 j) ∧ w'.cell? ⟨g2, o2 + p, none⟩ = some (.int .i64 (ds + 1)) ∧ w'.cell? ⟨g3, o3 + j, none⟩ = some (.int .u8 yb) ∧ w'.cell? ⟨g4, o4 + p, none⟩ = some (.int .u8 yb) ∧
                    w'.cell? ⟨b, o + t * 3, none⟩ = some (.slice (some ⟨g3, o3, none⟩) Lr' Cr') ∧ w'.cell? ⟨b, o + i * 3, none⟩ = some (.slice Ar Lr Cr) ∧ w'.cell? ⟨b, o + i * 3 + 1, none⟩ = some (.int .i64 to) ∧ w'.cell? ⟨b, o + i * 3 + 2, none⟩ = some (.int .i64 tl) := fun w' h =>
                  ⟨(h.cell (lt_of_cell hO.1)).trans hO.1, (h.cell (lt_of_cell hO.2)).trans hO.2, (h.cell (lt_of_cell hD)).trans hD, (h.cell (lt_of_cell hlit)).trans hlit, (h.cell (lt_of_cell hcY)).trans hcY, (h.cell (lt_of_cell cT)).trans cT, (h.cell (lt_of_cell cT0)).trans cT0, (h.cell (lt_of_cell cT1)).trans cT1, (h.cell (lt_of_cell cT2)).trans cT2⟩
                have L2 : ∀ w', Below W0.heap.size W0 w' → w'.cell? ⟨g1, o1 + s * 2, none⟩ = some (.int .i64 t) ∧ w'.cell? ⟨g1, o1 + s * 2 + 1, none⟩ = some (.int .i64 j) ∧ w'.cell? ⟨g2, o2 + s, none⟩ = some (.int .i64 ds) := fun w' h =>
                  ⟨(h.cell (lt_of_cell hO2.1)).trans hO2.1, (h.cell (lt_of_cell hO2.2)).trans hO2.2, (h.cell (lt_of_cell hD2)).trans hD2⟩
                clear hO hD hO2 hD2 hlit hcY cT cT1 cT2 cT0
                have HL := Lib.hid L
                have HL2 := Lib.hid L2
                have E6 := Lib.hid e6
                have E7 := Lib.hid e7
                clear L L2 e6 e7
                go_wp2_with fail
                refine (rtlen_any _ _ _ _ _ _).mono ?_
                rintro e w14 ⟨rfl, hb14⟩
                rw [← HSZ.out]
                replace hb := hb.trans (hb14.mono hb.size)
                clear hb14 c0 c1 c2
                go_wp2
                have L := HL.out
                refine Seq.wp_region_seq (fun w' => Below W0.heap.size W0 w') (by kernel_rfl) (by kernel_rfl) (hb.trans ((below_one' _).mono hb.size)) ?_
                replace hb := hb.trans ((below_one' _).mono hb.size)
                repeat (first | (refine Seq.Seq.skip (by rfl) ?_; (try simp only [Act.put, List.setIfInBounds_toArray, List.set_cons_zero, List.set_cons_succ])) | (refine Seq.Seq.det ?_ (by rfl) (fun w hS => ?_) ?_; rotate_left; ((try dsimp only at hS); go_simp; (try rw [if_pos (by omega)]); with_reducible rfl); (try simp only [Act.put, List.setIfInBounds_toArray, List.set_cons_zero, List.set_cons_succ])))
                refine Seq.Seq.nil ?_
                go_wp2_with fail
                refine Seq.wp_region_seq (fun w' => Below W0.heap.size W0 w') (by kernel_rfl) (by kernel_rfl) (hb.trans ((below_one' _).mono hb.size)) ?_
                replace hb := hb.trans ((below_one' _).mono hb.size)
                repeat (first | (refine Seq.Seq.skip (by rfl) ?_; (try simp only [Act.put, List.setIfInBounds_toArray, List.set_cons_zero, List.set_cons_succ])) | (refine Seq.Seq.det ?_ (by rfl) (fun w hS => ?_) ?_; rotate_left; ((try dsimp only at hS); go_simp; (try rw [if_pos (by omega)]); with_reducible rfl); (try simp only [Act.put, List.setIfInBounds_toArray, List.set_cons_zero, List.set_cons_succ])))
                refine Seq.Seq.nil ?_
                go_wp2_with fail
                refine (rrun_any _ _ _ _ _ _).mono ?_
                rintro e w15 ⟨rfl, hb15⟩
                rw [HR.out]
                replace hb := hb.trans (hb15.mono hb.size)
                clear hb15
                go_wp2_with fail
                have L2 := HL2.out
                have e6 := E6.out
                have e7 := E7.out
                have e11 := fun w => neq_pair t j w
                refine Seq.wp_region_seq (fun w' => Below W0.heap.size W0 w') (by kernel_rfl) (by kernel_rfl) (hb.trans ((below_one' _).mono hb.size)) ?_
                replace hb := hb.trans ((below_one' _).mono hb.size)
                repeat (first | (refine Seq.Seq.skip (by rfl) ?_; (try simp only [Act.put, List.setIfInBounds_toArray, List.set_cons_zero, List.set_cons_succ])) | (refine Seq.Seq.det ?_ (by rfl) (fun w hS => ?_) ?_; rotate_left; ((try dsimp only at hS); go_simp; (try rw [if_pos (by omega)]); with_reducible rfl); (try simp only [Act.put, List.setIfInBounds_toArray, List.set_cons_zero, List.set_cons_succ])))
                refine Seq.Seq.make (by rfl) (by rfl) (fun K Q' hK => ?_)
                go_simp
                refine (rcopy_any _ _ _ _ _ _).mono ?_
                rintro e w16 ⟨rfl, hb16⟩
                rw [HN.out]
                replace hb := hb.trans (hb16.mono hb.size)
                refine hK.out _ _ (hb) ?_
                clear hK K
                try simp only [Act.put, List.setIfInBounds_toArray, List.set_cons_zero, List.set_cons_succ]
                clear hb16
                repeat (first | (refine Seq.Seq.skip (by rfl) ?_; (try simp only [Act.put, List.setIfInBounds_toArray, List.set_cons_zero, List.set_cons_succ])) | (refine Seq.Seq.det ?_ (by rfl) (fun w hS => ?_) ?_; rotate_left; ((try dsimp only at hS); go_simp; (try rw [if_pos (by omega)]); with_reducible rfl); (try simp only [Act.put, List.setIfInBounds_toArray, List.set_cons_zero, List.set_cons_succ])))
                refine Seq.Seq.nil ?_
                have HBB := Lib.hid hb
                clear L L2 e3 e4 e6 e7 e8 e9 e11 hb
                go_wp2_with fail
                go_roundw
                case rel => exact ⟨k + 1, by have := hHK.out; omega, by go_num, by rw [show P i + (k + 1) = p + 1 by have := HP.out; omega]; have := HY5.out; go_num, HBB.out⟩
                case measure => have := hHK.out; simp [intOf]; omega
            · obtain ⟨kk, rfl⟩ : ∃ kk : Nat, sz = kk := ⟨sz.toNat, by omega⟩
              obtain rfl : k = kk := by omega
              go_wp2_with fail
              refine (rtlen_any _ _ _ _ _ _).mono ?_
              rintro e w14 ⟨rfl, hb14⟩
              rw [← HSZ.out]
              replace hb := hb.trans (hb14.mono hb.size)
              have HPE : Hid (P (i + 1) = P i + k) := Lib.hid (by have := HPN2.out; omega)
              have hts2 := hts
              clear hb14 c0 c1 c2 hts
              go_wp2
              go_roundw
              case rel => exact ⟨i + 1, HI.out, by go_num, by rw [HPE.out]; go_num, hb⟩
              case measure => have := HI.out; simp [intOf]; omega
        · obtain rfl : i = n := by omega
          have hbd := HB0.out.trans (hb.mono HB0.out.size)
          clear hb
          go_wp2_with fail
          refine (live12_any _).mono ?_
          rintro e w15 ⟨rfl, hb15⟩
          go_wp2
          go_ret
          exact ⟨rfl, hbd.trans (hb15.mono hbd.size)⟩
    · have hcc : (co != 0) = true := by simpa using hc0
      have hc2 : (co == 0) = false := by simpa using hc0
      have hy : y = [] := by
        have := HNIL.out (by rw [HG.out]; exact hc0)
        rw [HG.out] at this
        exact this
      subst hy
      obtain rfl : O = [] := List.length_eq_zero_iff.1 hE.out
      obtain rfl : D = [] := List.length_eq_zero_iff.1 hE2.out
      subst e2
      go_wp2_with fail
      refine (live12_any _).mono ?_
      rintro e w15 ⟨rfl, hb15⟩
      go_wp2
      go_ret
      exact ⟨rfl, hbd.trans (hb15.mono hbd.size)⟩

set_option maxRecDepth 100000 in
theorem lifted (os : Os) (started : os.Started) (H : Type) (enc : TypeId × Value → H) :
    ReturnsInHanded {} Try.checked os 6 .any (Rows.expandOriginsSpec.pre6 enc Try.prog Try.f6 Rows.expandOriginsRow.domain false) (Rows.expandOriginsSpec.post enc Try.prog Try.f6 false true false false) := by
  refine returnsInHanded_of_change (C := Try.checked) own started (by kernel_rfl) Try.func6
    (ChangeSpec.witness6 (enc := enc) (C := Try.checked) false ⟨#[], #[.slice none 0 0], []⟩ 8 (by kernel_rfl) (by kernel_rfl) (by kernel_rfl) (by kernel_rfl)) ?_
  intro W base args ds gs before hval0 hW hcnd _
  have hval : ∀ (j : Nat) t v, Try.f6.params[j]? = some t → args[j]? = some v → Value.okWide Try.prog W .any base t v := hval0
  have hW' := hW
  obtain ⟨p, q, hA0, hV, rfl, hfz, hnd⟩ := hW
  have hA : DataW.TrodAll enc Try.prog W 0 (fun _ => true) true Try.f6.params.toList args.toList ds p := hA0
  rw [Try.params6] at hA hval
  obtain ⟨v0, vs0, d0, ds0, p0, q0, hargs, rfl, rfl, h0, r0⟩ := trodAll_cons hA
  obtain ⟨rfl, rfl, rfl⟩ := trodAll_nil r0
  obtain rfl : args = #[v0] := by cases args; simp_all
  obtain ⟨rfl, rfl⟩ := trodVars_none hV
  have lt0 : ∀ x ∈ p0, x.block < W.heap.size := by obtain ⟨m, hm⟩ := h0; exact DataW.trod_lt m _ _ _ hm
  clear hA0 hval0
  refine (walk enc W base v0 d0 p0 (hval 0 22 v0 rfl rfl) h0).mono fun e W' ⟨he, bel⟩ => ?_
  subst he
  exact ⟨_, rfl, _, _, _, [], _, [], hW', trodAll_mk1 (shut_bool Try.underlying4 _), (trodAll_cons_mk (Below.trod laidOut (by kernel_rfl) (of_decide_eq_true (by kernel_rfl)) h0 bel lt0) trodAll_mk0), rfl, bel.frame _, fun h => by cases h⟩

theorem over : Rows.expandOriginsRow.holds Try.pinned (OpenSpec.ofChange Rows.expandOriginsSpec) :=
  OpenClaim.holds_of_wide 6 Try.f6 rfl rfl rfl rfl rfl rfl rfl ⟨rfl, rfl, rfl, rfl, rfl⟩ rfl rfl rfl rfl rfl (by kernel_rfl) Try.func6 (by kernel_rfl)
    (of_decide_eq_true (by kernel_rfl)) (by unfold Func.isWrapper; first | (rw [if_pos (by decide +kernel)]; kernel_rfl) | (rw [if_neg (by decide +kernel)]; exact ⟨rfl, rfl⟩))
    (fun os started H enc _ => lifted os started H enc)

/-- THE STATEMENT. -/
theorem proved : Rows.ExpandOriginsSaid := over
#print axioms proved
end Go.Proofs.Ytklkflfdianbpaa.expandOrigins
