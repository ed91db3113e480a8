/- PressLongest: called with any bytes, the law returns true; no condition. -/
import Derived.Test.YtmflnnfgkcmlhaaRows
import Derived.Test.YtmflnnfgkcmlhaaK16
import Derived.Test.YtmflnnfgkcmlhaaK12
import Derived.Test.YtmflnnfgkcmlhaaK1
import Derived.ProofKit
import Derived.OpenShut
import Derived.ShutString
import Derived.ChangeOld
namespace Go.Proofs.Ytmflnnfgkcmlhaa.pressLongest
open Go.ChangeShapes Go.WideShapes Go.ChangeAt Go.RowKit
open Go.ChangeMaps (open_string shut_string)
set_option linter.unusedVariables false

theorem own : ownKnob Try.prog.godebug = none := by kernel_rfl
theorem laidOut : laidOutB Try.prog = true := by kernel_rfl
open Cur Mem
attribute [local go_sem] Oper.semAt_some
set_option maxRecDepth 100000


theorem drop_cons {T : List Tk} {i : Nat} (h : i < T.length) : T.drop i = T.getD i tk0 :: T.drop (i + 1) := by
  rw [List.drop_eq_getElem_cons h, List.getD_eq_getElem?_getD, List.getElem?_eq_getElem h]
  rfl
/-- From token i on, at place a: behind a run or not. -/
def GI (z : List Int) (T : List Tk) (i a : Nat) (pr : Bool) : Prop := (∃ p, Gth z a pr (T.drop i) z.length p) ∧ (pr = false → 0 < i → trun (T.getD (i - 1) tk0).1.length (T.getD (i - 1) tk0).2.1 (T.getD (i - 1) tk0).2.2 = false)
theorem trun_gst {z : List Int} {a b : Nat} {pr : Bool} {t : Tk} (hz : z.length ≤ 1000) (h : Gst z a pr t b false) : trun t.1.length t.2.1 t.2.2 = false ∧ tcpy t.1.length t.2.1 t.2.2 = true := by
  rcases h with ⟨_, e, _⟩ | ⟨_, h1, h2, rfl, rfl⟩
  · cases e
  · obtain ⟨q, l, e1, e2, h3, h4, h5, h6, _⟩ := best_good h2
    unfold trun tcpy
    exact ⟨decide_eq_false (by simp only [List.length_nil]; omega), decide_eq_true (show 0 = 0 ∧ 1 ≤ bo z a ∧ bo z a ≤ 65536 ∧ 4 ≤ bn z a ∧ bn z a ≤ 1048576 from by omega)⟩


set_option maxHeartbeats 8000000 in
theorem walk {H : Type} (enc : TypeId × Value → H) (w : World) (base : Nat) (v0 : Value) (d0 : DataW H) (p0 : List MemPlace) (g0 : Value.okWide Try.prog w .any base 22 v0) (h0 : DataW.Trod enc Try.prog w 0 (fun _ => true) true 22 v0 d0 p0) :
    Calls Try.prog 6 #[v0] w fun e w' => e = .returned (.bool true) ∧ Below w.heap.size w w' := by
  obtain ⟨A, n, m, z, rfl, hnm, hz, hby, hA⟩ := open_bytes g0 h0
  clear g0 h0
  have hbd := Below.refl w.heap.size w
  by_cases h200 : 200 < n
  · clear hz hby hA
    go_enter Try.func6, Try.ntmps6
    go_wp2_with fail
    refine (live15_any _).mono ?_
    rintro e w15 ⟨rfl, hb15⟩
    replace hbd := hbd.trans (hb15.mono hbd.size)
    have HB := Lib.hid hbd
    clear hbd hb15
    go_wp2
    go_ret
    exact ⟨rfl, HB.out⟩
  · have hn : n ≤ 200 := by omega
    have hzl := hz.1
    have hT0 := ptokens_any (m := m) hz hby hnm (by omega)
    have HBY := Lib.hid hby
    have HZL : Hid (z.length = n) := Lib.hid hzl
    have HZ0 := Lib.hid hz
    clear hby h200 hzl hA hz
    go_enter Try.func6, Try.ntmps6
    go_wp2_with fail
    with_reducible refine hT0.mono ?_
    rintro e w1 ⟨v, T, p, rfl, hL, hp, hb1⟩
    obtain ⟨A1, c1, rfl⟩ := hL.slice
    obtain ⟨_, hc1, _, hT⟩ := hL.tks
    have hkl : T.length ≤ 200 := by have := gth_le hp; have := HZL.out; omega
    have HT := Lib.hid hT
    have HBD := Lib.hid hb1
    have HZ := Lib.hid (HZ0.out.below hb1)
    have HG0 : Hid (GI z T 0 0 false) := Lib.hid ⟨⟨p, hp⟩, fun _ h => absurd h (by omega)⟩
    clear hT0 hL hp hb1 hT hbd
    obtain ⟨k, hk⟩ : ∃ k, k = T.length := ⟨_, rfl⟩
    rw [← hk] at HT hkl hc1 ⊢
    have HK := Lib.hid hk
    clear hk
    go_wp2
    go_loopw [5, 6] (fun v5 v6 wr => ∃ (i a : Nat) (pr : Bool), i ≤ k ∧ v6 = .int .i64 (i : Int) ∧ v5 = .int .i64 (a : Int) ∧ Below w1.heap.size w1 wr ∧ Hid (GI z T i a pr)) (fun _ v6 _ => k - (intOf v6).toNat)
    case atStart => exact ⟨0, 0, false, by omega, rfl, rfl, Below.refl _ _, HG0⟩
    case round =>
      obtain ⟨i, a, pr, hi, rfl, rfl, hb, HG⟩ := hrel
      by_cases hlt : i < k
      · obtain ⟨⟨p, hp⟩, hprev⟩ := HG.out
        rw [drop_cons (by rw [← HK.out]; exact hlt)] at hp
        obtain ⟨b, pb, hst, hth⟩ := hp
        have hbl := gst_lt hst
        rw [HZL.out] at hbl
        obtain ⟨bb, o, Ar, Lr, Cr, rfl, hC0, hnil, hle⟩ := HT.out.2 i hlt
        have C : ∀ w', Below w1.heap.size w1 w' → w'.cell? ⟨bb, o + i * 3, none⟩ = some (.slice Ar Lr Cr) ∧ w'.cell? ⟨bb, o + i * 3 + 1, none⟩ = some (.int .i64 (T.getD i tk0).2.1) ∧ w'.cell? ⟨bb, o + i * 3 + 2, none⟩ = some (.int .i64 (T.getD i tk0).2.2) := fun w' h => by
          have := hC0.below h (Nat.le_refl _)
          exact ⟨this.1, this.2.1, this.2.2.1⟩
        have HC := Lib.hid C
        have hLr : (T.getD i tk0).1.length = Lr := hC0.2.2.2.1
        obtain ⟨c0, c1', c2⟩ := C _ hb
        clear C hnil HG
        cases pb
        · have hcp := trun_gst (by have := HZL.out; omega) hst
          rw [hLr] at hcp
          have HNX : Hid (GI z T (i + 1) b false) := Lib.hid ⟨⟨p, hth⟩, fun _ _ => by rw [Nat.add_sub_cancel]; exact (trun_gst (by have := HZL.out; omega) hst).1⟩
          rcases hst with ⟨_, e, _⟩ | ⟨_, h1, h2, ht, hbe⟩
          · cases e
          · obtain ⟨q, l, e1, e2, h3, h4, h5, h6, h7, h8⟩ := best_good h2
            simp only [ht, e1, e2] at HC hcp c1' c2
            have hbe' : b = a + l := by omega
            subst hbe'
            have hR := fun w' h => rbest_any (w := w') (m := m) a (HZ.out.below (w' := w') h) HBY.out hnm (by omega) (by omega)
            unfold RBestPost at hR
            simp only [e1, e2] at hR
            obtain ⟨O, hO⟩ : ∃ O : Int, O = (a : Int) - q := ⟨_, rfl⟩
            simp only [← hO] at HC hcp c1' c2 hR
            have ew : IntKind.i64.wrap ((a : Int) + l) = (a : Int) + l := IntWalk.i64_in _ (by omega)
            have HR := Lib.hid hR
            clear e1 e2 h7 h8 hO ht h2 hR hth hprev hC0 hLr hbe
            go_wp2_with fail
            with_reducible refine (rcopy_any Ar Lr Cr O (l : Int) _).mono ?_
            rintro e w2 ⟨rfl, hb2⟩
            rw [hcp.2]
            replace hb := hb.trans (hb2.mono hb.size)
            clear hb2 c0 c1' c2
            go_wp2_with fail
            with_reducible refine (HR.out _ hb).mono ?_
            rintro e w3 ⟨rfl, q3, rfl⟩
            have hb3 : Below w1.heap.size w1 (w2.drewN q3) := below_drewN hb q3
            clear hb
            generalize w2.drewN q3 = w3 at *
            obtain ⟨c0, c1', c2⟩ := HC.out _ hb3
            have n1 : (O != O) = false := by simp
            have n2 : ((l : Int) != (l : Int)) = false := by simp
            clear hcp
            go_wp2
            go_roundw
            case rel => exact ⟨i + 1, a + l, false, by omega, by congr 1, by congr 1, hb3, HNX⟩
            case measure => simp [intOf]; omega
        · have hcp : pr = false ∧ (T.getD i tk0) = (piece z a b, 0, 0) ∧ ∀ k : Nat, a ≤ k → k < b → bn z k = 0 := by
            rcases hst with ⟨h1, _, _, _, h5, h6⟩ | ⟨e, _⟩
            · exact ⟨h1, h5, h6⟩
            · cases e
          obtain ⟨rfl, ht, h0⟩ := hcp
          have hpl : (piece z a b).length = b - a := length_piece rfl (by rw [HZL.out]; omega)
          have hlit : Bs w1 Ar Lr (piece z a b) := by have := hC0.2.2.2; rwa [ht] at this
          simp only [ht] at HC c1' c2 hLr
          have hLr2 : Lr = b - a := by omega
          have HLR := Lib.hid hLr2
          have HNX : Hid (GI z T (i + 1) b true) := Lib.hid ⟨⟨p, hth⟩, fun h => (by cases h)⟩
          have HB0 := Lib.hid h0
          have HR := Lib.hid (fun w' h j (hj : j < n) => rbest_any (w := w') (m := m) j (HZ.out.below (w' := w') h) HBY.out hnm (by omega) hj)
          have hrun : trun Lr 0 0 = true := by unfold trun; exact decide_eq_true (by omega)
          have hcpy : tcpy Lr 0 0 = false := by unfold tcpy; exact decide_eq_false (by omega)
          have HLIT := Lib.hid hlit
          have HPL := Lib.hid hpl
          clear hth hC0 h0 hst hlit hpl ht hLr hLr2
          go_wp2_with fail
          with_reducible refine (rcopy_any Ar Lr Cr 0 0 _).mono ?_
          rintro e w2 ⟨rfl, hb2⟩
          rw [hcpy]
          replace hb := hb.trans (hb2.mono hb.size)
          clear hb2 c0 c1' c2 hcpy
          obtain ⟨c0, c1', c2⟩ := HC.out _ hb
          go_wp2_with fail
          with_reducible refine (rrun_any Ar Lr Cr 0 0 _).mono ?_
          rintro e w2 ⟨rfl, hb2⟩
          rw [hrun]
          replace hb := hb.trans (hb2.mono hb.size)
          clear hb2 c0 c1' c2 hrun
          obtain ⟨c0, c1', c2⟩ := HC.out _ hb
          clear c1' c2
          by_cases hi0 : i = 0
          · have hn0 : ¬ (0 : Int) < (i : Int) := by omega
            clear hprev hi0
            go_wp2
            go_loopw [5, 9] (fun v5 v9 wr => ∃ j : Nat, j ≤ Lr ∧ v9 = .int .i64 (j : Int) ∧ v5 = .int .i64 ((a + j : Nat) : Int) ∧ Below w1.heap.size w1 wr) (fun _ v9 _ => Lr - (intOf v9).toNat)
            case atStart => exact ⟨0, by omega, rfl, rfl, hb⟩
            case round =>
              clear hb c0
              obtain ⟨j, hj, rfl, rfl, hb⟩ := hrel
              obtain ⟨c0, _, _⟩ := HC.out _ hb
              obtain ⟨P, hP⟩ : ∃ P, P = a + j := ⟨_, rfl⟩
              rw [← hP]
              have HP := Lib.hid hP
              clear hP
              by_cases hjl : j < Lr
              · have hPn : P < n := by have := HP.out; have := HLR.out; omega
                have hR := HR.out _ hb P hPn
                unfold RBestPost at hR
                rw [HB0.out P (by have := HP.out; omega) (by have := HP.out; have := HLR.out; omega)] at hR
                obtain ⟨g3, o3, hAr, cl⟩ := HLIT.out.at_ hjl
                subst hAr
                obtain ⟨g4, o4, hA4, cz⟩ := HZ.out.at_ hPn
                subst hA4
                have hpe : (piece z a b).getD j 0 = z.getD P 0 := by
                  have h1 := HP.out
                  have h2 := HLR.out
                  unfold piece
                  rw [List.getD_eq_getElem?_getD, List.getElem?_take_of_lt (by omega), List.getElem?_drop, ← h1, ← List.getD_eq_getElem?_getD]
                rw [hpe] at cl
                have cb := fun w' h => (HC.out w' h).1
                have L : ∀ w', Below w1.heap.size w1 w' → w'.cell? ⟨bb, o + i * 3, none⟩ = some (.slice (some ⟨g3, o3, none⟩) Lr Cr) ∧ w'.cell? ⟨g3, o3 + j, none⟩ = some (.int .u8 (z.getD P 0)) ∧ w'.cell? ⟨g4, o4 + P, none⟩ = some (.int .u8 (z.getD P 0)) := fun w' h => ⟨cb w' h, (h.cell (lt_of_cell cl)).trans cl, (h.cell (lt_of_cell cz)).trans cz⟩
                generalize bo z (P : Int) = O at hR
                generalize z.getD P 0 = x at L cl cz
                have ew : IntKind.i64.wrap ((P : Int) + 1) = (P : Int) + 1 := IntWalk.i64_in _ (by omega)
                have ew2 : IntKind.i64.wrap ((j : Int) + 1) = (j : Int) + 1 := IntWalk.i64_in _ (by have := HLR.out; omega)
                have b1 : (j : Int) < Lr := by omega
                have b2 : (P : Int) < n := by omega
                have b3 : decide ((n : Int) ≤ (P : Int)) = false := decide_eq_false (by omega)
                have b4 : decide (n ≤ P) = false := decide_eq_false (by omega)
                have b5 : (x != x) = false := by simp
                have b6 : (i : Int) < k := by omega
                clear hpe cl cz cb
                go_wp2_with fail
                with_reducible refine hR.mono ?_
                rintro e w3 ⟨rfl, q3, hw3⟩
                have hb3 : Below w1.heap.size w1 w3 := by rw [hw3]; exact below_drewN hb q3
                clear hw3 hb c0 hR
                go_wp2_with fail
                refine Seq.wp_region_seq (fun w' => Below w1.heap.size w1 w') (by kernel_rfl) (by kernel_rfl) (hb3.trans ((below_one' _).mono hb3.size)) ?_
                have hb4 := hb3.trans ((below_one' _).mono hb3.size)
                repeat (first | (refine Seq.Seq.skip (by rfl) ?_; (try simp only [Act.put, List.setIfInBounds_toArray, List.set_cons_zero, List.set_cons_succ])) | (refine Seq.Seq.det ?_ (by rfl) (fun w hS => ?_) ?_; rotate_left; ((try dsimp only at hS); go_simp; (try rw [if_pos (by omega)]); with_reducible rfl); (try simp only [Act.put, List.setIfInBounds_toArray, List.set_cons_zero, List.set_cons_succ])))
                refine Seq.Seq.nil ?_
                have HB4 := Lib.hid hb4
                clear L hb3 hb4
                go_wp2_with fail
                go_roundw
                case rel => exact ⟨j + 1, by omega, by congr 1, by rw [show a + (j + 1) = P + 1 by have := HP.out; omega]; congr 1, HB4.out⟩
                case measure => simp [intOf]; omega
              · have hPb : P = b := by have := HP.out; have := HLR.out; omega
                rw [hPb]
                clear hPb
                have b6 : (i : Int) < k := by omega
                have ew2 : IntKind.i64.wrap ((i : Int) + 1) = (i : Int) + 1 := IntWalk.i64_in _ (by omega)
                obtain rfl : j = Lr := by omega
                have HBB := Lib.hid hb
                clear hb
                go_wp2
                go_roundw
                case rel => exact ⟨i + 1, b, true, by omega, by congr 1, rfl, HBB.out, HNX⟩
                case measure => simp [intOf]; omega
          · have hpv := hprev trivial (by omega)
            have hi1 : (0 : Int) < (i : Int) := by omega
            obtain ⟨i', hi'⟩ : ∃ i', i = i' + 1 := ⟨i - 1, by omega⟩
            have e1 : IntKind.i64.wrap ((i : Int) - 1) = (i' : Int) := by rw [show (i : Int) - 1 = i' by omega]; exact IntWalk.i64_in _ (by omega)
            have e2 : (i' : Int) < k := by omega
            rw [show i - 1 = i' by omega] at hpv
            obtain ⟨bb', o', Ar', Lr', Cr', hA1, hC', _, _⟩ := HT.out.2 i' (by omega)
            injection hA1 with hA1
            injection hA1 with hA1 hA2
            subst hA1 hA2
            have hLr' : (T.getD i' tk0).1.length = Lr' := hC'.2.2.2.1
            rw [hLr'] at hpv
            obtain ⟨k0, k1, k2, _⟩ := hC'.below hb (Nat.le_refl _)
            generalize (T.getD i' tk0).2.1 = of' at *
            generalize (T.getD i' tk0).2.2 = ln' at *
            clear hC' hLr' hprev hi' hi0
            go_wp2_with fail
            with_reducible refine (rrun_any Ar' Lr' Cr' of' ln' _).mono ?_
            rintro e w2 ⟨rfl, hb2⟩
            rw [hpv]
            replace hb := hb.trans (hb2.mono hb.size)
            clear hb2 k0 k1 k2 hpv c0 e1 e2
            obtain ⟨c0, c1', c2⟩ := HC.out _ hb
            clear c1' c2
            go_wp2
            go_loopw [5, 9] (fun v5 v9 wr => ∃ j : Nat, j ≤ Lr ∧ v9 = .int .i64 (j : Int) ∧ v5 = .int .i64 ((a + j : Nat) : Int) ∧ Below w1.heap.size w1 wr) (fun _ v9 _ => Lr - (intOf v9).toNat)
            case atStart => exact ⟨0, by omega, rfl, rfl, hb⟩
            case round =>
              clear hb c0
              obtain ⟨j, hj, rfl, rfl, hb⟩ := hrel
              obtain ⟨c0, _, _⟩ := HC.out _ hb
              obtain ⟨P, hP⟩ : ∃ P, P = a + j := ⟨_, rfl⟩
              rw [← hP]
              have HP := Lib.hid hP
              clear hP
              by_cases hjl : j < Lr
              · have hPn : P < n := by have := HP.out; have := HLR.out; omega
                have hR := HR.out _ hb P hPn
                unfold RBestPost at hR
                rw [HB0.out P (by have := HP.out; omega) (by have := HP.out; have := HLR.out; omega)] at hR
                obtain ⟨g3, o3, hAr, cl⟩ := HLIT.out.at_ hjl
                subst hAr
                obtain ⟨g4, o4, hA4, cz⟩ := HZ.out.at_ hPn
                subst hA4
                have hpe : (piece z a b).getD j 0 = z.getD P 0 := by
                  have h1 := HP.out
                  have h2 := HLR.out
                  unfold piece
                  rw [List.getD_eq_getElem?_getD, List.getElem?_take_of_lt (by omega), List.getElem?_drop, ← h1, ← List.getD_eq_getElem?_getD]
                rw [hpe] at cl
                have cb := fun w' h => (HC.out w' h).1
                have L : ∀ w', Below w1.heap.size w1 w' → w'.cell? ⟨bb, o + i * 3, none⟩ = some (.slice (some ⟨g3, o3, none⟩) Lr Cr) ∧ w'.cell? ⟨g3, o3 + j, none⟩ = some (.int .u8 (z.getD P 0)) ∧ w'.cell? ⟨g4, o4 + P, none⟩ = some (.int .u8 (z.getD P 0)) := fun w' h => ⟨cb w' h, (h.cell (lt_of_cell cl)).trans cl, (h.cell (lt_of_cell cz)).trans cz⟩
                generalize bo z (P : Int) = O at hR
                generalize z.getD P 0 = x at L cl cz
                have ew : IntKind.i64.wrap ((P : Int) + 1) = (P : Int) + 1 := IntWalk.i64_in _ (by omega)
                have ew2 : IntKind.i64.wrap ((j : Int) + 1) = (j : Int) + 1 := IntWalk.i64_in _ (by have := HLR.out; omega)
                have b1 : (j : Int) < Lr := by omega
                have b2 : (P : Int) < n := by omega
                have b3 : decide ((n : Int) ≤ (P : Int)) = false := decide_eq_false (by omega)
                have b4 : decide (n ≤ P) = false := decide_eq_false (by omega)
                have b5 : (x != x) = false := by simp
                have b6 : (i : Int) < k := by omega
                clear hpe cl cz cb
                go_wp2_with fail
                with_reducible refine hR.mono ?_
                rintro e w3 ⟨rfl, q3, hw3⟩
                have hb3 : Below w1.heap.size w1 w3 := by rw [hw3]; exact below_drewN hb q3
                clear hw3 hb c0 hR
                go_wp2_with fail
                refine Seq.wp_region_seq (fun w' => Below w1.heap.size w1 w') (by kernel_rfl) (by kernel_rfl) (hb3.trans ((below_one' _).mono hb3.size)) ?_
                have hb4 := hb3.trans ((below_one' _).mono hb3.size)
                repeat (first | (refine Seq.Seq.skip (by rfl) ?_; (try simp only [Act.put, List.setIfInBounds_toArray, List.set_cons_zero, List.set_cons_succ])) | (refine Seq.Seq.det ?_ (by rfl) (fun w hS => ?_) ?_; rotate_left; ((try dsimp only at hS); go_simp; (try rw [if_pos (by omega)]); with_reducible rfl); (try simp only [Act.put, List.setIfInBounds_toArray, List.set_cons_zero, List.set_cons_succ])))
                refine Seq.Seq.nil ?_
                have HB4 := Lib.hid hb4
                clear L hb3 hb4
                go_wp2_with fail
                go_roundw
                case rel => exact ⟨j + 1, by omega, by congr 1, by rw [show a + (j + 1) = P + 1 by have := HP.out; omega]; congr 1, HB4.out⟩
                case measure => simp [intOf]; omega
              · have hPb : P = b := by have := HP.out; have := HLR.out; omega
                rw [hPb]
                clear hPb
                have b6 : (i : Int) < k := by omega
                have ew2 : IntKind.i64.wrap ((i : Int) + 1) = (i : Int) + 1 := IntWalk.i64_in _ (by omega)
                obtain rfl : j = Lr := by omega
                have HBB := Lib.hid hb
                clear hb
                go_wp2
                go_roundw
                case rel => exact ⟨i + 1, b, true, by omega, by congr 1, rfl, HBB.out, HNX⟩
                case measure => simp [intOf]; omega
      · obtain rfl : i = k := by omega
        obtain ⟨⟨p, hp⟩, _⟩ := HG.out
        rw [List.drop_of_length_le (by rw [← HK.out]; exact Nat.le_refl _)] at hp
        have han : a = n := by rw [← HZL.out]; exact hp.1
        subst han
        have hbd := HBD.out.trans (hb.mono HBD.out.size)
        clear hb hp HG
        go_wp2_with fail
        refine (live15_any _).mono ?_
        rintro e w15 ⟨rfl, hb15⟩
        replace hbd := hbd.trans (hb15.mono hbd.size)
        have HB := Lib.hid hbd
        clear hbd hb15
        go_wp2
        go_ret
        exact ⟨rfl, HB.out⟩

set_option maxRecDepth 100000 in
theorem lifted (os : Os) (started : os.Started) (H : Type) (enc : TypeId × Value → H) :
    ReturnsInHanded {} Try.checked os 6 .any (Rows.pressLongestSpec.pre6 enc Try.prog Try.f6 Rows.pressLongestRow.domain false) (Rows.pressLongestSpec.post enc Try.prog Try.f6 false true false false) := by
  refine returnsInHanded_of_change (C := Try.checked) own started (by kernel_rfl) Try.func6
    (ChangeSpec.witness6 (enc := enc) (C := Try.checked) false ⟨#[], #[.slice none 0 0], []⟩ 8 (by kernel_rfl) (by kernel_rfl) (by kernel_rfl) (by kernel_rfl)) ?_
  intro W base args ds gs before hval0 hW hcnd _
  have hval : ∀ (j : Nat) t v, Try.f6.params[j]? = some t → args[j]? = some v → Value.okWide Try.prog W .any base t v := hval0
  have hW' := hW
  obtain ⟨p, q, hA0, hV, rfl, hfz, hnd⟩ := hW
  have hA : DataW.TrodAll enc Try.prog W 0 (fun _ => true) true Try.f6.params.toList args.toList ds p := hA0
  rw [Try.params6] at hA hval
  obtain ⟨v0, vs0, d0, ds0, p0, q0, hargs, rfl, rfl, h0, r0⟩ := trodAll_cons hA
  obtain ⟨rfl, rfl, rfl⟩ := trodAll_nil r0
  obtain rfl : args = #[v0] := by cases args; simp_all
  obtain ⟨rfl, rfl⟩ := trodVars_none hV
  have lt0 : ∀ x ∈ p0, x.block < W.heap.size := by obtain ⟨m, hm⟩ := h0; exact DataW.trod_lt m _ _ _ hm
  clear hA0 hval0
  refine (walk enc W base v0 d0 p0 (hval 0 22 v0 rfl rfl) h0).mono fun e W' ⟨he, bel⟩ => ?_
  subst he
  exact ⟨_, rfl, _, _, _, [], _, [], hW', trodAll_mk1 (shut_bool Try.underlying4 _), (trodAll_cons_mk (Below.trod laidOut (by kernel_rfl) (of_decide_eq_true (by kernel_rfl)) h0 bel lt0) trodAll_mk0), rfl, bel.frame _, fun h => by cases h⟩

theorem over : Rows.pressLongestRow.holds Try.pinned (OpenSpec.ofChange Rows.pressLongestSpec) :=
  OpenClaim.holds_of_wide 6 Try.f6 rfl rfl rfl rfl rfl rfl rfl ⟨rfl, rfl, rfl, rfl, rfl⟩ rfl rfl rfl rfl rfl (by kernel_rfl) Try.func6 (by kernel_rfl)
    (of_decide_eq_true (by kernel_rfl)) (by unfold Func.isWrapper; first | (rw [if_pos (by decide +kernel)]; kernel_rfl) | (rw [if_neg (by decide +kernel)]; exact ⟨rfl, rfl⟩))
    (fun os started H enc _ => lifted os started H enc)

/-- THE STATEMENT. -/
theorem proved : Rows.PressLongestSaid := over
#print axioms proved
end Go.Proofs.Ytmflnnfgkcmlhaa.pressLongest
