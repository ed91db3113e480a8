/- FrameScans: called with any bytes and any two ints, the law returns true; condition: crc's two tables read as the program's text lays them, to which the card ties them. -/
import Derived.Test.YtncomjeidlahlaaDoorRows
import Derived.Test.YtncomjeidlahlaaDoorFrmY
import Derived.Test.YtncomjeidlahlaaDoorCrcT
import Derived.Test.YtncomjeidlahlaaDoorK1
import Derived.ProofKit
import Derived.OpenShut
import Derived.ShutString
import Derived.ChangeOld
import Derived.Test.YtncomjeidlahlaaDoorCards
import Derived.Test.YtncomjeidlahlaaDoorTie
import Derived.LaidMore
import Derived.Stop.Joined
import Derived.Deep.Slices
import Derived.SevenTiedAt
namespace Go.Proofs.YtncomjeidlahlaaDoor.frameScans
open Go.ChangeShapes Go.WideShapes Go.ChangeAt Go.RowKit
open Go.ChangeMaps (open_string shut_string)
set_option linter.unusedVariables false

theorem own : ownKnob Tryd.prog.godebug = none := by kernel_rfl
theorem laidOut : laidOutB Tryd.prog = true := by kernel_rfl
open Cur Mem CrcM


theorem nxo_drop (z : List Int) (lim : Int) (F : Nat) : ∀ (k p : Nat), nxo z lim k (F + p) = (nxo (z.drop F) lim k p).map (F + ·)
  | 0, p => rfl
  | k + 1, p => by
    unfold nxo
    rw [List.drop_drop]
    split
    · rfl
    · exact nxo_drop z lim F k (p + 1)
theorem nx_drop (z : List Int) (lim : Int) {F : Nat} : nx z lim F = (nx (z.drop F) lim 0).map (F + ·) := by
  have := nxo_drop z lim F (z.length - F) 0
  unfold nx
  rw [List.length_drop]
  exact this
/-- Both answers to where the next one begins. -/
theorem both_next (z : List Int) (lim : Int) {F F' : Nat} (hF : F = min F' z.length) : (∃ q : Nat, nvN z lim F = .tuple #[.int .i64 (q : Int), .bool true] ∧ rn z lim F' = q) ∨ (nvN z lim F = .tuple #[.int .i64 0, .bool false] ∧ rn z lim F' = -1) := by
  rcases Nat.lt_or_ge F' z.length with h | h
  · obtain rfl : F = F' := by omega
    unfold nvN rn
    rw [nx_drop z lim (F := F)]
    cases nx (z.drop F) lim 0 with
    | none => exact .inr ⟨rfl, rfl⟩
    | some q => exact .inl ⟨F + q, by push_cast; rfl, rfl⟩
  · have hz : z.drop F = [] := List.drop_eq_nil_of_le (by omega)
    unfold nvN rn
    rw [hz, nx_end (z := []) (p := 0) (by simp), nx_end h]
    exact .inr ⟨rfl, rfl⟩

theorem pth_at {z : List Int} {lim : Int} {L : List Int} {P pe j : Nat} (hby : ∀ x ∈ z, 0 ≤ x ∧ x < 256) (h : Pth z lim P (L.drop j) pe) (hj : j < L.length) : ∃ q s : Nat, L[j]? = some (q : Int) ∧ rn z lim P = q ∧ (fr (z.drop q) lim 0).2.2.1 = 0 ∧ (fr (z.drop q) lim 0).2.1 = s ∧ q + s ≤ z.length ∧ Pth z lim (q + s) (L.drop (j + 1)) pe := by
  rw [List.drop_eq_getElem_cons hj] at h
  obtain ⟨q, s, h1, h2, h3, h4⟩ := h
  obtain ⟨s', e, _, h5⟩ := nx_bd hby h1
  rw [e] at h3
  obtain rfl : s' = s := by omega
  have hf := nx_fao h1
  have h0 : (fr (z.drop q) lim 0).2.2.1 = 0 := of_decide_eq_true hf
  refine ⟨q, s', by rw [List.getElem?_eq_getElem hj, h2], by unfold rn; rw [h1], h0, ?_, h5, h4⟩
  unfold fas at e
  rw [if_pos h0] at e
  exact e


set_option maxRecDepth 100000 in
set_option maxHeartbeats 4000000 in
theorem walk {H : Type} (enc : TypeId × Value → H) (w : World) (hT : Tbs w) (base : Nat) (v0 : Value) (d0 : DataW H) (p0 : List MemPlace) (g0 : Value.okWide Tryd.prog w .any base 22 v0) (h0 : DataW.Trod enc Tryd.prog w 0 (fun _ => true) true 22 v0 d0 p0) (v1 : Value) (d1 : DataW H) (p1 : List MemPlace) (g1 : Value.okWide Tryd.prog w .any base 3 v1) (h1 : DataW.Trod enc Tryd.prog w 0 (fun _ => true) true 3 v1 d1 p1) (v2 : Value) (d2 : DataW H) (p2 : List MemPlace) (g2 : Value.okWide Tryd.prog w .any base 3 v2) (h2 : DataW.Trod enc Tryd.prog w 0 (fun _ => true) true 3 v2 d2 p2) :
    Calls Tryd.prog 7 #[v0, v1, v2] w fun e w' => e = .returned (.bool true) ∧ Below w.heap.size w w' := by
  obtain ⟨A, n, m, z, rfl, hnm, hz, hby, hnil⟩ := open_bytes g0 h0
  obtain ⟨f, rfl, f0, f1⟩ := open_i64 g1 h1
  obtain ⟨mo, rfl, mo0, mo1⟩ := open_i64 g2 h2
  clear g0 h0 g1 h1 g2 h2 mo0 mo1 f0
  by_cases hn : 300 < (n : Int)
  · go_enter Tryd.func7, Tryd.ntmps7
    go_wp2_with fail
    refine (live8_any _ hT).mono ?_
    rintro e w1 ⟨rfl, hb⟩
    go_wp2
    go_ret
    exact ⟨rfl, hb⟩
  · obtain ⟨F', hF'⟩ : ∃ F' : Nat, max f 0 = (F' : Int) := ⟨(max f 0).toNat, by omega⟩
    have HBY := Lib.hid hby
    have HT := Lib.hid hT
    have HZ := Lib.hid hz
    have HZL := Lib.hid hz.1
    have HNIL := Lib.hid hnil
    have c1 := fnext_any f mo (min F' n) hz hby hT hnm (by omega) (by rw [hF']; omega)
    have c2 := fun (w : World) (hz : Bs w A n z) => rnext_any f mo F' hz hby hnil hnm (by omega) hF' (by omega)
    have c3 := fun (w : World) (hz : Bs w A n z) (hT : Tbs w) => fscan_any mo hz hby hT hnm (by omega)
    have c4 := fun (w : World) (hz : Bs w A n z) (P : Nat) (hP : P ≤ n) => rnext_any (P : Int) mo P hz hby hnil hnm (by omega) (by omega) (by omega)
    have HR := fun (a : Option Addr) (n m : Nat) (z : List Int) (w : World) (hz : Bs w a n z) (ha : a = none → m = 0) (hm : n ≤ m) (hn : n ≤ 1000000) (hby : ∀ x ∈ z, 0 ≤ x ∧ x < 256) => rfread_any a n m z 0 0 0 mo w hz ha (Int.le_refl 0) (by omega) hm hn hby
    have HBN := Lib.hid (both_next z (min mo 2097152) (F := min F' n) (F' := F') (by rw [hz.1]))
    generalize min mo 2097152 = lim at *
    generalize nvN z lim (min F' n) = v1 at *
    have C2 := Lib.hid c2
    have C3 := Lib.hid c3
    have C4 := Lib.hid c4
    have HRR := Lib.hid HR
    clear hby hz hT hnil c2 c3 c4 HR hF'
    go_enter Tryd.func7, Tryd.ntmps7
    go_wp2_with fail
    with_reducible refine c1.mono ?_
    rintro e w1 ⟨rfl, hb1⟩
    have c2 := C2.out _ (HZ.out.below hb1)
    have c3 : ∀ w', Below w.heap.size w w' → _ := fun w' h => C3.out w' (HZ.out.below h) (HT.out.below h)
    clear c1
    rcases HBN.out with ⟨q0, rfl, hr⟩ | ⟨rfl, hr⟩
    · rw [hr] at c2
      have e0 : (0 : Int) ≤ q0 := by omega
      have e1 : max (q0 : Int) 0 = q0 := by omega
      clear hr HBN
      go_wp2_with fail
      with_reducible refine c2.mono ?_
      rintro e w2 ⟨rfl, hb2⟩
      have hbd2 := hb1.trans (hb2.mono hb1.size)
      have c3' := c3 w2 hbd2
      clear c2 hb1 hb2 c3
      go_wp2_with fail
      with_reducible refine c3'.mono ?_
      rintro e w3 ⟨v, L, pe, rfl, ho, hb3, hp, hpe⟩
      have hbd3 := hbd2.trans (hb3.mono hbd2.size)
      have hLn : (L.length : Int) ≤ 300 := by
        have := Pth.len HBY.out hp
        rw [HZL.out] at this
        omega
      obtain ⟨A1, cap1, rfl, _⟩ := own_slice ho
      obtain ⟨_, _, _, hrw⟩ := own_rw ho rfl
      have HRW := Lib.hid hrw
      have HP := Lib.hid hp
      have HPE : Hid (rn z lim pe = -1) := Lib.hid (by unfold rn; rw [hpe])
      have HB3 := Lib.hid hbd3
      clear c3' hbd2 hb3 hp hpe ho hrw hbd3
      go_wp2
      go_loopw [11, 12] (fun v11 v12 wr => ∃ (j P : Nat), j ≤ L.length ∧ P ≤ n ∧ v12 = .int .i64 j ∧ v11 = .int .i64 P ∧ Below w3.heap.size w3 wr ∧ Hid (Pth z lim P (L.drop j) pe)) (fun _ v12 _ => L.length - (intOf v12).toNat)
      case atStart => exact ⟨0, 0, Nat.zero_le _, Nat.zero_le _, rfl, rfl, Below.refl _ _, HP⟩
      case round =>
        obtain ⟨j, P, hj, hP, rfl, rfl, hb, HPJ⟩ := hrel
        have hbw := HB3.out.trans (hb.mono HB3.out.size)
        by_cases hlt : j < L.length
        · obtain ⟨q, s, hL, hrn, hf0, hfs, hqs, hnext⟩ := pth_at HBY.out HPJ.out hlt
          rw [HZL.out] at hqs
          have hcn : ∀ w', Below w3.heap.size w3 w' → _ := fun w' h => C4.out w' (HZ.out.below (HB3.out.trans (h.mono HB3.out.size))) P hP
          rw [hrn] at hcn
          have hvi : (iv L)[j]? = some (.int .i64 (q : Int)) := by unfold iv; rw [List.getElem?_map, hL]; rfl
          obtain ⟨g1, o1, rfl, hc1⟩ := Rw.at_ HRW.out hvi
          have C1 : ∀ w', Below w3.heap.size w3 w' → w'.cell? ⟨g1, o1 + j, none⟩ = some (.int .i64 (q : Int)) := fun w' h => (h.cell (lt_of_cell hc1)).trans hc1
          have hb1j := C1 _ hb
          have HNX := Lib.hid hnext
          have HF := Lib.hid (And.intro hf0 hfs)
          have HBW := Lib.hid hbw
          clear hc1 hL hrn hnext hf0 hfs hvi hbw
          have HCN := Lib.hid hcn
          have hji : (j : Int) < L.length := by omega
          have hji0 : (0 : Int) ≤ j := by omega
          have e2 : Hid (IntKind.i64.wrap ((q : Int) + s) = ((q + s : Nat) : Int)) := Lib.hid (by rw [IntWalk.i64_in _ (by omega)]; push_cast; rfl)
          clear hcn hj hP
          go_wp2
          have hS := hb.drew
          refine Seq.wp_region_seq (fun w' => Below w3.heap.size w3 w') (by kernel_rfl) (by kernel_rfl) hS ?_
          clear hb hb1j HBW
          generalize wr.drew = wd at *
          repeat (first | (refine Seq.Seq.skip (by rfl) ?_; (try simp only [Act.put, List.setIfInBounds_toArray, List.set_cons_zero, List.set_cons_succ])) | (refine Seq.Seq.det ?_ (by rfl) (fun w hS => ?_) ?_; rotate_left; ((try dsimp only at hS); go_simp; (try rw [if_pos (by omega)]); with_reducible rfl); (try simp only [Act.put, List.setIfInBounds_toArray, List.set_cons_zero, List.set_cons_succ])))
          refine Seq.Seq.make (by rfl) (by rfl) (fun K Q' hK => ?_)
          go_simp
          go_at_call 30
          refine (HCN.out _ hS).mono ?_
          rintro e w4 ⟨rfl, hb4⟩
          have hS4 := hS.trans (hb4.mono hS.size)
          refine hK.out _ _ (hS4) ?_
          clear hK K
          try simp only [Act.put, List.setIfInBounds_toArray, List.set_cons_zero, List.set_cons_succ]
          repeat (first | (refine Seq.Seq.skip (by rfl) ?_; (try simp only [Act.put, List.setIfInBounds_toArray, List.set_cons_zero, List.set_cons_succ])) | (refine Seq.Seq.det ?_ (by rfl) (fun w hS => ?_) ?_; rotate_left; ((try dsimp only at hS); go_simp; (try rw [if_pos (by omega)]); with_reducible rfl); (try simp only [Act.put, List.setIfInBounds_toArray, List.set_cons_zero, List.set_cons_succ])))
          refine Seq.Seq.nil ?_
          clear hS hb4
          have hbw4 := HB3.out.trans (hS4.mono HB3.out.size)
          obtain ⟨A', M, hsl, hbs, hM, hAM⟩ := slice_l2 HZ.out m (q : Int) (by omega) (by omega) hnm HNIL.out
          rw [Int.toNat_natCast] at hbs
          have hcall := HRR.out A' ((n : Int) - q).toNat M (z.drop q) w4 (hbs.below hbw4) hAM hM (by omega) (fun x hx => HBY.out x (List.mem_of_mem_drop hx))
          have hb4j := C1 _ hS4
          have HS4 := Lib.hid hS4
          clear hbs hbw4 hS4
          generalize ((n : Int) - q).toNat = n' at *
          go_wp2_with fail
          with_reducible refine hcall.mono ?_
          rintro e w5 ⟨A2, k2, m2, l, p', c', q', rfl, hb5, hst, _, _⟩
          obtain rfl : c' = 0 := hst.code0.1.2 HF.out.1
          obtain rfl : p' = (s : Int) := (hst.code0.2 rfl).trans HF.out.2
          have hbd5 := HS4.out.trans (hb5.mono HS4.out.size)
          have hbA := hbd5.alloc hbd5.size (.cells #[.slice A' n' M, .int .i64 s, .int .i64 0, .int .i64 q'] 44)
          have hX := Blk.new w5 #[.slice A' n' M, .int .i64 s, .int .i64 0, .int .i64 q'] 44
          clear hb4j hcall hb5 hst hbd5 hsl
          go_wp2
          generalize w5.alloc (.cells #[.slice A' n' M, .int .i64 s, .int .i64 0, .int .i64 q'] 44) = w6 at *
          generalize w5.heap.size = cb at *
          have L6 : ∀ w', (Below w3.heap.size w3 w' ∧ Blk w' cb #[.slice A' n' M, .int .i64 s, .int .i64 0, .int .i64 q'] 44) → w'.cell? ⟨cb, 1, none⟩ = some (.int .i64 s) ∧ w'.cell? ⟨g1, o1 + j, none⟩ = some (.int .i64 (q : Int)) := fun w' h => ⟨h.2.c4.2.1, C1 _ h.1⟩
          have hS : Below w3.heap.size w3 w6.drew ∧ Blk w6.drew cb #[.slice A' n' M, .int .i64 s, .int .i64 0, .int .i64 q'] 44 := ⟨hbA.drew, hX.drew⟩
          refine Seq.wp_region_seq (fun w' => Below w3.heap.size w3 w' ∧ Blk w' cb #[.slice A' n' M, .int .i64 s, .int .i64 0, .int .i64 q'] 44) (by kernel_rfl) (by kernel_rfl) hS ?_
          have HSB := Lib.hid hS.1
          clear C1 hbA hX
          repeat (first | (refine Seq.Seq.skip (by rfl) ?_; (try simp only [Act.put, List.setIfInBounds_toArray, List.set_cons_zero, List.set_cons_succ])) | (refine Seq.Seq.det ?_ (by rfl) (fun w hS => ?_) ?_; rotate_left; ((try dsimp only at hS); go_simp; (try rw [if_pos (by omega)]); with_reducible rfl); (try simp only [Act.put, List.setIfInBounds_toArray, List.set_cons_zero, List.set_cons_succ])))
          refine Seq.Seq.nil ?_
          clear hS L6
          go_wp2
          go_roundw
          case rel => exact ⟨j + 1, q + s, by omega, by omega, by go_num, by rw [e2.out], HSB.out, HNX.out⟩
          case measure => simp [intOf]; omega
        · obtain rfl : j = L.length := by omega
          rw [List.drop_length] at HPJ
          obtain rfl : pe = P := HPJ.out
          have hcn := C4.out wr (HZ.out.below hbw) pe hP
          rw [HPE.out] at hcn
          have HBW := Lib.hid hbw
          clear hb hbw
          go_wp2_with fail
          with_reducible refine hcn.mono ?_
          rintro e w4 ⟨rfl, hb4⟩
          have hbd4 := HBW.out.trans (hb4.mono HBW.out.size)
          clear hcn hb4
          go_wp2_with fail
          refine (live8_any _ (HT.out.below hbd4)).mono ?_
          rintro e w5 ⟨rfl, hb5⟩
          have HB5 := Lib.hid (hbd4.trans (hb5.mono hbd4.size))
          go_wp2
          go_ret
          exact ⟨rfl, HB5.out⟩
    · rw [hr] at c2
      clear hr HBN
      go_wp2_with fail
      with_reducible refine c2.mono ?_
      rintro e w2 ⟨rfl, hb2⟩
      have hbd2 := hb1.trans (hb2.mono hb1.size)
      have c3' := c3 w2 hbd2
      clear c2 hb1 hb2 c3
      go_wp2_with fail
      with_reducible refine c3'.mono ?_
      rintro e w3 ⟨v, L, pe, rfl, ho, hb3, hp, hpe⟩
      have hbd3 := hbd2.trans (hb3.mono hbd2.size)
      have hLn : (L.length : Int) ≤ 300 := by
        have := Pth.len HBY.out hp
        rw [HZL.out] at this
        omega
      obtain ⟨A1, cap1, rfl, _⟩ := own_slice ho
      obtain ⟨_, _, _, hrw⟩ := own_rw ho rfl
      have HRW := Lib.hid hrw
      have HP := Lib.hid hp
      have HPE : Hid (rn z lim pe = -1) := Lib.hid (by unfold rn; rw [hpe])
      have HB3 := Lib.hid hbd3
      clear c3' hbd2 hb3 hp hpe ho hrw hbd3
      go_wp2
      go_loopw [11, 12] (fun v11 v12 wr => ∃ (j P : Nat), j ≤ L.length ∧ P ≤ n ∧ v12 = .int .i64 j ∧ v11 = .int .i64 P ∧ Below w3.heap.size w3 wr ∧ Hid (Pth z lim P (L.drop j) pe)) (fun _ v12 _ => L.length - (intOf v12).toNat)
      case atStart => exact ⟨0, 0, Nat.zero_le _, Nat.zero_le _, rfl, rfl, Below.refl _ _, HP⟩
      case round =>
        obtain ⟨j, P, hj, hP, rfl, rfl, hb, HPJ⟩ := hrel
        have hbw := HB3.out.trans (hb.mono HB3.out.size)
        by_cases hlt : j < L.length
        · obtain ⟨q, s, hL, hrn, hf0, hfs, hqs, hnext⟩ := pth_at HBY.out HPJ.out hlt
          rw [HZL.out] at hqs
          have hcn : ∀ w', Below w3.heap.size w3 w' → _ := fun w' h => C4.out w' (HZ.out.below (HB3.out.trans (h.mono HB3.out.size))) P hP
          rw [hrn] at hcn
          have hvi : (iv L)[j]? = some (.int .i64 (q : Int)) := by unfold iv; rw [List.getElem?_map, hL]; rfl
          obtain ⟨g1, o1, rfl, hc1⟩ := Rw.at_ HRW.out hvi
          have C1 : ∀ w', Below w3.heap.size w3 w' → w'.cell? ⟨g1, o1 + j, none⟩ = some (.int .i64 (q : Int)) := fun w' h => (h.cell (lt_of_cell hc1)).trans hc1
          have hb1j := C1 _ hb
          have HNX := Lib.hid hnext
          have HF := Lib.hid (And.intro hf0 hfs)
          have HBW := Lib.hid hbw
          clear hc1 hL hrn hnext hf0 hfs hvi hbw
          have HCN := Lib.hid hcn
          have hji : (j : Int) < L.length := by omega
          have hji0 : (0 : Int) ≤ j := by omega
          have e2 : Hid (IntKind.i64.wrap ((q : Int) + s) = ((q + s : Nat) : Int)) := Lib.hid (by rw [IntWalk.i64_in _ (by omega)]; push_cast; rfl)
          clear hcn hj hP
          go_wp2
          have hS := hb.drew
          refine Seq.wp_region_seq (fun w' => Below w3.heap.size w3 w') (by kernel_rfl) (by kernel_rfl) hS ?_
          clear hb hb1j HBW
          generalize wr.drew = wd at *
          repeat (first | (refine Seq.Seq.skip (by rfl) ?_; (try simp only [Act.put, List.setIfInBounds_toArray, List.set_cons_zero, List.set_cons_succ])) | (refine Seq.Seq.det ?_ (by rfl) (fun w hS => ?_) ?_; rotate_left; ((try dsimp only at hS); go_simp; (try rw [if_pos (by omega)]); with_reducible rfl); (try simp only [Act.put, List.setIfInBounds_toArray, List.set_cons_zero, List.set_cons_succ])))
          refine Seq.Seq.make (by rfl) (by rfl) (fun K Q' hK => ?_)
          go_simp
          go_at_call 30
          refine (HCN.out _ hS).mono ?_
          rintro e w4 ⟨rfl, hb4⟩
          have hS4 := hS.trans (hb4.mono hS.size)
          refine hK.out _ _ (hS4) ?_
          clear hK K
          try simp only [Act.put, List.setIfInBounds_toArray, List.set_cons_zero, List.set_cons_succ]
          repeat (first | (refine Seq.Seq.skip (by rfl) ?_; (try simp only [Act.put, List.setIfInBounds_toArray, List.set_cons_zero, List.set_cons_succ])) | (refine Seq.Seq.det ?_ (by rfl) (fun w hS => ?_) ?_; rotate_left; ((try dsimp only at hS); go_simp; (try rw [if_pos (by omega)]); with_reducible rfl); (try simp only [Act.put, List.setIfInBounds_toArray, List.set_cons_zero, List.set_cons_succ])))
          refine Seq.Seq.nil ?_
          clear hS hb4
          have hbw4 := HB3.out.trans (hS4.mono HB3.out.size)
          obtain ⟨A', M, hsl, hbs, hM, hAM⟩ := slice_l2 HZ.out m (q : Int) (by omega) (by omega) hnm HNIL.out
          rw [Int.toNat_natCast] at hbs
          have hcall := HRR.out A' ((n : Int) - q).toNat M (z.drop q) w4 (hbs.below hbw4) hAM hM (by omega) (fun x hx => HBY.out x (List.mem_of_mem_drop hx))
          have hb4j := C1 _ hS4
          have HS4 := Lib.hid hS4
          clear hbs hbw4 hS4
          generalize ((n : Int) - q).toNat = n' at *
          go_wp2_with fail
          with_reducible refine hcall.mono ?_
          rintro e w5 ⟨A2, k2, m2, l, p', c', q', rfl, hb5, hst, _, _⟩
          obtain rfl : c' = 0 := hst.code0.1.2 HF.out.1
          obtain rfl : p' = (s : Int) := (hst.code0.2 rfl).trans HF.out.2
          have hbd5 := HS4.out.trans (hb5.mono HS4.out.size)
          have hbA := hbd5.alloc hbd5.size (.cells #[.slice A' n' M, .int .i64 s, .int .i64 0, .int .i64 q'] 44)
          have hX := Blk.new w5 #[.slice A' n' M, .int .i64 s, .int .i64 0, .int .i64 q'] 44
          clear hb4j hcall hb5 hst hbd5 hsl
          go_wp2
          generalize w5.alloc (.cells #[.slice A' n' M, .int .i64 s, .int .i64 0, .int .i64 q'] 44) = w6 at *
          generalize w5.heap.size = cb at *
          have L6 : ∀ w', (Below w3.heap.size w3 w' ∧ Blk w' cb #[.slice A' n' M, .int .i64 s, .int .i64 0, .int .i64 q'] 44) → w'.cell? ⟨cb, 1, none⟩ = some (.int .i64 s) ∧ w'.cell? ⟨g1, o1 + j, none⟩ = some (.int .i64 (q : Int)) := fun w' h => ⟨h.2.c4.2.1, C1 _ h.1⟩
          have hS : Below w3.heap.size w3 w6.drew ∧ Blk w6.drew cb #[.slice A' n' M, .int .i64 s, .int .i64 0, .int .i64 q'] 44 := ⟨hbA.drew, hX.drew⟩
          refine Seq.wp_region_seq (fun w' => Below w3.heap.size w3 w' ∧ Blk w' cb #[.slice A' n' M, .int .i64 s, .int .i64 0, .int .i64 q'] 44) (by kernel_rfl) (by kernel_rfl) hS ?_
          have HSB := Lib.hid hS.1
          clear C1 hbA hX
          repeat (first | (refine Seq.Seq.skip (by rfl) ?_; (try simp only [Act.put, List.setIfInBounds_toArray, List.set_cons_zero, List.set_cons_succ])) | (refine Seq.Seq.det ?_ (by rfl) (fun w hS => ?_) ?_; rotate_left; ((try dsimp only at hS); go_simp; (try rw [if_pos (by omega)]); with_reducible rfl); (try simp only [Act.put, List.setIfInBounds_toArray, List.set_cons_zero, List.set_cons_succ])))
          refine Seq.Seq.nil ?_
          clear hS L6
          go_wp2
          go_roundw
          case rel => exact ⟨j + 1, q + s, by omega, by omega, by go_num, by rw [e2.out], HSB.out, HNX.out⟩
          case measure => simp [intOf]; omega
        · obtain rfl : j = L.length := by omega
          rw [List.drop_length] at HPJ
          obtain rfl : pe = P := HPJ.out
          have hcn := C4.out wr (HZ.out.below hbw) pe hP
          rw [HPE.out] at hcn
          have HBW := Lib.hid hbw
          clear hb hbw
          go_wp2_with fail
          with_reducible refine hcn.mono ?_
          rintro e w4 ⟨rfl, hb4⟩
          have hbd4 := HBW.out.trans (hb4.mono HBW.out.size)
          clear hcn hb4
          go_wp2_with fail
          refine (live8_any _ (HT.out.below hbd4)).mono ?_
          rintro e w5 ⟨rfl, hb5⟩
          have HB5 := Lib.hid (hbd4.trans (hb5.mono hbd4.size))
          go_wp2
          go_ret
          exact ⟨rfl, HB5.out⟩

theorem tabs_of {W : World} (h : laidMetH Tryd.prog Rows.frameScansRow.laid W) : Tbs W := by
  rw [MakeChecks.laidMetH_plain _ _ _ (by kernel_rfl)] at h
  exact tbs_of_laid h
theorem door_met (os : Os) (args : Array Value) : laidMetH Tryd.prog Rows.frameScansRow.laid ((World.doorLaid Tryd.prog 4000 os).forCall (fun _ _ => 0) ⟨#[], args, []⟩).memory :=
  laidMetH_of_parts3 (fuel := 8) (laidMet_of_run' 8 (by kernel_rfl) (by kernel_rfl)) (by kernel_rfl) (by kernel_rfl)
set_option maxRecDepth 100000 in
theorem lifted (os : Os) (started : os.Started) (H : Type) (enc : TypeId × Value → H) :
    ReturnsInHanded {} Tryd.checked os 7 .any (fun w args => (Rows.frameScansSpec.pre enc Tryd.prog Tryd.f7 [] false w args ∧ laidMetH Tryd.prog Rows.frameScansRow.laid w) ∧ sizedMet enc Tryd.prog Tryd.f7 (OpenSpec.ofChange Rows.frameScansSpec) false w args)
      (Rows.frameScansSpec.post enc Tryd.prog Tryd.f7 false true false false) := by
  refine returnsInHanded_of_change_and (C := Tryd.checked) (X := fun w _ => laidMetH Tryd.prog Rows.frameScansRow.laid w) (fun _ _ _ hh h => h.of_heap hh) own started (by kernel_rfl) Tryd.func7
    (ChangeSpec.witness_shaped (enc := enc) (C := Tryd.checked) (os := os) (X := fun w _ => laidMetH Tryd.prog Rows.frameScansRow.laid w) false (World.doorLaid Tryd.prog 4000 os) #[.slice none 0 0, .int .i64 0, .int .i64 0] 8 rfl (World.shaped_of_RefB (by kernel_rfl) (by kernel_rfl)) (by kernel_rfl) (by kernel_rfl) (by kernel_rfl) (door_met os _)) ?_
  intro W base args ds gs before hval0 hW _ _ hL _
  have hval : ∀ (j : Nat) t v, Tryd.f7.params[j]? = some t → args[j]? = some v → Value.okWide Tryd.prog W .any base t v := hval0
  have hW' := hW
  obtain ⟨p, q, hA0, hV, rfl, hfz, hnd⟩ := hW
  have hA : DataW.TrodAll enc Tryd.prog W 0 (fun _ => true) true Tryd.f7.params.toList args.toList ds p := hA0
  rw [Tryd.params7] at hA hval
  obtain ⟨v0, vs0, d0, ds0, p0, q0, hargs, rfl, rfl, h0, r0⟩ := trodAll_cons hA
  obtain ⟨v1, vs1, d1, ds1, p1, q1, rfl, rfl, rfl, h1, r1⟩ := trodAll_cons r0
  obtain ⟨v2, vs2, d2, ds2, p2, q2, rfl, rfl, rfl, h2, r2⟩ := trodAll_cons r1
  obtain ⟨rfl, rfl, rfl⟩ := trodAll_nil r2
  obtain rfl : args = #[v0, v1, v2] := by cases args; simp_all
  obtain ⟨rfl, rfl⟩ := trodVars_none hV
  have lt0 : ∀ x ∈ p0, x.block < W.heap.size := by obtain ⟨m, hm⟩ := h0; exact DataW.trod_lt m _ _ _ hm
  have lt1 : ∀ x ∈ p1, x.block < W.heap.size := by obtain ⟨m, hm⟩ := h1; exact DataW.trod_lt m _ _ _ hm
  have lt2 : ∀ x ∈ p2, x.block < W.heap.size := by obtain ⟨m, hm⟩ := h2; exact DataW.trod_lt m _ _ _ hm
  clear hA0 hval0
  refine (walk enc W (tabs_of hL) base v0 d0 p0 (hval 0 22 v0 rfl rfl) h0 v1 d1 p1 (hval 1 3 v1 rfl rfl) h1 v2 d2 p2 (hval 2 3 v2 rfl rfl) h2).mono fun e W' ⟨he, bel⟩ => ?_
  subst he
  exact ⟨_, rfl, _, _, _, [], _, [], hW', trodAll_mk1 (shut_bool Tryd.underlying4 _), (trodAll_cons_mk (Below.trod laidOut (by kernel_rfl) (of_decide_eq_true (by kernel_rfl)) h0 bel lt0) (trodAll_cons_mk (Below.trod laidOut (by kernel_rfl) (of_decide_eq_true (by kernel_rfl)) h1 bel lt1) (trodAll_cons_mk (Below.trod laidOut (by kernel_rfl) (of_decide_eq_true (by kernel_rfl)) h2 bel lt2) trodAll_mk0))), rfl, bel.frame _, fun h => by cases h⟩

theorem over : Rows.FrameScansSaid :=
  OpenClaim.holds_of_wide 7 Tryd.f7 rfl rfl rfl rfl rfl rfl rfl ⟨rfl, rfl, rfl, rfl, rfl⟩ rfl rfl rfl rfl rfl (by kernel_rfl) Tryd.func7 (by kernel_rfl)
    (of_decide_eq_true (by kernel_rfl)) (by unfold Func.isWrapper; first | (rw [if_pos (by decide +kernel)]; kernel_rfl) | (rw [if_neg (by decide +kernel)]; exact ⟨rfl, rfl⟩))
    (fun os started H enc _ => lifted os started H enc)

/-- THE TIED CARD. -/
theorem proved : Rows.FrameScansCardSaid :=
  Claim7.holds_tied_plain_at .later [] [.data, .data] true Rows.frameScansCard.stood.harness Rows.frameScansCard.stood.looks
    over (fun _ h => by cases h) (by kernel_rfl) (fun _ h => by cases h) frameScans_row_tie rfl ⟨rfl, rfl⟩ (by kernel_rfl) rfl
    (fun f fn hf hfn => by
      obtain rfl : f = 7 := Option.some.inj ((show Tryd.prog.funcNamed "tholepin/tholepinlaw08.FrameScans" = some 7 by kernel_rfl).symm.trans hf) |>.symm
      obtain rfl : fn = Tryd.f7 := (Option.some.inj (Tryd.func7.symm.trans hfn)).symm
      exact ⟨by kernel_rfl, fun j t ht => by
        rw [Tryd.params7] at ht
        have hm : t ∈ [22, 3, 3] := by simpa using Array.mem_of_getElem? ht
        have hall : ([22, 3, 3].all fun u => !Tryd.prog.wantsStandIn u) = true := by kernel_rfl
        exact (show Tryd.prog.wantsStandIn t = false by simpa using List.all_eq_true.1 hall t hm)⟩)
    (by kernel_rfl)
#print axioms proved
end Go.Proofs.YtncomjeidlahlaaDoor.frameScans
