/- FrameTells: called with any two rows of bytes and any two numbers, the law returns true; condition: crc's two tables read as the program's text lays them, to which the card ties them. -/
import Derived.Test.YtophdhbemidomaaDoorRows
import Derived.Test.YtophdhbemidomaaDoorK8
import Derived.Test.YtophdhbemidomaaDoorCrcT
import Derived.Test.YtophdhbemidomaaDoorK1
import Derived.Deep.Cut
import Derived.ProofKit
import Derived.OpenShut
import Derived.ShutString
import Derived.ChangeOld
import Derived.Test.YtophdhbemidomaaDoorCards
import Derived.Test.YtophdhbemidomaaDoorTie
import Derived.LaidMore
import Derived.Stop.Joined
import Derived.Deep.Slices
import Derived.SevenTiedAt
namespace Go.Proofs.YtophdhbemidomaaDoor.frameTells
open Go.ChangeShapes Go.WideShapes Go.ChangeAt Go.RowKit
open Go.ChangeMaps (open_string shut_string)
set_option linter.unusedVariables false

theorem own : ownKnob Tryd.prog.godebug = none := by kernel_rfl
theorem laidOut : laidOutB Tryd.prog = true := by kernel_rfl
open Cur Mem CrcM


theorem min500 : min (500 : Int) 2097152 = 500 := by decide
set_option maxRecDepth 100000 in
theorem open_burst {H : Type} {enc : TypeId × Value → H} {w : World} {base : Nat} {v : Value} {d : DataW H} {p : List MemPlace} (g : Value.okWide Tryd.prog w .any base 56 v) (h : DataW.Trod enc Tryd.prog w 0 (fun _ => true) true 56 v d p) :
    ∃ b c : Nat, v = .agg #[.int .u32 (b : Int), .int .u32 (c : Int)] ∧ b < 2 ^ 32 ∧ c < 2 ^ 32 := by
  have hg : ∃ cs : Array Value, v = .agg cs ∧ cs.size = Tryd.prog.cellsOf 56 := by
    simp only [Value.okWide, Tryd.underlying56] at g
    obtain ⟨cs, h1, h2, _⟩ := g
    exact ⟨cs, h1, h2⟩
  obtain ⟨cs, rfl, hs⟩ := hg
  obtain ⟨fuel, hf⟩ := h
  have c2 : Tryd.prog.cellsOf 56 = 2 := by kernel_rfl
  have c1 : Tryd.prog.cellsOf 55 = 1 := by kernel_rfl
  rw [c2] at hs
  obtain ⟨cs⟩ := cs
  match cs, hs with
  | [x0, x1], _ =>
    simp only [Value.cells] at hf
    obtain ⟨xs, mm, _, _, _, hl, hi⟩ := DataW.trod_array Tryd.underlying56 hf
    have i0 := hi 0 (by decide)
    have i1 := hi 1 (by decide)
    rw [c1] at i0 i1
    match xs, hl with
    | [y0, y1], _ =>
      simp only [Nat.zero_mul, Nat.one_mul, List.drop_zero, List.take_succ_cons, List.take_zero, List.drop_succ_cons, List.getElem?_cons_zero, List.getElem?_cons_succ] at i0 i1
      obtain ⟨u, e1, _, r1⟩ := DataW.trod_int Tryd.underlying55 i0
      obtain ⟨t, e2, _, r2⟩ := DataW.trod_int Tryd.underlying55 i1
      simp only [List.cons.injEq, and_true] at e1 e2
      subst e1 e2
      have b1 := bounds_u32 r1
      have b2 := bounds_u32 r2
      obtain ⟨u, rfl⟩ := Int.eq_ofNat_of_zero_le b1.1
      obtain ⟨t, rfl⟩ := Int.eq_ofNat_of_zero_le b2.1
      exact ⟨u, t, rfl, by omega, by omega⟩

set_option maxRecDepth 100000 in
set_option maxHeartbeats 8000000 in
theorem walk {H : Type} (enc : TypeId × Value → H) (w : World) (hT : Tbs w) (base : Nat) (v0 : Value) (d0 : DataW H) (p0 : List MemPlace) (g0 : Value.okWide Tryd.prog w .any base 22 v0) (h0 : DataW.Trod enc Tryd.prog w 0 (fun _ => true) true 22 v0 d0 p0) (v1 : Value) (d1 : DataW H) (p1 : List MemPlace) (g1 : Value.okWide Tryd.prog w .any base 22 v1) (h1 : DataW.Trod enc Tryd.prog w 0 (fun _ => true) true 22 v1 d1 p1) (v2 : Value) (d2 : DataW H) (p2 : List MemPlace) (g2 : Value.okWide Tryd.prog w .any base 56 v2) (h2 : DataW.Trod enc Tryd.prog w 0 (fun _ => true) true 56 v2 d2 p2) :
    Calls Tryd.prog 6 #[v0, v1, v2] w fun e w' => e = .returned (.bool true) ∧ Below w.heap.size w w' := by
  obtain ⟨a, n, m, y, rfl, hnm, hy, hby, hnil⟩ := open_bytes g0 h0
  obtain ⟨a2, n2, m2, x, rfl, hnm2, hx, hbx, hnil2⟩ := open_bytes g1 h1
  obtain ⟨b0, d, rfl, hb0, hd⟩ := open_burst g2 h2
  clear g0 h0 g1 h1 g2 h2
  have HT := Lib.hid hT
  have hbox := below_one w (.cells #[.int .u32 (b0 : Int), .int .u32 (d : Int)] 56)
  have HBOX := Lib.hid hbox
  clear hT
  by_cases hn : 500 < (n : Int)
  · clear hbox
    go_enter Tryd.func6, Tryd.ntmps6
    go_wp2_with fail
    refine (live8_any _ (HT.out.below HBOX.out)).mono ?_
    rintro e w1 ⟨rfl, hb⟩
    go_wp2
    go_ret
    exact ⟨rfl, HBOX.out.trans (hb.mono HBOX.out.size)⟩
  by_cases hn2 : 500 < (n2 : Int)
  · clear hbox
    go_enter Tryd.func6, Tryd.ntmps6
    go_wp2_with fail
    refine (live8_any _ (HT.out.below HBOX.out)).mono ?_
    rintro e w1 ⟨rfl, hb⟩
    go_wp2
    go_ret
    exact ⟨rfl, HBOX.out.trans (hb.mono HBOX.out.size)⟩
  clear HBOX
  have HBY := Lib.hid hby
  have HBX := Lib.hid hbx
  have hv := vsz_le (n : Int)
  have hv2 := vsz_pos (n : Int)
  have hfl := frm_length y
  rw [hy.1] at hfl
  obtain ⟨R, hR⟩ : ∃ R, R = y ++ fixZ (sm y : Nat) 4 := ⟨_, rfl⟩
  have hRl : R.length = n + 4 := by rw [hR, List.length_append, fixZ_length, hy.1]
  have hRb : ∀ v ∈ R, 0 ≤ v ∧ v < 256 := by
    intro v hv
    rw [hR] at hv
    rcases List.mem_append.1 hv with h | h
    · exact hby v h
    · exact fixZ_byte _ _ v h
  have hZR : frm y = vz n ++ R := by unfold frm; rw [hR, hy.1, List.append_assoc]
  obtain ⟨F, hF⟩ : ∃ F, F = (frm y).length := ⟨_, rfl⟩
  obtain ⟨Z, hZ⟩ : ∃ Z, Z = frm y := ⟨_, rfl⟩
  obtain ⟨VZ, hVZ⟩ : ∃ VZ, VZ = vz n := ⟨_, rfl⟩
  rw [← hZ] at hF hZR
  rw [← hVZ] at hZR
  obtain ⟨K, hK⟩ : ∃ K, K = vsz (n : Int) := ⟨_, rfl⟩
  have hFK : F = K + n + 4 := by rw [hF, hZ, hfl, hK]
  have hVL : VZ.length = K := by rw [hVZ, vz_length, hK]
  have hK1 : 1 ≤ K := by omega
  have hK2 : K ≤ 10 := by omega
  obtain ⟨A, hA⟩ : ∃ A : Nat, A = b0 % (8 * (n + 4)) := ⟨_, rfl⟩
  have hA1 : A < 8 * (n + 4) := by rw [hA]; exact Nat.mod_lt _ (by omega)
  have HA : Hid (A = b0 % (8 * (n + 4))) := Lib.hid hA
  obtain ⟨T, hT⟩ : ∃ T, T = trn d (-(A : Int)) R := ⟨_, rfl⟩
  have hTl : T.length = n + 4 := by rw [hT, trn_length, hRl]
  have hTb : ∀ v ∈ T, 0 ≤ v ∧ v < 256 := by rw [hT]; exact trn_byte hRb
  have hfr := fr_burst (y := y) (rest := x) (T := T) (d := d) (at_ := A) (mo := 500) hd hby (by rw [hy.1]; omega) (by rw [hy.1]; omega) (by rw [hy.1]; omega) (by rw [hT, hR])
  rw [hy.1, ← hVZ, ← hZ, ← hF, ← hK, ← hR] at hfr
  have HFR := Lib.hid hfr
  have HTR := Lib.hid hT
  have HZ := Lib.hid hZ
  have HF := Lib.hid hF.symm
  have HZR := Lib.hid hZR
  have HRL := Lib.hid hRl
  have HRB := Lib.hid hRb
  have HTL := Lib.hid hTl
  have HTB := Lib.hid hTb
  have HVL := Lib.hid hVL
  have HVT : Hid ((VZ ++ T).length = F) := Lib.hid (by rw [List.length_append, hVL, hTl, hFK]; omega)
  have HVTX : Hid ((VZ ++ T ++ x).length = F + n2) := Lib.hid (by rw [List.length_append, HVT.out, hx.1])
  have HVB : Hid (∀ v ∈ VZ ++ T ++ x, 0 ≤ v ∧ v < 256) := Lib.hid (by
    intro v hv
    rcases List.mem_append.1 hv with h | h
    · rcases List.mem_append.1 h with h | h
      · rw [hVZ] at h; exact vz_byte _ (by omega) (by omega) v h
      · exact hTb v h
    · exact hbx v h)
  have HVZT : Hid (Z.take K = VZ) := Lib.hid (by rw [hZR, List.take_append_of_le_length (by omega), ← hVL, List.take_length])
  have HRD : Hid (piece Z K F = R) := Lib.hid (by unfold piece; rw [hZR, List.drop_append_of_le_length (by omega), ← hVL, List.drop_length, List.nil_append, List.take_of_length_le (by rw [hRl]; omega)])
  have HXL := Lib.hid hx.1
  have hF7 : F ≤ 600 := by omega
  have hH : (F : Int) - n - 4 = K := by omega
  have HH := Lib.hid hH
  have HFK := Lib.hid hFK
  have hKF : K + n + 4 ≤ F := by omega
  have hKF2 : F ≤ K + n + 4 := by omega
  clear hFK hby hbx hfl hv hv2 hR hRl hRb hZR hF hZ hVZ hK hVL hA hT hTl hTb hfr hH
  have hC := Blk.new w #[.int .u32 (b0 : Int), .int .u32 (d : Int)] 56
  go_enter Tryd.func6, Tryd.ntmps6
  go_wp2_with fail
  generalize w.alloc (.cells #[.int .u32 (b0 : Int), .int .u32 (d : Int)] 56) = w0 at *
  have hbb : w.heap.size < w0.heap.size := hC.lt
  generalize hxb : w.heap.size = xb at hC hbb
  have HXB := Lib.hid hxb
  clear hxb
  refine (fbytes_any a n _ y w0 (hy.below hbox) hnil (by omega) HBY.out (HT.out.below hbox)).mono ?_
  unfold FBPost
  rw [← HZ.out, HF.out]
  rintro e w1 ⟨g, rfl, hg, hb1, hblk⟩
  have hbs1 := Bs.of_block hblk
  rw [HF.out] at hbs1
  have hC1 := hC.below hb1
  have hbd1 := hbox.trans (hb1.mono hbox.size)
  clear hblk hC hb1 hbox hbb
  go_upto_region 5 with (fail)
  rw [HH.out]
  obtain ⟨c0, c1⟩ := hC1.c2
  have hb0l : (b0 : Int) < 4294967296 := by omega
  have hb00 : (0 : Int) ≤ b0 := by omega
  have hK0 : decide ((K : Int) < 1) = false := by simp; omega
  go_upto_region 8 with (fail)
  rw [show (b0 : Int) % (8 * ((n : Int) + 4)) = (A : Int) by rw [HA.out]; push_cast; rfl]
  have hne : ¬ F = K := by omega
  have hKle : (K : Int) ≤ F := by omega
  have hKleN : K ≤ F := by omega
  have hK00 : (0 : Int) ≤ K := by omega
  have hbsR : Bs w1 (some ⟨g, K, none⟩) (F - K) R := by
    have := hbs1.sub F K F (by omega) (Nat.le_refl _) (Nat.le_refl _)
    rw [HRD.out, if_neg hne] at this
    simpa [Addr.add, show ¬ K = 0 by omega] using this
  have hFKn : F - K = n + 4 := by omega
  clear c0 c1
  go_wp2
  have hS : Below w1.heap.size w1 w1.drew := below_one' _
  have L : ∀ w', Below w1.heap.size w1 w' → w'.cell? ⟨xb, 1, none⟩ = some (.int .u32 (d : Int)) := fun w' h => (h.cell hC1.lt).trans hC1.c2.2
  refine Seq.wp_region_seq (fun w' => Below w1.heap.size w1 w') (by kernel_rfl) (by kernel_rfl) hS ?_
  repeat (first | (refine Seq.Seq.skip (by rfl) ?_; (try simp only [Act.put, List.setIfInBounds_toArray, List.set_cons_zero, List.set_cons_succ])) | (refine Seq.Seq.det ?_ (by rfl) (fun w hS => ?_) ?_; rotate_left; ((try dsimp only at hS); go_simp; (try rw [if_pos (by omega)]); with_reducible rfl); (try simp only [Act.put, List.setIfInBounds_toArray, List.set_cons_zero, List.set_cons_succ])))
  refine Seq.Seq.make (by rfl) (by rfl) (fun K Q' hK => ?_)
  go_simp
  go_at_call 28
  rw [hFKn] at hbsR
  refine (rturn_any _ _ _ R (A : Int) d _ (hbsR.below hS) (by omega) HRB.out hd (by omega) (by omega)).mono ?_
  rw [← HTR.out]
  unfold RowPost
  rw [HTL.out]
  rintro e w2 ⟨A2, cc2, rfl, hb2, hbs2, hnilT, _, _⟩
  have hS2 := hS.trans (hb2.mono hS.size)
  refine hK.out _ _ (hS2) ?_
  clear hK K
  try simp only [Act.put, List.setIfInBounds_toArray, List.set_cons_zero, List.set_cons_succ]
  clear hS hb2
  repeat (first | (refine Seq.Seq.skip (by rfl) ?_; (try simp only [Act.put, List.setIfInBounds_toArray, List.set_cons_zero, List.set_cons_succ])) | (refine Seq.Seq.det ?_ (by rfl) (fun w hS => ?_) ?_; rotate_left; ((try dsimp only at hS); go_simp; (try rw [if_pos (by omega)]); with_reducible rfl); (try simp only [Act.put, List.setIfInBounds_toArray, List.set_cons_zero, List.set_cons_succ])))
  refine Seq.Seq.nil ?_
  have hbd2 := hbd1.trans (hS2.mono hbd1.size)
  have hbsR2 := hbsR.below hS2
  have hbs12 := hbs1.below hS2
  have hbsH := hbs12.take (k := K) (by omega)
  rw [HVZT.out] at hbsH
  have hx2 := hx.below hbd2
  have HNT := Lib.hid hnilT
  clear hbsR hbs1 hC1 hbd1 hS2 L hnilT hne
  have hne : ¬ F = K := by omega
  by_cases hTR : T = R
  · have hfr : fr (VZ ++ T ++ x) 500 0 = (y, (F : Int), 0, 0) := by have := HFR.out; rw [if_pos hTR] at this; exact this
    have HFR2 := Lib.hid hfr
    clear hfr
    rw [← hTR] at hbsR2
    go_wp2_with fail
    refine (same_any _ _ _ _ _ _ T _ hbs2 hbsR2).mono ?_
    rintro e w' ⟨rfl, rfl⟩
    go_wp2_with (first
      | (at_builtin; (refine list_append_gr rfl (.tmp 60) (.tmp 63) rfl w2.heap.size (.slice none 0 0) [] rfl (Own.nil _ _) _ _ _ _ rfl hbsH (by simp) (by simp; omega) (Nat.le_refl _) ?_; intro v6 w6 ho6 hg6 hgr6; have hb6 := Own.belowOf (Below.refl _ _) (Nat.le_refl _) (Own.nil w2 w2.heap.size) hg6; rw [List.nil_append] at ho6; obtain ⟨A6, c6, hv6⟩ := ho6.slice; rw [HVL.out] at hv6; subst hv6; have hbs6 := hbs2.below hb6; have hx6 := hx2.below hb6; clear hg6 hgr6))
      | (at_builtin; (refine list_append_gr rfl (.tmp 64) (.tmp 65) rfl w2.heap.size (.slice A6 K c6) VZ rfl (by exact ho6) _ _ _ _ rfl hbs6 HNT.out (by rw [HVL.out]; omega) hb6.size ?_; intro v7 w7 ho7 hg7 hgr7; have hb7 := Own.belowOf hb6 hb6.size ho6 hg7; obtain ⟨A7, c7, hv7⟩ := ho7.slice; rw [HVT.out] at hv7; subst hv7; have hx7 := hx2.below hb7; clear hg7 hgr7))
      | (at_builtin; go_must (refine list_append_gr rfl (.tmp 66) (.tmp 67) rfl w2.heap.size (.slice A7 F c7) (VZ ++ T) rfl (by exact ho7) _ _ _ _ rfl hx7 hnil2 (by rw [HVT.out]; omega) hb7.size ?_; intro v9 w9 ho9 hg9 hgr9; have hb9 := Own.belowOf hb7 hb7.size ho7 hg9; have hcap := ho9.slice; obtain ⟨A9, c9, hv9⟩ := hcap; rw [HVTX.out] at hv9; subst hv9; have hcap9 := ho9.cap; have hbs9 := ho9.bs.2; clear hg9 hgr9)))
    have hbd9 := hbd2.trans (hb9.mono hbd2.size)
    refine (fget_any _ _ _ _ _ _ hbs9 hcap9 (by omega) HVB.out (HT.out.below hbd9)).mono ?_
    rw [min500]
    rintro e w10 ⟨v10, l10, nn, c10, q10, rfl, ho10, hb10, hst⟩
    obtain ⟨A10, cc10, rfl⟩ := ho10.slice
    have hbA := hb10.alloc hb10.size (.cells #[.int .i64 c10, .int .i64 q10] 42)
    have hFb := Blk.new w10 #[.int .i64 c10, .int .i64 q10] 42
    have hbd10 := hbd9.trans (hbA.mono hbd9.size)
    clear ho10 hb10 hbA hbs9 hcap9 hb9 ho9 ho7 ho6 hb7 hb6
    have hst' : l10 = y ∧ nn = (F : Int) ∧ c10 = 0 ∧ q10 = 0 := by
      rcases hst with ⟨_, h1, h2, h3, h4⟩ | ⟨h0, _⟩
      · rw [HFR2.out] at h1 h2; exact ⟨h1, h2, h3, h4⟩
      · rw [HFR2.out] at h0; exact absurd rfl h0
    obtain ⟨rfl, rfl, rfl, rfl⟩ := hst'
    clear hst
    go_wp2_with fail
    refine (live8_any _ (HT.out.below hbd10)).mono ?_
    rintro e w22 ⟨rfl, hb22⟩
    go_wp2
    go_ret
    exact ⟨rfl, hbd10.trans (hb22.mono hbd10.size)⟩
  · have hfr : fr (VZ ++ T ++ x) 500 0 = ([], 0, 6, ((K + n : Nat) : Int)) := by have := HFR.out; rw [if_neg hTR] at this; exact this
    have HFR2 := Lib.hid hfr
    have HTR2 := Lib.hid hTR
    clear hfr hTR
    go_wp2_with fail
    refine (same_ne _ _ _ _ _ _ T R _ hbs2 hbsR2 HTB.out HRB.out HTR2.out).mono ?_
    rintro e w' ⟨rfl, rfl⟩
    go_wp2_with (first
      | (at_builtin; (refine list_append_gr rfl (.tmp 60) (.tmp 63) rfl w2.heap.size (.slice none 0 0) [] rfl (Own.nil _ _) _ _ _ _ rfl hbsH (by simp) (by simp; omega) (Nat.le_refl _) ?_; intro v6 w6 ho6 hg6 hgr6; have hb6 := Own.belowOf (Below.refl _ _) (Nat.le_refl _) (Own.nil w2 w2.heap.size) hg6; rw [List.nil_append] at ho6; obtain ⟨A6, c6, hv6⟩ := ho6.slice; rw [HVL.out] at hv6; subst hv6; have hbs6 := hbs2.below hb6; have hx6 := hx2.below hb6; clear hg6 hgr6))
      | (at_builtin; (refine list_append_gr rfl (.tmp 64) (.tmp 65) rfl w2.heap.size (.slice A6 K c6) VZ rfl (by exact ho6) _ _ _ _ rfl hbs6 HNT.out (by rw [HVL.out]; omega) hb6.size ?_; intro v7 w7 ho7 hg7 hgr7; have hb7 := Own.belowOf hb6 hb6.size ho6 hg7; obtain ⟨A7, c7, hv7⟩ := ho7.slice; rw [HVT.out] at hv7; subst hv7; have hx7 := hx2.below hb7; clear hg7 hgr7))
      | (at_builtin; go_must (refine list_append_gr rfl (.tmp 66) (.tmp 67) rfl w2.heap.size (.slice A7 F c7) (VZ ++ T) rfl (by exact ho7) _ _ _ _ rfl hx7 hnil2 (by rw [HVT.out]; omega) hb7.size ?_; intro v9 w9 ho9 hg9 hgr9; have hb9 := Own.belowOf hb7 hb7.size ho7 hg9; have hcap := ho9.slice; obtain ⟨A9, c9, hv9⟩ := hcap; rw [HVTX.out] at hv9; subst hv9; have hcap9 := ho9.cap; have hbs9 := ho9.bs.2; clear hg9 hgr9)))
    have hbd9 := hbd2.trans (hb9.mono hbd2.size)
    refine (fget_any _ _ _ _ _ _ hbs9 hcap9 (by omega) HVB.out (HT.out.below hbd9)).mono ?_
    rw [min500]
    rintro e w10 ⟨v10, l10, nn, c10, q10, rfl, ho10, hb10, hst⟩
    obtain ⟨A10, cc10, rfl⟩ := ho10.slice
    have hbA := hb10.alloc hb10.size (.cells #[.int .i64 c10, .int .i64 q10] 42)
    have hFb := Blk.new w10 #[.int .i64 c10, .int .i64 q10] 42
    have hbd10 := hbd9.trans (hbA.mono hbd9.size)
    clear ho10 hb10 hbA hbs9 hcap9 hb9 ho9 ho7 ho6 hb7 hb6
    have hst' : l10 = [] ∧ nn = 0 ∧ c10 = 6 ∧ q10 = (K : Int) + n := by
      rcases hst with ⟨h0, _⟩ | ⟨_, h1, h2, h3, h4⟩
      · rw [HFR2.out] at h0; exact absurd h0 (by show ¬ (6 : Int) = 0; decide)
      · rw [HFR2.out] at h3 h4; exact ⟨h1, h2, h3, by rw [h4]; show ((K + n : Nat) : Int) = _; push_cast; rfl⟩
    obtain ⟨rfl, rfl, rfl, rfl⟩ := hst'
    clear hst
    go_wp2_with fail
    refine (live8_any _ (HT.out.below hbd10)).mono ?_
    rintro e w22 ⟨rfl, hb22⟩
    go_wp2
    go_ret
    exact ⟨rfl, hbd10.trans (hb22.mono hbd10.size)⟩

theorem tabs_of {W : World} (h : laidMetH Tryd.prog Rows.frameTellsRow.laid W) : Tbs W := by
  rw [MakeChecks.laidMetH_plain _ _ _ (by kernel_rfl)] at h
  exact tbs_of_laid h
theorem door_met (os : Os) (args : Array Value) : laidMetH Tryd.prog Rows.frameTellsRow.laid ((World.doorLaid Tryd.prog 4000 os).forCall (fun _ _ => 0) ⟨#[], args, []⟩).memory :=
  laidMetH_of_parts3 (fuel := 8) (laidMet_of_run' 8 (by kernel_rfl) (by kernel_rfl)) (by kernel_rfl) (by kernel_rfl)
set_option maxRecDepth 100000 in
theorem lifted (os : Os) (started : os.Started) (H : Type) (enc : TypeId × Value → H) :
    ReturnsInHanded {} Tryd.checked os 6 .any (fun w args => (Rows.frameTellsSpec.pre enc Tryd.prog Tryd.f6 [] false w args ∧ laidMetH Tryd.prog Rows.frameTellsRow.laid w) ∧ sizedMet enc Tryd.prog Tryd.f6 (OpenSpec.ofChange Rows.frameTellsSpec) false w args)
      (Rows.frameTellsSpec.post enc Tryd.prog Tryd.f6 false true false false) := by
  refine returnsInHanded_of_change_and (C := Tryd.checked) (X := fun w _ => laidMetH Tryd.prog Rows.frameTellsRow.laid w) (fun _ _ _ hh h => h.of_heap hh) own started (by kernel_rfl) Tryd.func6
    (ChangeSpec.witness_shaped (enc := enc) (C := Tryd.checked) (os := os) (X := fun w _ => laidMetH Tryd.prog Rows.frameTellsRow.laid w) false (World.doorLaid Tryd.prog 4000 os) #[.slice none 0 0, .slice none 0 0, .agg #[.int .u32 0, .int .u32 0]] 8 rfl (World.shaped_of_RefB (by kernel_rfl) (by kernel_rfl)) (by kernel_rfl) (by kernel_rfl) (by kernel_rfl) (door_met os _)) ?_
  intro W base args ds gs before hval0 hW _ _ hL _
  have hval : ∀ (j : Nat) t v, Tryd.f6.params[j]? = some t → args[j]? = some v → Value.okWide Tryd.prog W .any base t v := hval0
  have hW' := hW
  obtain ⟨p, q, hA0, hV, rfl, hfz, hnd⟩ := hW
  have hA : DataW.TrodAll enc Tryd.prog W 0 (fun _ => true) true Tryd.f6.params.toList args.toList ds p := hA0
  rw [Tryd.params6] at hA hval
  obtain ⟨v0, vs0, d0, ds0, p0, q0, hargs, rfl, rfl, h0, r0⟩ := trodAll_cons hA
  obtain ⟨v1, vs1, d1, ds1, p1, q1, rfl, rfl, rfl, h1, r1⟩ := trodAll_cons r0
  obtain ⟨v2, vs2, d2, ds2, p2, q2, rfl, rfl, rfl, h2, r2⟩ := trodAll_cons r1
  obtain ⟨rfl, rfl, rfl⟩ := trodAll_nil r2
  obtain rfl : args = #[v0, v1, v2] := by cases args; simp_all
  obtain ⟨rfl, rfl⟩ := trodVars_none hV
  have lt0 : ∀ x ∈ p0, x.block < W.heap.size := by obtain ⟨m, hm⟩ := h0; exact DataW.trod_lt m _ _ _ hm
  have lt1 : ∀ x ∈ p1, x.block < W.heap.size := by obtain ⟨m, hm⟩ := h1; exact DataW.trod_lt m _ _ _ hm
  have lt2 : ∀ x ∈ p2, x.block < W.heap.size := by obtain ⟨m, hm⟩ := h2; exact DataW.trod_lt m _ _ _ hm
  clear hA0 hval0
  refine (walk enc W (tabs_of hL) base v0 d0 p0 (hval 0 22 v0 rfl rfl) h0 v1 d1 p1 (hval 1 22 v1 rfl rfl) h1 v2 d2 p2 (hval 2 56 v2 rfl rfl) h2).mono fun e W' ⟨he, bel⟩ => ?_
  subst he
  exact ⟨_, rfl, _, _, _, [], _, [], hW', trodAll_mk1 (shut_bool Tryd.underlying4 _), (trodAll_cons_mk (Below.trod laidOut (by kernel_rfl) (of_decide_eq_true (by kernel_rfl)) h0 bel lt0) (trodAll_cons_mk (Below.trod laidOut (by kernel_rfl) (of_decide_eq_true (by kernel_rfl)) h1 bel lt1) (trodAll_cons_mk (Below.trod laidOut (by kernel_rfl) (of_decide_eq_true (by kernel_rfl)) h2 bel lt2) trodAll_mk0))), rfl, bel.frame _, fun h => by cases h⟩

theorem over : Rows.FrameTellsSaid :=
  OpenClaim.holds_of_wide 6 Tryd.f6 rfl rfl rfl rfl rfl rfl rfl ⟨rfl, rfl, rfl, rfl, rfl⟩ rfl rfl rfl rfl rfl (by kernel_rfl) Tryd.func6 (by kernel_rfl)
    (of_decide_eq_true (by kernel_rfl)) (by unfold Func.isWrapper; first | (rw [if_pos (by decide +kernel)]; kernel_rfl) | (rw [if_neg (by decide +kernel)]; exact ⟨rfl, rfl⟩))
    (fun os started H enc _ => lifted os started H enc)

/-- THE TIED CARD. -/
theorem proved : Rows.FrameTellsCardSaid :=
  Claim7.holds_tied_plain_at .later [] [.data, .data] true Rows.frameTellsCard.stood.harness Rows.frameTellsCard.stood.looks
    over (fun _ h => by cases h) (by kernel_rfl) (fun _ h => by cases h) frameTells_row_tie rfl ⟨rfl, rfl⟩ (by kernel_rfl) rfl
    (fun f fn hf hfn => by
      obtain rfl : f = 6 := Option.some.inj ((show Tryd.prog.funcNamed "tholepin/tholepinlaw08.FrameTells" = some 6 by kernel_rfl).symm.trans hf) |>.symm
      obtain rfl : fn = Tryd.f6 := (Option.some.inj (Tryd.func6.symm.trans hfn)).symm
      exact ⟨by kernel_rfl, fun j t ht => by
        rw [Tryd.params6] at ht
        have hm : t ∈ [22, 22, 56] := by simpa using Array.mem_of_getElem? ht
        have hall : ([22, 22, 56].all fun u => !Tryd.prog.wantsStandIn u) = true := by kernel_rfl
        exact (show Tryd.prog.wantsStandIn t = false by simpa using List.all_eq_true.1 hall t hm)⟩)
    (by kernel_rfl)
#print axioms proved
end Go.Proofs.YtophdhbemidomaaDoor.frameTells
