/- As the seat's text, without what nothing here names. -/
import Derived.Test.YtlealkfkddhnnaaGreatBtcKw
namespace Go.Proofs.YtlealkfkddhnnaaGreat.Cur
open Go.RowKit Mem
set_option linter.unusedVariables false
set_option maxRecDepth 100000
set_option maxHeartbeats 4000000 in
theorem rbytes25_any (P : Nat → Prop) (e b : Int) (A : Option Addr) (n m : Nat) (L : List En) (w : World) (hz : Ens w P A n L) (hs : esm L) (e0 : 0 ≤ e) (e9 : e < 18446744073709551616) (b0 : 0 ≤ b) (b1 : b < 18446744073709551616) (hok : btk (e, b, L) = true) (hjl : (jn L).length ≤ 10000) :
    Calls Tryz.prog 20 #[btagg e b A n m] w (RowPost (btb (e, b, L)) w) := by
  have hX := Blk.new w (btenc e b A n m) 25
  have hb := below_one w (.cells (btenc e b A n m) 25)
  have HX := Lib.hid hX
  obtain ⟨x0, x1, x2⟩ := hX.c3
  clear hX
  have hsz0 : (w.alloc (.cells (btenc e b A n m) 25)).heap.size = w.heap.size + 1 := by simp
  have hjb := jn_byte hz
  have hn16 : n ≤ 16 := by
    obtain ⟨_, _, k3, _, _⟩ := btk_parts hok
    have := (fitn_bd k3).2.1
    have h2 : (L.length : Int) ≤ 16 := this
    rw [hz.1] at h2; omega
  have HH := Lib.hid (fun w' (h : Below w.heap.size w w') => rheads25_any P e b A n m L w' (hz.below h) e0 e9 b0 b1 hok)
  have HJ := Lib.hid (fun w' (h : Below w.heap.size w w') => rjoin_any P A n m L w' (hz.below h) (by omega) hs)
  rw [← jn_of_jk hz.1] at HJ
  have HK := Lib.hid (fun w' (A' : Option Addr) (m' : Nat) (h1 : Bs w' A' (jn L).length (jn L)) (h2 : A' = none → m' = 0) (h3 : (jn L).length ≤ m') => r16bytes_any (w := w') (A := A') (n := (jn L).length) (m := m') (z := jn L) h1 h2 hjb h3 hjl)
  have HLN : Hid ((bthz (e, b, L)).length + (bkb (jn L)).length ≤ 30000) := Lib.hid (by
    have h1 := btb_len hok hjl hjb
    have h3 : (btb (e, b, L)).length = (bthz (e, b, L)).length + (bkb (jn L)).length := List.length_append ..
    rw [← h3]; exact h1)
  have HBT : Hid (btb (e, b, L) = bthz (e, b, L) ++ bkb (jn L)) := Lib.hid rfl
  rw [HBT.out]
  generalize bthz (e, b, L) = X at *
  generalize bkb (jn L) = Y at *
  generalize jn L = J at *
  clear hz hs hok hjl hjb HBT
  go_enter Tryz.func20, Tryz.ntmps20
  go_wp2
  clear x0 x1 x2
  generalize w.alloc (.cells (btenc e b A n m) 25) = w0 at *
  have hS : HkS w0 w0.drew := below_one' w0
  have L0 : ∀ w', HkS w0 w' → (w'.cell? ⟨w.heap.size, 0, none⟩ = some (.int .u64 e) ∧ w'.cell? ⟨w.heap.size, 1, none⟩ = some (.int .u64 b)) ∧ w'.cell? ⟨w.heap.size, 2, none⟩ = some (.slice A n m) := fun w' h => ⟨⟨(HX.out.below h).c3.1, (HX.out.below h).c3.2.1⟩, (HX.out.below h).c3.2.2⟩
  refine Seq.wp_region_seq (HkS w0) (by kernel_rfl) (by kernel_rfl) hS ?_
  generalize w0.drew = wd at *
  repeat (first | (refine Seq.Seq.skip (by rfl) ?_; (try simp only [Act.put, List.setIfInBounds_toArray, List.set_cons_zero, List.set_cons_succ])) | (refine Seq.Seq.det ?_ (by rfl) (fun w hS => ?_) ?_; rotate_left; ((try dsimp only at hS); go_simp; (try rw [if_pos (by omega)]); with_reducible rfl); (try simp only [Act.put, List.setIfInBounds_toArray, List.set_cons_zero, List.set_cons_succ])))
  refine Seq.Seq.make (by rfl) (by rfl) (fun K Q' hK => ?_)
  go_simp
  go_at_call 50
  refine (HH.out _ (hb.trans (Below.mono hS hb.size))).mono ?_
  rintro en u1 ⟨A1, m1, rfl, hc1, _, _, _, ho1⟩
  have ho1' : Own u1 w0.heap.size (.slice A1 X.length m1) X := ho1.base (fun g hg => by have := ho1.ge g hg; have := Below.size hS; omega)
  have hS1 : HkS w0 u1 := Below.trans hS (hc1.mono (Below.size hS))
  clear hc1 ho1 hS
  refine hK.out _ _ (hS1) ?_
  clear hK K
  try simp only [Act.put, List.setIfInBounds_toArray, List.set_cons_zero, List.set_cons_succ]
  repeat (first | (refine Seq.Seq.skip (by rfl) ?_; (try simp only [Act.put, List.setIfInBounds_toArray, List.set_cons_zero, List.set_cons_succ])) | (refine Seq.Seq.det ?_ (by rfl) (fun w hS => ?_) ?_; rotate_left; ((try dsimp only at hS); go_simp; (try rw [if_pos (by omega)]); with_reducible rfl); (try simp only [Act.put, List.setIfInBounds_toArray, List.set_cons_zero, List.set_cons_succ])))
  refine Seq.Seq.make (by rfl) (by rfl) (fun K Q' hK => ?_)
  go_simp
  go_at_call 45
  refine (HJ.out _ (hb.trans (Below.mono hS1 hb.size))).mono ?_
  rintro en u2 ⟨A2, m2, rfl, hc2, hbs2, hnil2, _, hoj⟩
  have hS2 : HkS w0 u2 := Below.trans hS1 (hc2.mono (Below.size hS1))
  have ho2 := ho1'.below hc2
  have hcap := hoj.cap
  clear hc2 ho1' hS1 hoj
  refine hK.out _ _ (hS2) ?_
  clear hK K
  try simp only [Act.put, List.setIfInBounds_toArray, List.set_cons_zero, List.set_cons_succ]
  repeat (first | (refine Seq.Seq.skip (by rfl) ?_; (try simp only [Act.put, List.setIfInBounds_toArray, List.set_cons_zero, List.set_cons_succ])) | (refine Seq.Seq.det ?_ (by rfl) (fun w hS => ?_) ?_; rotate_left; ((try dsimp only at hS); go_simp; (try rw [if_pos (by omega)]); with_reducible rfl); (try simp only [Act.put, List.setIfInBounds_toArray, List.set_cons_zero, List.set_cons_succ])))
  refine Seq.Seq.make (by rfl) (by rfl) (fun K Q' hK => ?_)
  go_simp
  go_at_call 51
  refine (HK.out _ A2 m2 hbs2 hnil2 hcap).mono ?_
  rintro en u3 ⟨A3, m3, rfl, hc3, hbs3, hnil3, _⟩
  have hS3 : HkS w0 u3 := Below.trans hS2 (hc3.mono (Below.size hS2))
  have ho3 := ho2.below hc3
  have hB3 : w0.heap.size ≤ u3.heap.size := Below.size hS3
  clear hc3 ho2 hS2 hbs2 hcap
  refine hK.out _ _ (hS3) ?_
  clear hK K
  try simp only [Act.put, List.setIfInBounds_toArray, List.set_cons_zero, List.set_cons_succ]
  repeat (first | (refine Seq.Seq.skip (by rfl) ?_; (try simp only [Act.put, List.setIfInBounds_toArray, List.set_cons_zero, List.set_cons_succ])) | (refine Seq.Seq.det ?_ (by rfl) (fun w hS => ?_) ?_; rotate_left; ((try dsimp only at hS); go_simp; (try rw [if_pos (by omega)]); with_reducible rfl); (try simp only [Act.put, List.setIfInBounds_toArray, List.set_cons_zero, List.set_cons_succ])))
  refine Seq.Seq.make (by rfl) (by rfl) (fun K Q' hK => ?_)
  refine oper_append_gr (.tmp 4) (.tmp 8) rfl w0.heap.size _ _ rfl ho3 _ _ _ _ rfl hbs3 hnil3 (by have := HLN.out; omega) hB3 ?_
  intro v' w9 ho9 hg9 hgr9
  have hS9 : HkS w0 w9 := Own.belowOf hS3 hB3 ho3 hg9
  obtain ⟨A9, c9, hv9⟩ := ho9.slice
  obtain ⟨Z, hZ⟩ : ∃ Z, Z = X ++ Y := ⟨_, rfl⟩
  rw [← hZ] at ho9 hv9
  have HZ := Lib.hid hZ
  have HO9 := Lib.hid ho9
  subst hv9
  clear ho3 hg9 hgr9 hbs3 hS3 ho9 hB3 hZ
  refine hK.out _ _ (hS9) ?_
  clear hK K
  try simp only [Act.put, List.setIfInBounds_toArray, List.set_cons_zero, List.set_cons_succ]
  repeat (first | (refine Seq.Seq.skip (by rfl) ?_; (try simp only [Act.put, List.setIfInBounds_toArray, List.set_cons_zero, List.set_cons_succ])) | (refine Seq.Seq.det ?_ (by rfl) (fun w hS => ?_) ?_; rotate_left; ((try dsimp only at hS); go_simp; (try rw [if_pos (by omega)]); with_reducible rfl); (try simp only [Act.put, List.setIfInBounds_toArray, List.set_cons_zero, List.set_cons_succ])))
  refine Seq.Seq.nil ?_
  have hbd9 : Below w0.heap.size w0 w9 := hS9
  clear L0 hS9
  go_wp2
  go_ret
  rw [← HZ.out]
  exact Own.rowPost (B := 0) (HO9.out.base (B' := w.heap.size) (fun g hg => by have := HO9.out.ge g hg; omega)) (hb.trans (hbd9.mono hb.size))
set_option maxHeartbeats 2000000 in
theorem live25_any (w : World) : Calls Tryz.prog 8 #[] w fun e w' => e = .returned (.bool true) ∧ Below w.heap.size w w' := by
  have P1 : Hid (btk (3, 10, [([], [7, 8])]) = true) := Lib.hid (by decide +kernel)
  have P2 : Hid (btb (3, 10, [([], [7, 8])]) = [3, 10, 1, 0, 2, 2, 0, 7, 8]) := Lib.hid (by decide +kernel)
  have hu1 := bs_new w [7, 8] 5
  have hb1 := below_one w (.cells #[.int .u8 7, .int .u8 8] 5)
  have hs1 : (w.alloc (.cells #[.int .u8 7, .int .u8 8] 5)).heap.size = w.heap.size + 1 := by simp
  have hX2 := Blk.new (w.alloc (.cells #[.int .u8 7, .int .u8 8] 5)) (enc' none 0 0 (some ⟨w.heap.size, 0, none⟩) 2 2) 62
  have hb2 := below_one (w.alloc (.cells #[.int .u8 7, .int .u8 8] 5)) (.cells (enc' none 0 0 (some ⟨w.heap.size, 0, none⟩) 2 2) 62)
  have hs2 : ((w.alloc (.cells #[.int .u8 7, .int .u8 8] 5)).alloc (.cells (enc' none 0 0 (some ⟨w.heap.size, 0, none⟩) 2 2) 62)).heap.size = w.heap.size + 2 := by simp
  rw [hs1] at hX2
  have hu2 := hu1.below hb2
  have hbd2 := hb1.trans (hb2.mono hb1.size)
  clear hu1 hb1 hb2 hs1
  go_enter Tryz.func8, Tryz.ntmps8
  go_wp2_with fail
  generalize (w.alloc (.cells #[.int .u8 7, .int .u8 8] 5)).alloc (.cells (enc' none 0 0 (some ⟨w.heap.size, 0, none⟩) 2 2) 62) = w2 at *
  have hen : Ens w2 (fun b' => b' < w2.heap.size) (some ⟨w.heap.size + 1, 0, none⟩) 1 [([], [7, 8])] := ens_of_cells rfl (by omega) fun i hi => by
    obtain rfl : i = 0 := by omega
    exact ⟨_, _, ⟨hX2.cell 0 rfl, hX2.cell 1 rfl⟩, EnE.mk ⟨rfl, Sq.nil _ _ _ _⟩ (Nat.le_refl _) (fun _ => rfl) rfl (Nat.le_refl _) (fun e => by cases e) (Bs.sq hu2 (by decide) fun _ ad ha => by injection ha with ha; subst ha; show w.heap.size < w2.heap.size; omega)⟩
  have hsm : esm [(([], [7, 8]) : En)] := fun k => by
    rcases k with _ | k
    · exact ⟨by decide, fun s h => by simp at h, by decide⟩
    · exact ⟨by simp [en0], fun s h => by simp [en0] at h, by simp [en0]⟩
  refine (bbytes_any _ 3 10 (some ⟨w.heap.size + 1, 0, none⟩) 1 1 [([], [7, 8])] w2 hen (fun _ h => h) (by omega) hsm (by omega) (by omega) (by omega) (by omega) (by decide)).mono ?_
  rintro e w3 ⟨hb3, ⟨_, g, rfl, hg, hbs⟩ | ⟨hf, _⟩⟩
  case inr => exact absurd hf (by rw [P1.out]; decide)
  rw [P2.out] at hbs
  rw [P2.out]
  have hbd3 := hbd2.trans (hb3.mono hbd2.size)
  have hq1 := hbs.below (below_one w3 (.cells #[.int .u8 3, .int .u8 10, .int .u8 1, .int .u8 0, .int .u8 2, .int .u8 2, .int .u8 0, .int .u8 7, .int .u8 8] 5))
  have hq2 := bs_new w3 [3, 10, 1, 0, 2, 2, 0, 7, 8] 5
  have hb7 := below_one w3 (.cells #[.int .u8 3, .int .u8 10, .int .u8 1, .int .u8 0, .int .u8 2, .int .u8 2, .int .u8 0, .int .u8 7, .int .u8 8] 5)
  have hbd7 := hbd3.trans (hb7.mono hbd3.size)
  clear hen hsm hu2 hX2 hb3 hbs hb7 hbd3
  go_wp2_with fail
  refine (same_any _ _ _ _ _ _ [3, 10, 1, 0, 2, 2, 0, 7, 8] _ hq1 hq2).mono ?_
  rintro e w6 ⟨rfl, rfl⟩
  go_wp2
  go_ret
  exact ⟨rfl, hbd7⟩
end Go.Proofs.YtlealkfkddhnnaaGreat.Cur
