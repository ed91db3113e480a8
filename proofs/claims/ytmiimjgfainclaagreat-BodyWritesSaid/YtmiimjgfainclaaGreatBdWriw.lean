/- As the seat's text, without what nothing here names. -/
import Derived.Test.YtmiimjgfainclaaGreatRows
import Derived.Test.YtmiimjgfainclaaGreatBdyFw
import Derived.Test.YtmiimjgfainclaaGreatBdyGw
import Derived.Test.YtmiimjgfainclaaGreatBdyHw
import Derived.Test.YtmiimjgfainclaaGreatBdyJw
import Derived.Test.YtmiimjgfainclaaGreatBdyKw
import Derived.Test.YtmiimjgfainclaaGreatK1w
import Derived.ProofKit
import Derived.OpenShut
import Derived.ShutString
import Derived.ChangeOld
namespace Go.Proofs.YtmiimjgfainclaaGreat.bodyWrites
open Go.ChangeShapes Go.WideShapes Go.ChangeAt Go.RowKit
open Go.ChangeMaps (open_string shut_string)
set_option linter.unusedVariables false
theorem own : ownKnob Tryz.prog.godebug = none := by kernel_rfl
theorem laidOut : laidOutB Tryz.prog = true := by kernel_rfl
open Cur Mem
set_option maxRecDepth 100000
set_option linter.unusedSimpArgs false
theorem plen_mono {M N : Nat} {L : List Stp} (h : plen M L) (hM : M ≤ N) : plen N L := fun s hs => ⟨Nat.le_trans (h s hs).1 hM, fun l hl => Nat.le_trans ((h s hs).2 l hl) hM⟩
set_option maxHeartbeats 16000000 in
theorem walk {H : Type} (enc : TypeId × Value → H) (w : World) (base : Nat) (v0 : Value) (d0 : DataW H) (p0 : List MemPlace) (g0 : Value.okWide Tryz.prog w .any base 32 v0) (h0 : DataW.Trod enc Tryz.prog w 0 (fun _ => true) true 32 v0 d0 p0) (v1 : Value) (d1 : DataW H) (p1 : List MemPlace) (g1 : Value.okWide Tryz.prog w .any base 32 v1) (h1 : DataW.Trod enc Tryz.prog w 0 (fun _ => true) true 32 v1 d1 p1) :
    Calls Tryz.prog 3 #[v0, v1] w fun e w' => e = .returned (.bool true) ∧ Below w.heap.size w w' := by
  obtain ⟨M, a, rfl, hm⟩ := open_msg g0 h0
  obtain ⟨N, b, rfl, hn⟩ := open_msg g1 h1
  clear g0 h0 g1 h1
  have hX := (Blk.new w (msc M a) 32).alloc (.cells (msc N b) 32)
  have hY := Blk.new (w.alloc (.cells (msc M a) 32)) (msc N b) 32
  rw [show (w.alloc (.cells (msc M a) 32)).heap.size = w.heap.size + 1 by simp] at hY
  have hbd := below_two w (.cells (msc M a) 32) (.cells (msc N b) 32)
  have HX := Lib.hid hX
  have HY := Lib.hid hY
  have HM := Lib.hid (hm.below hbd)
  have HN := Lib.hid (hn.below hbd)
  have HB := Lib.hid hbd
  have hsz := hbd.size
  obtain ⟨⟨x0, x1, x2, x3, x4, x5, x6⟩, x7, x8, x9, x10, x11, x12, x13⟩ := ms_cells hX
  clear hm hn hX hY hbd
  go_enter Tryz.func3, Tryz.ntmps3
  go_wp2_with fail
  generalize (w.alloc (.cells (msc M a) 32)).alloc (.cells (msc N b) 32) = w0 at *
  refine (long28_any _ M a w0 HM.out).mono ?_
  rintro en w1 ⟨lb, rfl, hb1, hl⟩
  have HK1 := Lib.hid hb1
  clear x0 x1 x2 x3 x4 x5 x6 x7 x8 x9 x10 x11 x12 x13
  clear hb1
  cases lb
  case true =>
    clear hl
    go_wp2_with fail
    refine (live28_any _).mono ?_
    rintro en wl ⟨rfl, hbl⟩
    have HKL := Lib.hid (HK1.out.trans (hbl.mono HK1.out.size))
    clear hbl
    go_wp2
    go_ret
    exact ⟨rfl, HB.out.trans (HKL.out.mono HB.out.size)⟩
  obtain ⟨s50, l50, bl50, d300, p70, pl20⟩ := hl rfl
  have HS1 : Hid (M.S.length ≤ 1000000) := Lib.hid (by omega)
  have HL1 : Hid (M.L.length ≤ 1000000) := Lib.hid (by omega)
  have HD1 : Hid (M.D.length ≤ 1000000) := Lib.hid (by omega)
  have HP1 : Hid (M.P.length ≤ 1000000) := Lib.hid (by omega)
  have HLL1 : Hid (blen 1000000 M.L) := Lib.hid (fun s hs => Nat.le_trans (bl50 s hs) (by omega))
  have HPL1 : Hid (plen 1000000 M.P) := Lib.hid (plen_mono pl20 (by omega))
  have HS5 : Hid (M.S.length ≤ 100000) := Lib.hid (by omega)
  have HL5 : Hid (M.L.length ≤ 100000) := Lib.hid (by omega)
  have HD5 : Hid (M.D.length ≤ 100000) := Lib.hid (by omega)
  have HDK : Hid (M.D.length ≤ 1000) := Lib.hid (by omega)
  have HP5 : Hid (M.P.length ≤ 100000) := Lib.hid (by omega)
  have HLL5 : Hid (blen 100000 M.L) := Lib.hid (fun s hs => Nat.le_trans (bl50 s hs) (by omega))
  have HPL5 : Hid (plen 100000 M.P) := Lib.hid (plen_mono pl20 (by omega))
  clear hl s50 l50 bl50 d300 p70 pl20
  obtain ⟨⟨y0, y1, y2, y3, y4, y5, y6⟩, y7, y8, y9, y10, y11, y12, y13⟩ := ms_cells (HY.out.below HK1.out)
  go_wp2_with fail
  refine (long28_any _ N b w1 (HN.out.below HK1.out)).mono ?_
  rintro en w2 ⟨lb, rfl, hb2, hl⟩
  have HK2 := Lib.hid (HK1.out.trans (hb2.mono HK1.out.size))
  clear y0 y1 y2 y3 y4 y5 y6 y7 y8 y9 y10 y11 y12 y13
  clear hb2 HK1
  cases lb
  case true =>
    clear hl
    go_wp2_with fail
    refine (live28_any _).mono ?_
    rintro en wl ⟨rfl, hbl⟩
    have HKL := Lib.hid (HK2.out.trans (hbl.mono HK2.out.size))
    clear hbl
    go_wp2
    go_ret
    exact ⟨rfl, HB.out.trans (HKL.out.mono HB.out.size)⟩
  obtain ⟨s50, l50, bl50, d300, p70, pl20⟩ := hl rfl
  have HS2 : Hid (N.S.length ≤ 1000000) := Lib.hid (by omega)
  have HL2 : Hid (N.L.length ≤ 1000000) := Lib.hid (by omega)
  have HP2 : Hid (N.P.length ≤ 1000000) := Lib.hid (by omega)
  have HLL2 : Hid (blen 1000000 N.L) := Lib.hid (fun s hs => Nat.le_trans (bl50 s hs) (by omega))
  have HPL2 : Hid (plen 1000000 N.P) := Lib.hid (plen_mono pl20 (by omega))
  clear hl s50 l50 bl50 d300 p70 pl20
  have hsz2 := HK2.out.size
  obtain ⟨⟨x0, x1, x2, x3, x4, x5, x6⟩, x7, x8, x9, x10, x11, x12, x13⟩ := ms_cells (HX.out.below HK2.out)
  go_wp2_with fail
  refine (bytes28_any M a w2 ((HM.out.below HK2.out).mono fun b hb9 _ => by omega) HS1.out HP1.out HPL1.out HDK.out).mono ?_
  rintro en w3 ⟨hb3, ⟨hok, g, rfl, hg, hbs⟩ | ⟨hok, rfl⟩⟩
  case inr =>
    have HOK := Lib.hid hok
    have HK3 := Lib.hid (HK2.out.trans (hb3.mono HK2.out.size))
    have hsz3 := HK3.out.size
    clear x0 x1 x2 x3 x4 x5 x6 x7 x8 x9 x10 x11 x12 x13
    clear hb3 hok HK2
    go_wp2_with fail
    refine (wnew_any 131072 w3 (by omega)).mono ?_
    rintro en w4 ⟨bp, rfl, hg4, hb4, hw4⟩
    rw [if_neg (by omega)] at hw4
    have HK4 := Lib.hid (HK3.out.trans (hb4.mono HK3.out.size))
    have hput := put28_no _ M a hw4 (HM.out.below HK4.out) HS1.out HD1.out HP1.out HPL1.out HOK.out
    have HB4 := Lib.hid hb4
    clear hb4
    obtain ⟨⟨x0, x1, x2, x3, x4, x5, x6⟩, x7, x8, x9, x10, x11, x12, x13⟩ := ms_cells (HX.out.below HK4.out)
    go_wp2_with fail
    refine hput.mono ?_
    rintro en w5 ⟨rfl, hk5, hw5⟩
    rw [if_pos rfl] at hw5
    have HK5 := Lib.hid (HK3.out.trans ((hw4.belowOf HB4.out (Nat.le_refl _) hk5 (Nat.le_refl _)).mono hsz3))
    clear x0 x1 x2 x3 x4 x5 x6 x7 x8 x9 x10 x11 x12 x13
    clear hput hk5 hw4 HB4 HK4
    go_wp2_with fail
    refine (wbytes_bad hw5 (by decide)).mono ?_
    rintro en w6 ⟨rfl, rfl⟩
    clear hw5
    have hno : Bs w5 none 0 [] := ⟨rfl, fun h => absurd h (by omega)⟩
    go_wp2_with fail
    refine (same_any none none 0 0 0 0 [] w5 hno hno).mono ?_
    rintro en w7 ⟨rfl, he⟩
    subst he
    clear hno
    go_upto_region 9 with (fail)
    have HM9 := Lib.hid (HM.out.below HK5.out)
    have HN9 := Lib.hid (HN.out.below HK5.out)
    have hsz9 := HK5.out.size
    go_cut [60] from 40 (fun v wx => v = .bool false ∧ Hid (Below (w5).heap.size w5 wx))
    case first => as_aux_lemma =>
      have L1 := fun w' (h : BlS w5 w') => ms_cells ((HX.out.below HK5.out).below h)
      have L2 := fun w' (h : BlS w5 w') => ms_cells ((HY.out.below HK5.out).below h)
      have hc1 := fun w' (h : BlS w5 w') => bright28_any _ M a w' (HM9.out.below h) HS1.out HD1.out HP1.out HPL1.out
      have hc2 := fun w' (h : BlS w5 w') => rright28_any _ M a w' (HM9.out.below h) HS1.out HP1.out HPL1.out HD1.out
      have hc3 := fun w' (h : BlS w5 w') => same28_any _ _ M N a b w' (HM9.out.below h) (HN9.out.below h) HS1.out HS2.out HL1.out HL2.out HP1.out HP2.out HLL1.out HLL2.out HPL1.out HPL2.out
      have hc4 := fun w' (h : BlS w5 w') => rsame28_any _ _ M N a b w' (HM9.out.below h) (HN9.out.below h) HS1.out HS2.out HL1.out HL2.out HP1.out HP2.out HLL1.out HLL2.out HPL1.out HPL2.out
      unfold BPost at hc1 hc2 hc3 hc4
      simp only [HOK.out] at hc1 hc2
      generalize msame M N = sm at hc3 hc4
      have HC1 := Lib.hid hc1
      have HC2 := Lib.hid hc2
      have HC3 := Lib.hid hc3
      have HC4 := Lib.hid hc4
      have hsm : (sm != sm) = false := by cases sm <;> rfl
      have HSM := Lib.hid hsm
      clear hc1 hc2 hc3 hc4 hsm
      have hS : BlS w5 (w5).drew := below_one' _
      refine Seq.wp_region_seq (BlS w5) (by kernel_rfl) (by kernel_rfl) hS ?_
      generalize (w5).drew = wd at *
      repeat (first | (refine Seq.Seq.skip (by rfl) ?_; (try simp only [Act.put, List.setIfInBounds_toArray, List.set_cons_zero, List.set_cons_succ])) | (refine Seq.Seq.det ?_ (by rfl) (fun w hS => ?_) ?_; rotate_left; ((try dsimp only at hS); go_simp; (try rw [if_pos (by omega)]); with_reducible rfl); (try simp only [Act.put, List.setIfInBounds_toArray, List.set_cons_zero, List.set_cons_succ])))
      refine Seq.Seq.make (by rfl) (by rfl) (fun K Q' hK => ?_)
      go_simp
      go_at_call 14
      refine (HC1.out _ hS).mono ?_
      rintro e v1 ⟨rfl, hc1⟩
      replace hS := Below.trans hS (hc1.mono (Below.size hS))
      clear hc1
      refine hK.out _ _ (hS) ?_
      clear hK K
      try simp only [Act.put, List.setIfInBounds_toArray, List.set_cons_zero, List.set_cons_succ]
      repeat (first | (refine Seq.Seq.skip (by rfl) ?_; (try simp only [Act.put, List.setIfInBounds_toArray, List.set_cons_zero, List.set_cons_succ])) | (refine Seq.Seq.det ?_ (by rfl) (fun w hS => ?_) ?_; rotate_left; ((try dsimp only at hS); go_simp; (try rw [if_pos (by omega)]); with_reducible rfl); (try simp only [Act.put, List.setIfInBounds_toArray, List.set_cons_zero, List.set_cons_succ])))
      refine Seq.Seq.make (by rfl) (by rfl) (fun K Q' hK => ?_)
      go_simp
      go_at_call 15
      refine (HC2.out _ hS).mono ?_
      rintro e v1 ⟨rfl, hc1⟩
      replace hS := Below.trans hS (hc1.mono (Below.size hS))
      clear hc1
      refine hK.out _ _ (hS) ?_
      clear hK K
      try simp only [Act.put, List.setIfInBounds_toArray, List.set_cons_zero, List.set_cons_succ]
      repeat (first | (refine Seq.Seq.skip (by rfl) ?_; (try simp only [Act.put, List.setIfInBounds_toArray, List.set_cons_zero, List.set_cons_succ])) | (refine Seq.Seq.det ?_ (by rfl) (fun w hS => ?_) ?_; rotate_left; ((try dsimp only at hS); go_simp; (try rw [if_pos (by omega)]); with_reducible rfl); (try simp only [Act.put, List.setIfInBounds_toArray, List.set_cons_zero, List.set_cons_succ])))
      refine Seq.Seq.make (by rfl) (by rfl) (fun K Q' hK => ?_)
      go_simp
      go_at_call 16
      refine (HC3.out _ hS).mono ?_
      rintro e v1 ⟨rfl, hc1⟩
      replace hS := Below.trans hS (hc1.mono (Below.size hS))
      clear hc1
      refine hK.out _ _ (hS) ?_
      clear hK K
      try simp only [Act.put, List.setIfInBounds_toArray, List.set_cons_zero, List.set_cons_succ]
      repeat (first | (refine Seq.Seq.skip (by rfl) ?_; (try simp only [Act.put, List.setIfInBounds_toArray, List.set_cons_zero, List.set_cons_succ])) | (refine Seq.Seq.det ?_ (by rfl) (fun w hS => ?_) ?_; rotate_left; ((try dsimp only at hS); go_simp; (try rw [if_pos (by omega)]); with_reducible rfl); (try simp only [Act.put, List.setIfInBounds_toArray, List.set_cons_zero, List.set_cons_succ])))
      refine Seq.Seq.make (by rfl) (by rfl) (fun K Q' hK => ?_)
      go_simp
      go_at_call 17
      refine (HC4.out _ hS).mono ?_
      rintro e v1 ⟨rfl, hc1⟩
      replace hS := Below.trans hS (hc1.mono (Below.size hS))
      clear hc1
      refine hK.out _ _ (hS) ?_
      clear hK K
      try simp only [Act.put, List.setIfInBounds_toArray, List.set_cons_zero, List.set_cons_succ]
      repeat (first | (refine Seq.Seq.skip (by rfl) ?_; (try simp only [Act.put, List.setIfInBounds_toArray, List.set_cons_zero, List.set_cons_succ])) | (refine Seq.Seq.det ?_ (by rfl) (fun w hS => ?_) ?_; rotate_left; ((try dsimp only at hS); go_simp; (try rw [if_pos (by omega)]); with_reducible rfl); (try simp only [Act.put, List.setIfInBounds_toArray, List.set_cons_zero, List.set_cons_succ])))
      (try rw [HSM.out])
      repeat (first | (refine Seq.Seq.skip (by rfl) ?_; (try simp only [Act.put, List.setIfInBounds_toArray, List.set_cons_zero, List.set_cons_succ])) | (refine Seq.Seq.det ?_ (by rfl) (fun w hS => ?_) ?_; rotate_left; ((try dsimp only at hS); go_simp; (try rw [if_pos (by omega)]); with_reducible rfl); (try simp only [Act.put, List.setIfInBounds_toArray, List.set_cons_zero, List.set_cons_succ])))
      refine Seq.Seq.make (by rfl) (by rfl) (fun K Q' hK => ?_)
      go_simp
      go_at_call 18
      have hsz5 := Below.size hS
      refine (copy28_any M a _ ((HM9.out.below hS).mono fun b hb9 _ => by omega) HS5.out HL5.out HD5.out HP5.out HLL5.out HPL5.out).mono ?_
      rintro en v5 ⟨a5, rfl, hc5, hm5⟩
      replace hS := Below.trans hS (hc5.mono (Below.size hS))
      have HM5 := Lib.hid hm5
      clear hc5 hm5 hsz5
      refine hK.out _ _ (hS) ?_
      clear hK K
      try simp only [Act.put, List.setIfInBounds_toArray, List.set_cons_zero, List.set_cons_succ]
      repeat (first | (refine Seq.Seq.skip (by rfl) ?_; (try simp only [Act.put, List.setIfInBounds_toArray, List.set_cons_zero, List.set_cons_succ])) | (refine Seq.Seq.det ?_ (by rfl) (fun w hS => ?_) ?_; rotate_left; ((try dsimp only at hS); go_simp; (try rw [if_pos (by omega)]); with_reducible rfl); (try simp only [Act.put, List.setIfInBounds_toArray, List.set_cons_zero, List.set_cons_succ])))
      have hc6 := fun w' (h : Below v5.heap.size v5 w') (h' : BlS w5 w') => rsame28_any _ _ M M a5 a w' (HM5.out.below h) (HM9.out.below h') HS1.out HS1.out HL1.out HL1.out HP1.out HP1.out HLL1.out HLL1.out HPL1.out HPL1.out
      simp only [msame_self] at hc6
      unfold BPost at hc6
      have HC6 := Lib.hid hc6
      clear hc6
      refine Seq.Seq.make (by rfl) (by rfl) (fun K Q' hK => ?_)
      go_simp
      go_at_call 17
      refine (HC6.out _ (Below.refl _ _) hS).mono ?_
      rintro e v1 ⟨rfl, hc1⟩
      replace hS := Below.trans hS (hc1.mono (Below.size hS))
      clear hc1
      refine hK.out _ _ (hS) ?_
      clear hK K
      try simp only [Act.put, List.setIfInBounds_toArray, List.set_cons_zero, List.set_cons_succ]
      repeat (first | (refine Seq.Seq.skip (by rfl) ?_; (try simp only [Act.put, List.setIfInBounds_toArray, List.set_cons_zero, List.set_cons_succ])) | (refine Seq.Seq.det ?_ (by rfl) (fun w hS => ?_) ?_; rotate_left; ((try dsimp only at hS); go_simp; (try rw [if_pos (by omega)]); with_reducible rfl); (try simp only [Act.put, List.setIfInBounds_toArray, List.set_cons_zero, List.set_cons_succ])))
      refine Seq.Seq.nil ?_
      go_wp2_with fail
      go_meet
      exact ⟨rfl, Lib.hid hS⟩
    clear HM9 HN9 hsz9
    case rest =>
      obtain ⟨rfl, HC9⟩ := hcut
      have HK9 := Lib.hid (HK5.out.trans (HC9.out.mono HK5.out.size))
      obtain ⟨⟨x0, x1, x2, x3, x4, x5, x6⟩, x7, x8, x9, x10, x11, x12, x13⟩ := ms_cells (HX.out.below HK9.out)
      have hcr := rright28_any _ M a wc (HM.out.below HK9.out) HS1.out HP1.out HPL1.out HD1.out
      unfold BPost at hcr
      rw [HOK.out] at hcr
      go_wp2_with fail
      refine hcr.mono ?_
      rintro en w8 ⟨rfl, hb8⟩
      have HK10 := Lib.hid (HK9.out.trans (hb8.mono HK9.out.size))
      clear x0 x1 x2 x3 x4 x5 x6 x7 x8 x9 x10 x11 x12 x13
      clear hb8 hcr
      go_wp2_with fail
      refine (live28_any _).mono ?_
      rintro en wl ⟨rfl, hbl⟩
      have HKL := Lib.hid (HK10.out.trans (hbl.mono HK10.out.size))
      clear hbl
      go_wp2
      go_ret
      exact ⟨rfl, HB.out.trans (HKL.out.mono HB.out.size)⟩
  have HOK := Lib.hid hok
  have HLE := Lib.hid (bdz_len hok HDK.out)
  have HK3 := Lib.hid (HK2.out.trans (hb3.mono HK2.out.size))
  have hsz3 := HK3.out.size
  clear x0 x1 x2 x3 x4 x5 x6 x7 x8 x9 x10 x11 x12 x13
  clear hb3 hok HK2 hg
  have HBS := Lib.hid hbs
  clear hbs
  go_wp2_with fail
  refine (wnew_any 131072 w3 (by omega)).mono ?_
  rintro en w4 ⟨bp, rfl, hg4, hb4, hw4⟩
  rw [if_neg (by omega)] at hw4
  have HK4 := Lib.hid (HK3.out.trans (hb4.mono HK3.out.size))
  have hput := put28_yes (y := []) (X := 131072) (fun b => b < w.heap.size) M a hw4 (HM.out.below HK4.out) HS1.out HP1.out HPL1.out HOK.out HDK.out (fun b' h1 _ => hw4.off_lt (by omega)) (fun b' h1 => by omega) (.inl rfl) (by simp) (by simp) hb4.size
  rw [List.nil_append] at hput
  have HB4 := Lib.hid hb4
  clear hb4
  obtain ⟨⟨x0, x1, x2, x3, x4, x5, x6⟩, x7, x8, x9, x10, x11, x12, x13⟩ := ms_cells (HX.out.below HK4.out)
  go_wp2_with fail
  refine hput.mono ?_
  rintro en w5 ⟨r5, rfl, hk5, _, hw5⟩
  have HB5 := Lib.hid (hw4.belowOf HB4.out (Nat.le_refl _) hk5 (Nat.le_refl _))
  have HK5 := Lib.hid (HK3.out.trans (HB5.out.mono hsz3))
  have HBS5 := Lib.hid (HBS.out.below HB5.out)
  clear x0 x1 x2 x3 x4 x5 x6 x7 x8 x9 x10 x11 x12 x13
  clear hput hk5 hw4 HB4 HK4 HBS HB5
  go_wp2_with fail
  refine (wbytes_good (z := bdz M) hw5 (by have := HLE.out; omega)).mono ?_
  rintro en w6 ⟨g6, rfl, hg6, hb6, hblk6⟩
  have hs6 := Bs.of_block hblk6
  have hq6 := HBS5.out.below hb6
  have HK6 := Lib.hid (HK5.out.trans (hb6.mono HK5.out.size))
  have HQ6 := Lib.hid hq6
  clear hw5 hb6 hblk6 HBS5 hg6
  go_wp2_with fail
  refine (same_any _ _ _ _ _ _ (bdz M) w6 hs6 hq6).mono ?_
  rintro en w7 ⟨rfl, he⟩
  subst he
  clear hs6 hq6
  go_upto_region 9 with (fail)
  have HM9 := Lib.hid (HM.out.below HK6.out)
  have HN9 := Lib.hid (HN.out.below HK6.out)
  have hsz9 := HK6.out.size
  go_cut [60] from 40 (fun v wx => v = .bool false ∧ Hid (Below (w6).heap.size w6 wx))
  case first => as_aux_lemma =>
    have L1 := fun w' (h : BlS w6 w') => ms_cells ((HX.out.below HK6.out).below h)
    have L2 := fun w' (h : BlS w6 w') => ms_cells ((HY.out.below HK6.out).below h)
    have hc1 := fun w' (h : BlS w6 w') => bright28_any _ M a w' (HM9.out.below h) HS1.out HD1.out HP1.out HPL1.out
    have hc2 := fun w' (h : BlS w6 w') => rright28_any _ M a w' (HM9.out.below h) HS1.out HP1.out HPL1.out HD1.out
    have hc3 := fun w' (h : BlS w6 w') => same28_any _ _ M N a b w' (HM9.out.below h) (HN9.out.below h) HS1.out HS2.out HL1.out HL2.out HP1.out HP2.out HLL1.out HLL2.out HPL1.out HPL2.out
    have hc4 := fun w' (h : BlS w6 w') => rsame28_any _ _ M N a b w' (HM9.out.below h) (HN9.out.below h) HS1.out HS2.out HL1.out HL2.out HP1.out HP2.out HLL1.out HLL2.out HPL1.out HPL2.out
    unfold BPost at hc1 hc2 hc3 hc4
    simp only [HOK.out] at hc1 hc2
    generalize msame M N = sm at hc3 hc4
    have HC1 := Lib.hid hc1
    have HC2 := Lib.hid hc2
    have HC3 := Lib.hid hc3
    have HC4 := Lib.hid hc4
    have hsm : (sm != sm) = false := by cases sm <;> rfl
    have HSM := Lib.hid hsm
    clear hc1 hc2 hc3 hc4 hsm
    have hS : BlS w6 (w6).drew := below_one' _
    refine Seq.wp_region_seq (BlS w6) (by kernel_rfl) (by kernel_rfl) hS ?_
    generalize (w6).drew = wd at *
    repeat (first | (refine Seq.Seq.skip (by rfl) ?_; (try simp only [Act.put, List.setIfInBounds_toArray, List.set_cons_zero, List.set_cons_succ])) | (refine Seq.Seq.det ?_ (by rfl) (fun w hS => ?_) ?_; rotate_left; ((try dsimp only at hS); go_simp; (try rw [if_pos (by omega)]); with_reducible rfl); (try simp only [Act.put, List.setIfInBounds_toArray, List.set_cons_zero, List.set_cons_succ])))
    refine Seq.Seq.make (by rfl) (by rfl) (fun K Q' hK => ?_)
    go_simp
    go_at_call 14
    refine (HC1.out _ hS).mono ?_
    rintro e v1 ⟨rfl, hc1⟩
    replace hS := Below.trans hS (hc1.mono (Below.size hS))
    clear hc1
    refine hK.out _ _ (hS) ?_
    clear hK K
    try simp only [Act.put, List.setIfInBounds_toArray, List.set_cons_zero, List.set_cons_succ]
    repeat (first | (refine Seq.Seq.skip (by rfl) ?_; (try simp only [Act.put, List.setIfInBounds_toArray, List.set_cons_zero, List.set_cons_succ])) | (refine Seq.Seq.det ?_ (by rfl) (fun w hS => ?_) ?_; rotate_left; ((try dsimp only at hS); go_simp; (try rw [if_pos (by omega)]); with_reducible rfl); (try simp only [Act.put, List.setIfInBounds_toArray, List.set_cons_zero, List.set_cons_succ])))
    refine Seq.Seq.make (by rfl) (by rfl) (fun K Q' hK => ?_)
    go_simp
    go_at_call 15
    refine (HC2.out _ hS).mono ?_
    rintro e v1 ⟨rfl, hc1⟩
    replace hS := Below.trans hS (hc1.mono (Below.size hS))
    clear hc1
    refine hK.out _ _ (hS) ?_
    clear hK K
    try simp only [Act.put, List.setIfInBounds_toArray, List.set_cons_zero, List.set_cons_succ]
    repeat (first | (refine Seq.Seq.skip (by rfl) ?_; (try simp only [Act.put, List.setIfInBounds_toArray, List.set_cons_zero, List.set_cons_succ])) | (refine Seq.Seq.det ?_ (by rfl) (fun w hS => ?_) ?_; rotate_left; ((try dsimp only at hS); go_simp; (try rw [if_pos (by omega)]); with_reducible rfl); (try simp only [Act.put, List.setIfInBounds_toArray, List.set_cons_zero, List.set_cons_succ])))
    refine Seq.Seq.make (by rfl) (by rfl) (fun K Q' hK => ?_)
    go_simp
    go_at_call 16
    refine (HC3.out _ hS).mono ?_
    rintro e v1 ⟨rfl, hc1⟩
    replace hS := Below.trans hS (hc1.mono (Below.size hS))
    clear hc1
    refine hK.out _ _ (hS) ?_
    clear hK K
    try simp only [Act.put, List.setIfInBounds_toArray, List.set_cons_zero, List.set_cons_succ]
    repeat (first | (refine Seq.Seq.skip (by rfl) ?_; (try simp only [Act.put, List.setIfInBounds_toArray, List.set_cons_zero, List.set_cons_succ])) | (refine Seq.Seq.det ?_ (by rfl) (fun w hS => ?_) ?_; rotate_left; ((try dsimp only at hS); go_simp; (try rw [if_pos (by omega)]); with_reducible rfl); (try simp only [Act.put, List.setIfInBounds_toArray, List.set_cons_zero, List.set_cons_succ])))
    refine Seq.Seq.make (by rfl) (by rfl) (fun K Q' hK => ?_)
    go_simp
    go_at_call 17
    refine (HC4.out _ hS).mono ?_
    rintro e v1 ⟨rfl, hc1⟩
    replace hS := Below.trans hS (hc1.mono (Below.size hS))
    clear hc1
    refine hK.out _ _ (hS) ?_
    clear hK K
    try simp only [Act.put, List.setIfInBounds_toArray, List.set_cons_zero, List.set_cons_succ]
    repeat (first | (refine Seq.Seq.skip (by rfl) ?_; (try simp only [Act.put, List.setIfInBounds_toArray, List.set_cons_zero, List.set_cons_succ])) | (refine Seq.Seq.det ?_ (by rfl) (fun w hS => ?_) ?_; rotate_left; ((try dsimp only at hS); go_simp; (try rw [if_pos (by omega)]); with_reducible rfl); (try simp only [Act.put, List.setIfInBounds_toArray, List.set_cons_zero, List.set_cons_succ])))
    (try rw [HSM.out])
    repeat (first | (refine Seq.Seq.skip (by rfl) ?_; (try simp only [Act.put, List.setIfInBounds_toArray, List.set_cons_zero, List.set_cons_succ])) | (refine Seq.Seq.det ?_ (by rfl) (fun w hS => ?_) ?_; rotate_left; ((try dsimp only at hS); go_simp; (try rw [if_pos (by omega)]); with_reducible rfl); (try simp only [Act.put, List.setIfInBounds_toArray, List.set_cons_zero, List.set_cons_succ])))
    refine Seq.Seq.make (by rfl) (by rfl) (fun K Q' hK => ?_)
    go_simp
    go_at_call 18
    have hsz5 := Below.size hS
    refine (copy28_any M a _ ((HM9.out.below hS).mono fun b hb9 _ => by omega) HS5.out HL5.out HD5.out HP5.out HLL5.out HPL5.out).mono ?_
    rintro en v5 ⟨a5, rfl, hc5, hm5⟩
    replace hS := Below.trans hS (hc5.mono (Below.size hS))
    have HM5 := Lib.hid hm5
    clear hc5 hm5 hsz5
    refine hK.out _ _ (hS) ?_
    clear hK K
    try simp only [Act.put, List.setIfInBounds_toArray, List.set_cons_zero, List.set_cons_succ]
    repeat (first | (refine Seq.Seq.skip (by rfl) ?_; (try simp only [Act.put, List.setIfInBounds_toArray, List.set_cons_zero, List.set_cons_succ])) | (refine Seq.Seq.det ?_ (by rfl) (fun w hS => ?_) ?_; rotate_left; ((try dsimp only at hS); go_simp; (try rw [if_pos (by omega)]); with_reducible rfl); (try simp only [Act.put, List.setIfInBounds_toArray, List.set_cons_zero, List.set_cons_succ])))
    have hc6 := fun w' (h : Below v5.heap.size v5 w') (h' : BlS w6 w') => rsame28_any _ _ M M a5 a w' (HM5.out.below h) (HM9.out.below h') HS1.out HS1.out HL1.out HL1.out HP1.out HP1.out HLL1.out HLL1.out HPL1.out HPL1.out
    simp only [msame_self] at hc6
    unfold BPost at hc6
    have HC6 := Lib.hid hc6
    clear hc6
    refine Seq.Seq.make (by rfl) (by rfl) (fun K Q' hK => ?_)
    go_simp
    go_at_call 17
    refine (HC6.out _ (Below.refl _ _) hS).mono ?_
    rintro e v1 ⟨rfl, hc1⟩
    replace hS := Below.trans hS (hc1.mono (Below.size hS))
    clear hc1
    refine hK.out _ _ (hS) ?_
    clear hK K
    try simp only [Act.put, List.setIfInBounds_toArray, List.set_cons_zero, List.set_cons_succ]
    repeat (first | (refine Seq.Seq.skip (by rfl) ?_; (try simp only [Act.put, List.setIfInBounds_toArray, List.set_cons_zero, List.set_cons_succ])) | (refine Seq.Seq.det ?_ (by rfl) (fun w hS => ?_) ?_; rotate_left; ((try dsimp only at hS); go_simp; (try rw [if_pos (by omega)]); with_reducible rfl); (try simp only [Act.put, List.setIfInBounds_toArray, List.set_cons_zero, List.set_cons_succ])))
    refine Seq.Seq.nil ?_
    go_wp2_with fail
    go_meet
    exact ⟨rfl, Lib.hid hS⟩
  clear HM9 HN9 hsz9
  case rest =>
    obtain ⟨rfl, HC9⟩ := hcut
    have HK9 := Lib.hid (HK6.out.trans (HC9.out.mono HK6.out.size))
    have HQ9 := Lib.hid (HQ6.out.below HC9.out)
    obtain ⟨⟨x0, x1, x2, x3, x4, x5, x6⟩, x7, x8, x9, x10, x11, x12, x13⟩ := ms_cells (HX.out.below HK9.out)
    have hcr := rright28_any _ M a wc (HM.out.below HK9.out) HS1.out HP1.out HPL1.out HD1.out
    unfold BPost at hcr
    rw [HOK.out] at hcr
    go_wp2_with fail
    refine hcr.mono ?_
    rintro en w8 ⟨rfl, hb8⟩
    have HK10 := Lib.hid (HK9.out.trans (hb8.mono HK9.out.size))
    have HQ10 := Lib.hid (HQ9.out.below hb8)
    clear x0 x1 x2 x3 x4 x5 x6 x7 x8 x9 x10 x11 x12 x13
    clear hb8 hcr
    obtain ⟨⟨x0, x1, x2, x3, x4, x5, x6⟩, x7, x8, x9, x10, x11, x12, x13⟩ := ms_cells (HX.out.below HK10.out)
    have hBB := rbytes28_any _ M a w8 (HM.out.below HK10.out) HOK.out HDK.out
    go_wp2_with fail
    refine hBB.mono ?_
    rintro en w9 ⟨A9, m9, rfl, hb9, hbs9, _⟩
    have hq9 := HQ10.out.below hb9
    have HK11 := Lib.hid (HK10.out.trans (hb9.mono HK10.out.size))
    clear x0 x1 x2 x3 x4 x5 x6 x7 x8 x9 x10 x11 x12 x13
    clear hb9 hBB
    go_wp2_with fail
    refine (same_any _ _ _ _ _ _ (bdz M) w9 hq9 hbs9).mono ?_
    rintro en w10 ⟨rfl, he⟩
    subst he
    clear hq9 hbs9
    go_wp2_with fail
    refine (live28_any _).mono ?_
    rintro en wl ⟨rfl, hbl⟩
    have HKL := Lib.hid (HK11.out.trans (hbl.mono HK11.out.size))
    clear hbl
    go_wp2
    go_ret
    exact ⟨rfl, HB.out.trans (HKL.out.mono HB.out.size)⟩
set_option maxRecDepth 100000 in
theorem lifted (os : Os) (started : os.Started) (H : Type) (enc : TypeId × Value → H) :
    ReturnsInHanded {} Tryz.checked os 3 .any (Rows.bodyWritesSpec.pre6 enc Tryz.prog Tryz.f3 Rows.bodyWritesRow.domain false) (Rows.bodyWritesSpec.post enc Tryz.prog Tryz.f3 false true false false) := by
  refine returnsInHanded_of_change (C := Tryz.checked) own started (by kernel_rfl) Tryz.func3
    (ChangeSpec.witness6 (enc := enc) (C := Tryz.checked) false ⟨#[], #[.agg #[.int .i64 0, .int .u64 0, .int .u64 0, .int .u64 0, .int .i64 0, .int .i64 0, .slice none 0 0, .slice none 0 0, .slice none 0 0, .int .u64 0, .int .u64 0, .int .u64 0, .int .u64 0, .slice none 0 0], .agg #[.int .i64 0, .int .u64 0, .int .u64 0, .int .u64 0, .int .i64 0, .int .i64 0, .slice none 0 0, .slice none 0 0, .slice none 0 0, .int .u64 0, .int .u64 0, .int .u64 0, .int .u64 0, .slice none 0 0]], []⟩ 8 (by kernel_rfl) (by kernel_rfl) (by kernel_rfl) (by kernel_rfl)) ?_
  intro W base args ds gs before hval0 hW hcnd _
  have hval : ∀ (j : Nat) t v, Tryz.f3.params[j]? = some t → args[j]? = some v → Value.okWide Tryz.prog W .any base t v := hval0
  have hW' := hW
  obtain ⟨p, q, hA0, hV, rfl, hfz, hnd⟩ := hW
  have hA : DataW.TrodAll enc Tryz.prog W 0 (fun _ => true) true Tryz.f3.params.toList args.toList ds p := hA0
  rw [Tryz.params3] at hA hval
  obtain ⟨v0, vs0, d0, ds0, p0, q0, hargs, rfl, rfl, h0, r0⟩ := trodAll_cons hA
  obtain ⟨v1, vs1, d1, ds1, p1, q1, rfl, rfl, rfl, h1, r1⟩ := trodAll_cons r0
  obtain ⟨rfl, rfl, rfl⟩ := trodAll_nil r1
  obtain rfl : args = #[v0, v1] := by cases args; simp_all
  obtain ⟨rfl, rfl⟩ := trodVars_none hV
  have lt0 : ∀ x ∈ p0, x.block < W.heap.size := by obtain ⟨m, hm⟩ := h0; exact DataW.trod_lt m _ _ _ hm
  have lt1 : ∀ x ∈ p1, x.block < W.heap.size := by obtain ⟨m, hm⟩ := h1; exact DataW.trod_lt m _ _ _ hm
  clear hA0 hval0
  refine (walk enc W base v0 d0 p0 (hval 0 32 v0 rfl rfl) h0 v1 d1 p1 (hval 1 32 v1 rfl rfl) h1).mono fun e W' ⟨he, bel⟩ => ?_
  subst he
  exact ⟨_, rfl, _, _, _, [], _, [], hW', trodAll_mk1 (shut_bool Tryz.underlying4 _), (trodAll_cons_mk (Below.trod laidOut (by kernel_rfl) (of_decide_eq_true (by kernel_rfl)) h0 bel lt0) (trodAll_cons_mk (Below.trod laidOut (by kernel_rfl) (of_decide_eq_true (by kernel_rfl)) h1 bel lt1) trodAll_mk0)), rfl, bel.frame _, fun h => by cases h⟩
theorem over : Rows.bodyWritesRow.holds Tryz.pinned (OpenSpec.ofChange Rows.bodyWritesSpec) :=
  OpenClaim.holds_of_wide 3 Tryz.f3 rfl rfl rfl rfl rfl rfl rfl ⟨rfl, rfl, rfl, rfl, rfl⟩ rfl rfl rfl rfl rfl (by kernel_rfl) Tryz.func3 (by kernel_rfl)
    (of_decide_eq_true (by kernel_rfl)) (by unfold Func.isWrapper; first | (rw [if_pos (by decide +kernel)]; kernel_rfl) | (rw [if_neg (by decide +kernel)]; exact ⟨rfl, rfl⟩))
    (fun os started H enc _ => lifted os started H enc)
theorem proved : Rows.BodyWritesSaid := over
#print axioms proved
end Go.Proofs.YtmiimjgfainclaaGreat.bodyWrites
