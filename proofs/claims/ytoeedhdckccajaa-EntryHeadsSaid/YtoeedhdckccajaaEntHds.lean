/- EntryHeads: called with any number, any entry and any bytes, the law returns true; no condition. -/
import Derived.Test.YtoeedhdckccajaaRows
import Derived.Test.YtoeedhdckccajaaEntD
import Derived.Test.YtoeedhdckccajaaK34
import Derived.Test.YtoeedhdckccajaaK33
import Derived.ProofKit
import Derived.OpenShut
import Derived.ShutString
import Derived.ChangeOld
namespace Go.Proofs.Ytoeedhdckccajaa.entryHeads
open Go.ChangeShapes Go.WideShapes Go.ChangeAt Go.RowKit
open Go.ChangeMaps (open_string shut_string)
set_option linter.unusedVariables false

theorem own : ownKnob Try.prog.godebug = none := by kernel_rfl
theorem laidOut : laidOutB Try.prog = true := by kernel_rfl
open Cur Mem

set_option maxRecDepth 100000

theorem own_row {w : World} {g B : Nat} {z : List Int} (h : Blk w g (z.map (Value.int .u8)).toArray 5) (hB : B ≤ g) (hm : z.length ≤ 1000000) : Own w B (.slice (some ⟨g, 0, none⟩) z.length z.length) z :=
  ⟨by simp, .inr ⟨g, z.length, _, rfl, hB, h, Nat.le_refl _, by simp only [maxLen]; omega, by simp, by rw [Nat.mul_one]; exact List.take_of_length_le (by simp)⟩⟩
theorem own_parts {w : World} {B : Nat} {v : Value} {z : List Int} (h : Own w B v z) : ∃ A c, v = .slice A z.length c ∧ Bs w A z.length z ∧ (A = none → c = 0) ∧ z.length ≤ c := by
  obtain ⟨A, c, rfl, h0, h1⟩ := own_slice h
  exact ⟨A, c, rfl, h.bs.2, h0, h1⟩


set_option maxHeartbeats 8000000 in
theorem walk {H : Type} (enc : TypeId × Value → H) (w : World) (base : Nat) (v0 : Value) (d0 : DataW H) (p0 : List MemPlace) (g0 : Value.okWide Try.prog w .any base 22 v0) (h0 : DataW.Trod enc Try.prog w 0 (fun _ => true) true 22 v0 d0 p0) (v1 : Value) (d1 : DataW H) (p1 : List MemPlace) (g1 : Value.okWide Try.prog w .any base 26 v1) (h1 : DataW.Trod enc Try.prog w 0 (fun _ => true) true 26 v1 d1 p1) (v2 : Value) (d2 : DataW H) (p2 : List MemPlace) (g2 : Value.okWide Try.prog w .any base 24 v2) (h2 : DataW.Trod enc Try.prog w 0 (fun _ => true) true 24 v2 d2 p2) :
    Calls Try.prog 3 #[v0, v1, v2] w fun e w' => e = .returned (.bool true) ∧ Below w.heap.size w w' := by
  obtain ⟨pos, rfl, b0, b1⟩ := open_u64 g0 h0
  obtain ⟨A, n, m, B, r, k, L, D, rfl, hnm, hnilA, hz, hrk, hnilB, hd, hdb, _⟩ := open_entry g1 h1
  obtain ⟨a, rr, mm, z, rfl, hrm, hzb, hbyb, hnilb⟩ := open_bytes g2 h2
  clear g0 h0 g1 h1 g2 h2
  have hbE := below_one w (.cells (enc' A n m B r k) 26)
  have hX := Blk.new w (enc' A n m B r k) 26
  have HZ := Lib.hid (hz.below hbE)
  have HZB := Lib.hid (hzb.below hbE)
  have HBB := Lib.hid hbyb
  have HNILB := Lib.hid hnilb
  have hEB : w.heap.size < (w.alloc (.cells (enc' A n m B r k) 26)).heap.size := by simp
  clear hz hzb hnilb hbyb hd hdb hrk hnilB hnilA
  go_enter Try.func3, Try.ntmps3
  obtain ⟨x0, x1⟩ := hX.c2
  go_wp2_with fail
  generalize w.alloc (.cells (enc' A n m B r k) 26) = wE at *
  have HbE := Lib.hid hbE
  clear hbE
  obtain ⟨eb, heb⟩ : ∃ eb, eb = w.heap.size := ⟨_, rfl⟩
  rw [← heb] at hX x0 x1 hEB ⊢
  have HX := Lib.hid hX
  clear hX heb
  have hbd := Below.refl wE.heap.size wE
  refine (long24_any _ A n m L B r k wE HZ.out).mono ?_
  rintro e w0 ⟨lb, rfl, hb0, hlong⟩
  clear x0 x1
  replace hbd := hbd.trans (hb0.mono hbd.size)
  clear hb0
  cases lb
  case true =>
    clear hlong
    go_wp2_with fail
    refine (live24_any _).mono ?_
    rintro e wl ⟨rfl, hbl⟩
    replace hbd := hbd.trans (hbl.mono hbd.size)
    go_wp2
    go_ret
    exact ⟨rfl, HbE.out.trans (hbd.mono HbE.out.size)⟩
  by_cases hr : 300 < (rr : Int)
  · clear hlong
    go_wp2_with fail
    refine (live24_any _).mono ?_
    rintro e wl ⟨rfl, hbl⟩
    replace hbd := hbd.trans (hbl.mono hbd.size)
    go_wp2
    go_ret
    exact ⟨rfl, HbE.out.trans (hbd.mono HbE.out.size)⟩
  obtain ⟨hn50, hbl50, hr500⟩ := hlong rfl
  have HBL := Lib.hid (hbl50.le (N := 1000000) (by omega))
  clear hlong hbl50
  have HRF := fun w' (h : Below wE.heap.size wE w') => renright_any _ pos A n m L B r k w' (HZ.out.below h) b0 b1
  have HPF := fun w' (h : Below wE.heap.size wE w') => enright_any _ pos A n m L B r k w' (HZ.out.below h) b0 b1
  have HSI := fun w' (h : Below wE.heap.size wE w') => headsize_any _ pos A n m L B r k w' (HZ.out.below h) b0 b1
  unfold BPost at HRF HPF HSI
  cases hok : enok pos L r
  case false =>
    have HOK := Lib.hid hok
    have HD0 : Hid (ensz pos L r = 0) := Lib.hid (if_neg (by simp [hok]))
    simp only [hok, HD0.out] at HRF HPF HSI
    clear hok
    go_wp2_with fail
    refine (wnew_any 4000 w0 (by omega)).mono ?_
    rintro e w1 ⟨b, rfl, hbb, hb1, hw1⟩
    rw [if_neg (by omega)] at hw1
    have hbd1 := hbd.trans (hb1.mono hbd.size)
    clear hb1
    obtain ⟨x0, x1⟩ := (HX.out.below hbd1).c2
    go_wp2_with fail
    refine (puthead_no _ pos A n m L B r k hw1 (HZ.out.below hbd1) b0 b1 HOK.out).mono ?_
    rintro e w2 ⟨rfl, hk2, hw2⟩
    rw [if_pos rfl] at hw2
    replace hbd := hw1.belowOf hbd1 (Nat.le_refl _) hk2 (by have := hbd.size; omega)
    clear hk2 hw1 hbd1 x0 x1
    go_wp2_with fail
    refine (wbytes_bad hw2 (by decide)).mono ?_
    rintro e w3 ⟨rfl, rfl⟩
    clear hw2
    go_upto_region 6 with (fail)
    have L0 : ∀ w', Blk w' eb (enc' A n m B r k) 26 → w'.cell? ⟨eb, 0, none⟩ = some (.slice A n m) ∧ w'.cell? ⟨eb, 1, none⟩ = some (.slice B r k) := fun w' h => h.c2
    replace hbd : Below wE.heap.size wE w2.drew := hbd.trans ((below_one' _).mono hbd.size)
    have hS : Blk w2.drew eb (enc' A n m B r k) 26 := HX.out.below hbd
    refine Seq.wp_region_seq (fun w' => Blk w' eb (enc' A n m B r k) 26) (by kernel_rfl) (by kernel_rfl) hS ?_
    generalize w2.drew = wd at *
    repeat (first | (refine Seq.Seq.skip (by rfl) ?_; (try simp only [Act.put, List.setIfInBounds_toArray, List.set_cons_zero, List.set_cons_succ])) | (refine Seq.Seq.det ?_ (by rfl) (fun w hS => ?_) ?_; rotate_left; ((try dsimp only at hS); go_simp; (try rw [if_pos (by omega)]); with_reducible rfl); (try simp only [Act.put, List.setIfInBounds_toArray, List.set_cons_zero, List.set_cons_succ])))
    refine Seq.Seq.make (by rfl) (by rfl) (fun K Q' hK => ?_)
    go_simp
    go_at_call 12
    refine (HPF _ hbd).mono ?_
    rintro e w41 ⟨rfl, hb41⟩
    replace hbd := hbd.trans (hb41.mono hbd.size)
    replace hS := hS.below hb41
    refine hK.out _ _ (hS) ?_
    clear hK K
    try simp only [Act.put, List.setIfInBounds_toArray, List.set_cons_zero, List.set_cons_succ]
    repeat (first | (refine Seq.Seq.skip (by rfl) ?_; (try simp only [Act.put, List.setIfInBounds_toArray, List.set_cons_zero, List.set_cons_succ])) | (refine Seq.Seq.det ?_ (by rfl) (fun w hS => ?_) ?_; rotate_left; ((try dsimp only at hS); go_simp; (try rw [if_pos (by omega)]); with_reducible rfl); (try simp only [Act.put, List.setIfInBounds_toArray, List.set_cons_zero, List.set_cons_succ])))
    refine Seq.Seq.make (by rfl) (by rfl) (fun K Q' hK => ?_)
    go_simp
    go_at_call 13
    refine (HRF _ hbd).mono ?_
    rintro e w42 ⟨rfl, hb42⟩
    replace hbd := hbd.trans (hb42.mono hbd.size)
    replace hS := hS.below hb42
    refine hK.out _ _ (hS) ?_
    clear hK K
    try simp only [Act.put, List.setIfInBounds_toArray, List.set_cons_zero, List.set_cons_succ]
    repeat (first | (refine Seq.Seq.skip (by rfl) ?_; (try simp only [Act.put, List.setIfInBounds_toArray, List.set_cons_zero, List.set_cons_succ])) | (refine Seq.Seq.det ?_ (by rfl) (fun w hS => ?_) ?_; rotate_left; ((try dsimp only at hS); go_simp; (try rw [if_pos (by omega)]); with_reducible rfl); (try simp only [Act.put, List.setIfInBounds_toArray, List.set_cons_zero, List.set_cons_succ])))
    refine Seq.Seq.nil ?_
    clear L0
    obtain ⟨x0, x1⟩ := (HX.out.below hbd).c2
    go_wp2_with fail
    refine (HRF _ hbd).mono ?_
    rintro e w6 ⟨rfl, hb6⟩
    replace hbd := hbd.trans (hb6.mono hbd.size)
    clear hb6 HRF x0 x1
    obtain ⟨x0, x1⟩ := (HX.out.below hbd).c2
    go_wp2_with fail
    refine (HSI _ hbd).mono ?_
    rintro e w7 ⟨rfl, hb7⟩
    replace hbd := hbd.trans (hb7.mono hbd.size)
    clear hb7 HSI x0 x1
    go_wp2_with fail
    refine (live24_any _).mono ?_
    rintro e wl ⟨rfl, hbl⟩
    replace hbd := hbd.trans (hbl.mono hbd.size)
    go_wp2
    go_ret
    exact ⟨rfl, HbE.out.trans (hbd.mono HbE.out.size)⟩
  case true =>
    have hrl : r ≤ 1048576 ∧ lkok pos L = true := by unfold enok at hok; simpa using hok
    have HOK := Lib.hid hok
    have HLE : Hid ((lkz pos L ++ vz r).length ≤ 980) := Lib.hid (by rw [List.length_append, vz_length]; have h1 := lkz_len hrl.2; have h2 := vsz_le (r : Int); omega)
    have HYB : Hid (∀ x ∈ lkz pos L ++ vz r, 0 ≤ x ∧ x < 256) := Lib.hid fun x hx => by
      rcases List.mem_append.1 hx with hx | hx
      · exact lkz_byte b1 hrl.2 HZ.out.bds x hx
      · exact vz_byte (r : Int) (by omega) (by omega) x hx
    have HD0 : Hid (ensz pos L r = ((lkz pos L ++ vz r).length : Int)) := Lib.hid (by unfold ensz; rw [if_pos hok, List.length_append, vz_length])
    have HRB := fun w' (h : Below wE.heap.size wE w') => rhead_any24 _ pos A n m L B r k w' (HZ.out.below h) b0 b1 hrl.2 hrl.1
    have HPI : Hid (puts (lkis pos L n ++ [vz r]) [] 4000 0 = (lkz pos L ++ vz r, 0)) := Lib.hid (by
      have h9 : (lkis pos L n ++ [vz (r : Int)]).flatten = lkz pos L ++ vz r := by rw [List.flatten_append, ← HZ.out.1, lkis_end]; simp
      rw [puts_fits (by rw [h9]; have := HLE.out; simp only [List.length_nil]; omega), h9, List.nil_append])
    simp only [hok, HD0.out] at HRF HPF HSI
    have HE : Hid (hrd (lkz pos L ++ vz r ++ z) pos 500 0 = ((L, (r : Int)), ((lkz pos L ++ vz r).length : Int), 0, 0)) := Lib.hid (by
      have := hrd_put (z := lkz pos L ++ vz r ++ z) (pre := []) (rest := z) (L := L) (r := r) (pos := pos) (mo := 500) (by simp) b1 hrl.2 HZ.out.bds (by omega) (by omega)
      simpa using this)
    clear hok hrl
    go_wp2_with fail
    refine (wnew_any 4000 w0 (by omega)).mono ?_
    rintro e w1 ⟨b, rfl, hbb, hb1, hw1⟩
    rw [if_neg (by omega)] at hw1
    have hbd1 := hbd.trans (hb1.mono hbd.size)
    have hw0 := hbd.size
    have hw01 := hb1.size
    clear hb1
    obtain ⟨x0, x1⟩ := (HX.out.below hbd1).c2
    go_wp2_with fail
    refine (puthead_yes _ pos A n m L B r k hw1 (HZ.out.below hbd1) b0 b1 HOK.out (fun b' h _ => hw1.off_lt (by have h2 : b' < w.heap.size := h; have := HbE.out.size; omega)) (by simp) hw01).mono ?_
    rintro e w2 ⟨r2, rfl, hk2, _, hw2⟩
    rw [HPI.out] at hw2
    replace hbd := hw1.belowOf hbd1 (Nat.le_refl _) hk2 hw0
    obtain ⟨Y, hY⟩ : ∃ Y, Y = lkz pos L ++ vz r := ⟨_, rfl⟩
    rw [← hY] at hw2 HLE HYB HE
    simp only [← hY] at HRB HSI
    clear hk2 hw1 hY HPI HD0 hbd1 hw0 hw01 x0 x1
    go_wp2_with fail
    refine (wbytes_good (z := Y) hw2 (by have := HLE.out; omega)).mono ?_
    rintro e w3 ⟨g3, rfl, hg3, hb3, hblk⟩
    have hs3 := Bs.of_block hblk
    replace hbd := hbd.trans (hb3.mono hbd.size)
    clear hw2 hblk hb3 hg3
    replace hs3 := hs3.below (below_one' w3)
    go_upto_region 6 with (fail)
    have L0 : ∀ w', Blk w' eb (enc' A n m B r k) 26 → w'.cell? ⟨eb, 0, none⟩ = some (.slice A n m) ∧ w'.cell? ⟨eb, 1, none⟩ = some (.slice B r k) := fun w' h => h.c2
    replace hbd : Below wE.heap.size wE w3.drew := hbd.trans ((below_one' _).mono hbd.size)
    have hS : Blk w3.drew eb (enc' A n m B r k) 26 := HX.out.below hbd
    refine Seq.wp_region_seq (fun w' => Blk w' eb (enc' A n m B r k) 26) (by kernel_rfl) (by kernel_rfl) hS ?_
    generalize w3.drew = wd at *
    repeat (first | (refine Seq.Seq.skip (by rfl) ?_; (try simp only [Act.put, List.setIfInBounds_toArray, List.set_cons_zero, List.set_cons_succ])) | (refine Seq.Seq.det ?_ (by rfl) (fun w hS => ?_) ?_; rotate_left; ((try dsimp only at hS); go_simp; (try rw [if_pos (by omega)]); with_reducible rfl); (try simp only [Act.put, List.setIfInBounds_toArray, List.set_cons_zero, List.set_cons_succ])))
    refine Seq.Seq.make (by rfl) (by rfl) (fun K Q' hK => ?_)
    go_simp
    go_at_call 12
    refine (HPF _ hbd).mono ?_
    rintro e w41 ⟨rfl, hb41⟩
    replace hbd := hbd.trans (hb41.mono hbd.size)
    replace hS := hS.below hb41
    refine hK.out _ _ (hS) ?_
    clear hK K
    try simp only [Act.put, List.setIfInBounds_toArray, List.set_cons_zero, List.set_cons_succ]
    repeat (first | (refine Seq.Seq.skip (by rfl) ?_; (try simp only [Act.put, List.setIfInBounds_toArray, List.set_cons_zero, List.set_cons_succ])) | (refine Seq.Seq.det ?_ (by rfl) (fun w hS => ?_) ?_; rotate_left; ((try dsimp only at hS); go_simp; (try rw [if_pos (by omega)]); with_reducible rfl); (try simp only [Act.put, List.setIfInBounds_toArray, List.set_cons_zero, List.set_cons_succ])))
    refine Seq.Seq.make (by rfl) (by rfl) (fun K Q' hK => ?_)
    go_simp
    go_at_call 13
    refine (HRF _ hbd).mono ?_
    rintro e w42 ⟨rfl, hb42⟩
    replace hbd := hbd.trans (hb42.mono hbd.size)
    replace hS := hS.below hb42
    refine hK.out _ _ (hS) ?_
    clear hK K
    try simp only [Act.put, List.setIfInBounds_toArray, List.set_cons_zero, List.set_cons_succ]
    repeat (first | (refine Seq.Seq.skip (by rfl) ?_; (try simp only [Act.put, List.setIfInBounds_toArray, List.set_cons_zero, List.set_cons_succ])) | (refine Seq.Seq.det ?_ (by rfl) (fun w hS => ?_) ?_; rotate_left; ((try dsimp only at hS); go_simp; (try rw [if_pos (by omega)]); with_reducible rfl); (try simp only [Act.put, List.setIfInBounds_toArray, List.set_cons_zero, List.set_cons_succ])))
    refine Seq.Seq.nil ?_
    clear L0
    replace hs3 := (hs3.below hb41).below hb42
    clear hb41 hb42 hS
    obtain ⟨x0, x1⟩ := (HX.out.below hbd).c2
    go_wp2_with fail
    refine (HRF _ hbd).mono ?_
    rintro e w8 ⟨rfl, hb8⟩
    replace hbd := hbd.trans (hb8.mono hbd.size)
    have hbs := hs3.below hb8
    clear hb8 hs3 HRF x0 x1
    have hown0 := own_row (B := w8.heap.size) (z := []) (Blk.new w8 #[] 5) (Nat.le_refl _) (by simp)
    have hsA := hbs.below (below_one w8 (.cells #[] 5))
    have HZ8 := Lib.hid (HZB.out.below hbd)
    go_wp2_with (at_builtin; go_must (first | (refine list_append_gr rfl (.tmp 58) (.tmp 59) rfl w8.heap.size (.slice (some ⟨w8.heap.size, 0, none⟩) 0 0) [] rfl hown0 _ _ _ Y rfl hsA (by simp) (by have := HLE.out; simp; omega) (by simp) ?_; intro v6 w9 ho6 hg6 hgr6; have hb9 := Own.belowOf (below_one w8 (.cells #[] 5)) (by simp) hown0 hg6; rw [List.nil_append] at ho6; obtain ⟨A6, c6, hv⟩ := ho6.slice; subst hv; have hz9 := HZ8.out.below hb9; have hB9 := hb9.size; clear hg6 hgr6 hsA hown0) | (refine list_append_gr rfl (.tmp 60) (.tmp 61) rfl w8.heap.size _ Y rfl ho6 _ rr mm z rfl hz9 HNILB.out (by have := HLE.out; omega) hB9 ?_; intro v8 w10 ho8 hg8 hgr8; have hb10 := Own.belowOf hb9 hB9 ho6 hg8; clear hg8 hgr8 hz9 ho6 hb9; obtain ⟨A10, c10, hv, hs10, hnil10, hcap10⟩ := own_parts ho8; subst hv)))
    have HZZ : Hid (∀ x ∈ Y ++ z, 0 ≤ x ∧ x < 256) := Lib.hid fun x hx => by
      rcases List.mem_append.1 hx with hx | hx
      · exact HYB.out x hx
      · exact HBB.out x hx
    have hzl := HZB.out.1
    replace hbs := hbs.below hb10
    replace hbd := hbd.trans (hb10.mono hbd.size)
    have hLL : (Y ++ z).length = Y.length + rr := by rw [List.length_append, hzl]
    rw [hLL] at hs10 hcap10
    obtain ⟨N, hN⟩ : ∃ N, N = Y.length + rr := ⟨_, rfl⟩
    rw [← hN] at hs10 hcap10
    have hN1 : N ≤ 100000 := by have := HLE.out; omega
    have hNZ : Hid ((Y ++ z).length = N) := Lib.hid (by rw [hLL, hN])
    clear hb10 ho8 hnil10 hLL HZ8
    rw [hzl, ← hN]
    clear hN
    obtain ⟨Z, hZ⟩ : ∃ Z, Z = Y ++ z := ⟨_, rfl⟩
    rw [← hZ] at hs10 HE HZZ hNZ
    clear hZ
    refine (new_some _ _ _ _ hcap10).mono ?_
    rintro e w11 ⟨rb, rfl, hrb, hb11, hr11⟩
    have hgl : 0 < Y.length → g3 < w10.heap.size := fun h0 => hbs.lt h0 _ rfl
    have hsz10 := hbd.size
    replace hbs := hbs.below hb11
    replace hs10 := hs10.below hb11
    replace hbd := hbd.trans (hb11.mono hbd.size)
    go_wp2_with fail
    refine (readhead_any rb A10 N N Z pos 500 0 0 0 _ hr11 hs10 (by omega) (by omega) hN1 HZZ.out b0 b1 (by omega)).mono ?_
    rintro e w12 ⟨A12, c12, N12, l12, v12, p', c', q', rfl, hk12, hr12, hu12, hnc, hnilc, _, hb4, hs12⟩
    obtain ⟨e1, rfl, rfl, rfl⟩ := hs12.of_done HE.out
    obtain ⟨rfl, rfl⟩ := Prod.mk.inj e1
    replace hbs := (hbs.ks (Ks.of_kp (S := fun k => k = rb) hk12 rfl) (fun h0 ad ha => by injection ha with ha; subst ha; have := hgl h0; show ¬ g3 = rb; omega))
    replace hbd := (Kp.below hbd (Nat.le_refl _) hk12 (by omega))
    have hN12 : Hid (N12 = n) := Lib.hid (by rw [← hu12.1, HZ.out.1])
    clear e1 hk12 hs12 hs10 hr11 hgl hb11 hb4 hnilc
    have hbx := below_one w12 (.cells (enc' A12 N12 c12 none 0 0) 26)
    have hX2 := Blk.new w12 (enc' A12 N12 c12 none 0 0) 26
    replace hbs := hbs.below hbx
    replace hr12 := hr12.below hbx
    replace hbd := hbd.trans (hbx.mono hbd.size)
    have HU12 := Lib.hid (hu12.below hbx)
    clear hu12 hbx
    obtain ⟨x0, x1⟩ := (HX.out.below hbd).c2
    go_wp2_with fail
    generalize w12.alloc (.cells (enc' A12 N12 c12 none 0 0) 26) = wx at *
    generalize w12.heap.size = xb at *
    have hb0 := Below.refl wx.heap.size wx
    refine (HRB _ hbd).mono ?_
    rintro e w13 ⟨A13, m13, rfl, hb13, hs13, _, _, _⟩
    replace hbs := hbs.below hb13
    replace hb0 := hb0.trans (hb13.mono hb0.size)
    replace hr12 := hr12.below hb13
    replace hbd := hbd.trans (hb13.mono hbd.size)
    clear hb13 HRB x0 x1
    go_wp2_with fail
    refine (same_any _ _ _ _ _ _ Y _ hbs hs13).mono ?_
    rintro e w14 ⟨rfl, rfl⟩
    clear hbs hs13
    obtain ⟨x0, x1⟩ := (HX.out.below hbd).c2
    go_wp2_with fail
    refine (HSI _ hbd).mono ?_
    rintro e w15 ⟨rfl, hb15⟩
    replace hb0 := hb0.trans (hb15.mono hb0.size)
    replace hr12 := hr12.below hb15
    replace hbd := hbd.trans (hb15.mono hbd.size)
    clear hb15 HSI x0 x1
    go_wp2_with fail
    refine (good_any _ _ _ _ _ _ hr12).mono ?_
    rintro e w16 ⟨rfl, hb16⟩
    rw [show ((0 : Int) == 0) = true from rfl]
    replace hb0 := hb0.trans (hb16.mono hb0.size)
    replace hr12 := hr12.below hb16
    replace hbd := hbd.trans (hb16.mono hbd.size)
    clear hb16
    go_wp2_with fail
    refine (at_any _ _ _ _ _ _ hr12).mono ?_
    rintro e w17 ⟨rfl, rfl⟩
    clear hr12
    obtain ⟨x0, x1⟩ := (HX.out.below hbd).c2
    obtain ⟨y0, y1⟩ := (hX2.below hb0).c2
    have hsc := rensame_any _ _ A12 A none none N12 n c12 m 0 0 0 0 l12 l12 [] [] w16 (HU12.out.below hb0) (HZ.out.below hbd) (by have := hN12.out; omega) (by omega) HBL.out HBL.out ⟨rfl, fun h => absurd h (by decide)⟩ ⟨rfl, fun h => absurd h (by decide)⟩ (by simp) (by simp)
    rw [show decide (((l12, []) : En) = (l12, [])) = true from decide_eq_true rfl] at hsc
    unfold BPost at hsc
    go_wp2_with fail
    refine hsc.mono ?_
    rintro e w18 ⟨rfl, hb18⟩
    replace hbd := hbd.trans (hb18.mono hbd.size)
    clear hb18 hsc hb0 x0 x1 y0 y1
    go_wp2_with fail
    refine (live24_any _).mono ?_
    rintro e wl ⟨rfl, hbl⟩
    replace hbd := hbd.trans (hbl.mono hbd.size)
    go_wp2
    go_ret
    exact ⟨rfl, HbE.out.trans (hbd.mono HbE.out.size)⟩

set_option maxRecDepth 100000 in
theorem lifted (os : Os) (started : os.Started) (H : Type) (enc : TypeId × Value → H) :
    ReturnsInHanded {} Try.checked os 3 .any (Rows.entryHeadsSpec.pre6 enc Try.prog Try.f3 Rows.entryHeadsRow.domain false) (Rows.entryHeadsSpec.post enc Try.prog Try.f3 false true false false) := by
  refine returnsInHanded_of_change (C := Try.checked) own started (by kernel_rfl) Try.func3
    (ChangeSpec.witness6 (enc := enc) (C := Try.checked) false ⟨#[], #[.int .u64 0, .agg #[.slice none 0 0, .slice none 0 0], .slice none 0 0], []⟩ 8 (by kernel_rfl) (by kernel_rfl) (by kernel_rfl) (by kernel_rfl)) ?_
  intro W base args ds gs before hval0 hW hcnd _
  have hval : ∀ (j : Nat) t v, Try.f3.params[j]? = some t → args[j]? = some v → Value.okWide Try.prog W .any base t v := hval0
  have hW' := hW
  obtain ⟨p, q, hA0, hV, rfl, hfz, hnd⟩ := hW
  have hA : DataW.TrodAll enc Try.prog W 0 (fun _ => true) true Try.f3.params.toList args.toList ds p := hA0
  rw [Try.params3] at hA hval
  obtain ⟨v0, vs0, d0, ds0, p0, q0, hargs, rfl, rfl, h0, r0⟩ := trodAll_cons hA
  obtain ⟨v1, vs1, d1, ds1, p1, q1, rfl, rfl, rfl, h1, r1⟩ := trodAll_cons r0
  obtain ⟨v2, vs2, d2, ds2, p2, q2, rfl, rfl, rfl, h2, r2⟩ := trodAll_cons r1
  obtain ⟨rfl, rfl, rfl⟩ := trodAll_nil r2
  obtain rfl : args = #[v0, v1, v2] := by cases args; simp_all
  obtain ⟨rfl, rfl⟩ := trodVars_none hV
  have lt0 : ∀ x ∈ p0, x.block < W.heap.size := by obtain ⟨m, hm⟩ := h0; exact DataW.trod_lt m _ _ _ hm
  have lt1 : ∀ x ∈ p1, x.block < W.heap.size := by obtain ⟨m, hm⟩ := h1; exact DataW.trod_lt m _ _ _ hm
  have lt2 : ∀ x ∈ p2, x.block < W.heap.size := by obtain ⟨m, hm⟩ := h2; exact DataW.trod_lt m _ _ _ hm
  clear hA0 hval0
  refine (walk enc W base v0 d0 p0 (hval 0 22 v0 rfl rfl) h0 v1 d1 p1 (hval 1 26 v1 rfl rfl) h1 v2 d2 p2 (hval 2 24 v2 rfl rfl) h2).mono fun e W' ⟨he, bel⟩ => ?_
  subst he
  exact ⟨_, rfl, _, _, _, [], _, [], hW', trodAll_mk1 (shut_bool Try.underlying4 _), (trodAll_cons_mk (Below.trod laidOut (by kernel_rfl) (of_decide_eq_true (by kernel_rfl)) h0 bel lt0) (trodAll_cons_mk (Below.trod laidOut (by kernel_rfl) (of_decide_eq_true (by kernel_rfl)) h1 bel lt1) (trodAll_cons_mk (Below.trod laidOut (by kernel_rfl) (of_decide_eq_true (by kernel_rfl)) h2 bel lt2) trodAll_mk0))), rfl, bel.frame _, fun h => by cases h⟩

theorem over : Rows.entryHeadsRow.holds Try.pinned (OpenSpec.ofChange Rows.entryHeadsSpec) :=
  OpenClaim.holds_of_wide 3 Try.f3 rfl rfl rfl rfl rfl rfl rfl ⟨rfl, rfl, rfl, rfl, rfl⟩ rfl rfl rfl rfl rfl (by kernel_rfl) Try.func3 (by kernel_rfl)
    (of_decide_eq_true (by kernel_rfl)) (by unfold Func.isWrapper; first | (rw [if_pos (by decide +kernel)]; kernel_rfl) | (rw [if_neg (by decide +kernel)]; exact ⟨rfl, rfl⟩))
    (fun os started H enc _ => lifted os started H enc)

/-- THE STATEMENT. -/
theorem proved : Rows.EntryHeadsSaid := over
#print axioms proved
end Go.Proofs.Ytoeedhdckccajaa.entryHeads
