/- Entries: which are right; the head, written, by the program and by the document. -/
import Derived.Test.YtoeedhdckccajaaEntA
namespace Go.Proofs.Ytoeedhdckccajaa.Cur
open Go.RowKit Mem
set_option linter.unusedVariables false
set_option maxRecDepth 100000


/-- Is an entry with r bytes right? -/
def enok (pos : Int) (L : List Lk) (r : Nat) : Bool := decide (r ≤ 1048576) && lkok pos L
/-- In how many bytes the head is written, or 0. -/
def ensz (pos : Int) (L : List Lk) (r : Nat) : Int := if enok pos L r = true then (((lkz pos L).length + vsz r : Nat) : Int) else 0
theorem enright_any (P : Nat → Prop) (pos : Int) (A : Option Addr) (n m : Nat) (L : List Lk) (B : Option Addr) (r k : Nat) (w : World) (hz : Lks w P A n L) (p0 : 0 ≤ pos) (p1 : pos < 18446744073709551616) :
    Calls Try.prog 12 #[.int .u64 pos, enagg A n m B r k] w (BPost (.bool (enok pos L r)) w) := by
  have hX := Blk.new w (enc' A n m B r k) 26
  have hb := below_one w (.cells (enc' A n m B r k) 26)
  obtain ⟨x0, x1⟩ := hX.c2
  have hcon := lkright_any P pos A n m L _ (hz.below hb) p0 p1
  unfold BPost at hcon ⊢
  have HV : Hid (enok pos L r = (decide (r ≤ 1048576) && lkok pos L)) := Lib.hid rfl
  generalize enok pos L r = V at *
  generalize lkok pos L = lv at *
  clear hX hz
  by_cases hr : r ≤ 1048576
  · have e1 : (r : Int) ≤ 1048576 := by omega
    rw [decide_eq_true hr] at HV
    go_enter Try.func12, Try.ntmps12
    go_wp2_with fail
    refine hcon.mono ?_
    rintro e w1 ⟨rfl, hb1⟩
    have HB := Lib.hid (hb.trans (hb1.mono hb.size))
    clear hcon hb1
    go_wp2
    go_ret
    exact ⟨by rw [HV.out]; rfl, HB.out⟩
  · have e1 : ¬ (r : Int) ≤ 1048576 := by omega
    rw [decide_eq_false hr] at HV
    clear hcon hr
    go_enter Try.func12, Try.ntmps12
    go_wp2
    go_ret
    exact ⟨by rw [HV.out]; rfl, hb⟩
theorem renright_any (P : Nat → Prop) (pos : Int) (A : Option Addr) (n m : Nat) (L : List Lk) (B : Option Addr) (r k : Nat) (w : World) (hz : Lks w P A n L) (p0 : 0 ≤ pos) (p1 : pos < 18446744073709551616) :
    Calls Try.prog 13 #[.int .u64 pos, enagg A n m B r k] w (BPost (.bool (enok pos L r)) w) := by
  have hX := Blk.new w (enc' A n m B r k) 26
  have hb := below_one w (.cells (enc' A n m B r k) 26)
  obtain ⟨x0, x1⟩ := hX.c2
  have hcon := rlkright_any P pos A n m L _ (hz.below hb) p0 p1
  unfold BPost at hcon ⊢
  have HV : Hid (enok pos L r = (decide (r ≤ 1048576) && lkok pos L)) := Lib.hid rfl
  generalize enok pos L r = V at *
  generalize lkok pos L = lv at *
  clear hz
  by_cases hr : r ≤ 1048576
  · have e1 : decide ((r : Int) ≤ 1048576) = true := by simp; omega
    rw [decide_eq_true hr] at HV
    clear hr
    go_enter Try.func13, Try.ntmps13
    go_wp2_with fail
    refine hcon.mono ?_
    rintro e w1 ⟨rfl, hb1⟩
    have y := (hX.below hb1).c2
    obtain ⟨y0, y1⟩ := y
    have HB := Lib.hid (hb.trans (hb1.mono hb.size))
    clear hcon hb1 x0 x1 hX
    cases lv
    · go_wp2
      go_ret
      exact ⟨by rw [HV.out]; rfl, HB.out⟩
    · go_wp2
      go_ret
      exact ⟨by rw [HV.out]; rfl, HB.out⟩
  · have e1 : decide ((r : Int) ≤ 1048576) = false := by simp; omega
    rw [decide_eq_false hr] at HV
    clear hr
    go_enter Try.func13, Try.ntmps13
    go_wp2_with fail
    refine hcon.mono ?_
    rintro e w1 ⟨rfl, hb1⟩
    have y := (hX.below hb1).c2
    obtain ⟨y0, y1⟩ := y
    have HB := Lib.hid (hb.trans (hb1.mono hb.size))
    clear hcon hb1 x0 x1 hX
    cases lv
    · go_wp2
      go_ret
      exact ⟨by rw [HV.out]; rfl, HB.out⟩
    · go_wp2
      go_ret
      exact ⟨by rw [HV.out]; rfl, HB.out⟩

set_option maxHeartbeats 2000000 in
theorem puthead_yes {w : World} {B0 b : Nat} {r0 : Option Nat} {y : List Int} {M c : Int} (P : Nat → Prop) (pos : Int) (A : Option Addr) (n m : Nat) (L : List Lk) (B : Option Addr) (r k : Nat) (h : Wr w B0 b r0 y M c) (hz : Lks w P A n L) (p0 : 0 ≤ pos) (p1 : pos < 18446744073709551616) (hok : enok pos L r = true)
    (hoff : ∀ b', P b' → b' < w.heap.size → ¬ WS b r0 b') (hy : y.length ≤ 500000) (hBw : B0 ≤ w.heap.size) :
    Calls Try.prog 10 #[.pointer (some ⟨b, 0, none⟩), .int .u64 pos, enagg A n m B r k] w (WPutsPost B0 b r0 y (lkis pos L n ++ [vz r]) M c w) := by
  have hX := Blk.new w (enc' A n m B r k) 26
  have hb := below_one w (.cells (enc' A n m B r k) 26)
  obtain ⟨x0, x1⟩ := hX.c2
  have hoff2 : ¬ WS b r0 w.heap.size := h.off (Nat.le_refl _)
  have hrc := enright_any P pos A n m L B r k _ (hz.below hb) p0 p1
  rw [hok] at hrc
  unfold BPost at hrc
  have hlk : lkok pos L = true := by unfold enok at hok; simp only [Bool.and_eq_true] at hok; exact hok.2
  have hrl : r ≤ 1048576 := by unfold enok at hok; simp only [Bool.and_eq_true, decide_eq_true_eq] at hok; exact hok.1
  have hn16 : n ≤ 16 := by rw [← hz.1]; exact (lkok_parts hlk).1
  have hle := lkis_len hlk n (by rw [hz.1]; exact Nat.le_refl _)
  have hpl := puts_le (lkis pos L n) y M c
  have HZ := Lib.hid (hz.mono (Q := fun b' => P b' ∧ b' < w.heap.size) (fun b' h1 h2 => ⟨h1, h2⟩))
  have HLK := Lib.hid hlk
  have HOFF := Lib.hid hoff
  have HSN : Hid (puts (lkis pos L n ++ [vz r]) y M c = (putZ (puts (lkis pos L n) y M c).1 (vz r) M (puts (lkis pos L n) y M c).2, putC (puts (lkis pos L n) y M c).1 (vz r) M (puts (lkis pos L n) y M c).2)) := Lib.hid (puts_snoc _ _ _ _ _)
  have HL5 : Hid ((puts (lkis pos L n) y M c).1.length ≤ 900000) := Lib.hid (by omega)
  have e1 : IntKind.u64.wrap (r : Int) = r := IntWalk.u64_in _ (by omega)
  have hr0 : (0 : Int) ≤ r := by omega
  have hr1 : (r : Int) < 18446744073709551616 := by omega
  have h1 := h.below hb
  clear hz hok hlk hoff hle hpl h
  go_enter Try.func10, Try.ntmps10
  go_wp2_with fail
  refine hrc.mono ?_
  rintro en w1 ⟨rfl, hb1⟩
  have hX1 := hX.below hb1
  have h2 := h1.below hb1
  have hbd1 := hb.trans (hb1.mono hb.size)
  have hB1 : B0 ≤ w1.heap.size := Nat.le_trans hBw hbd1.size
  have hks1 : Ks (WS b r0) w w1 := Ks.of_below hbd1
  clear hrc hb1 hX h1 x0 x1 hb
  obtain ⟨x0, x1⟩ := hX1.c2
  go_wp2_with fail
  refine (lput_yes (fun b' => P b' ∧ b' < w.heap.size) pos A n m L h2 (HZ.out.below hbd1) p0 p1 HLK.out (fun b' hp _ => HOFF.out b' hp.1 hp.2) (by omega) hB1).mono ?_
  rintro en w2 ⟨r2, rfl, hk2, hg2, hw2⟩
  have hX2 := hX1.ks hk2 hoff2
  have hks2 := hks1.trans hk2
  have hgr2 : Gr r0 r2 w := (Gr.refl _ _).trans hg2 hks1.size
  have hB2 : B0 ≤ w2.heap.size := Nat.le_trans hBw hks2.size
  clear hk2 hg2 hks1 h2 hX1 x0 x1 hbd1
  obtain ⟨x0, x1⟩ := hX2.c2
  go_wp2_with fail
  refine (vput_any _ hw2 hr0 hr1 HL5.out hB2).mono ?_
  rintro en w3 ⟨r3, rfl, hk3, hg3, hw3⟩
  have H1 := Lib.hid (Ks.wr hks2 hgr2 hk3)
  have H2 := Lib.hid (hgr2.trans hg3 hks2.size)
  have H3 : Hid (Wr w3 B0 b r3 (puts (lkis pos L n ++ [vz r]) y M c).1 M (puts (lkis pos L n ++ [vz r]) y M c).2) := Lib.hid (by rw [HSN.out]; exact hw3)
  clear hk3 hg3 hw3 hw2 hks2 hgr2
  go_wp2
  go_end0
  exact ⟨r3, rfl, H1.out, H2.out, H3.out⟩
theorem puthead_no {w : World} {B0 b : Nat} {r0 : Option Nat} {y : List Int} {M c : Int} (P : Nat → Prop) (pos : Int) (A : Option Addr) (n m : Nat) (L : List Lk) (B : Option Addr) (r k : Nat) (h : Wr w B0 b r0 y M c) (hz : Lks w P A n L) (p0 : 0 ≤ pos) (p1 : pos < 18446744073709551616) (hok : enok pos L r = false) :
    Calls Try.prog 10 #[.pointer (some ⟨b, 0, none⟩), .int .u64 pos, enagg A n m B r k] w (WFailPost B0 b r0 y M c 3 w) := by
  have hX := Blk.new w (enc' A n m B r k) 26
  have hb := below_one w (.cells (enc' A n m B r k) 26)
  obtain ⟨x0, x1⟩ := hX.c2
  have hrc := enright_any P pos A n m L B r k _ (hz.below hb) p0 p1
  rw [hok] at hrc
  unfold BPost at hrc
  have h1 := h.below hb
  clear hz hok h hX
  go_enter Try.func10, Try.ntmps10
  go_wp2_with fail
  refine hrc.mono ?_
  rintro en w1 ⟨rfl, hb1⟩
  have h2 := h1.below hb1
  have hbd1 := hb.trans (hb1.mono hb.size)
  clear hrc hb1 h1 x0 x1 hb
  go_wp2_with fail
  refine (wfail_any 3 h2).mono ?_
  rintro en w' ⟨rfl, hk, hw⟩
  have HW := Lib.hid hw
  clear hw
  go_wp2
  go_end0
  exact ⟨rfl, (Ks.of_below hbd1).trans hk, HW.out⟩

set_option maxHeartbeats 2000000 in
theorem headsize_any (P : Nat → Prop) (pos : Int) (A : Option Addr) (n m : Nat) (L : List Lk) (B : Option Addr) (r k : Nat) (w : World) (hz : Lks w P A n L) (p0 : 0 ≤ pos) (p1 : pos < 18446744073709551616) :
    Calls Try.prog 14 #[.int .u64 pos, enagg A n m B r k] w (BPost (.int .i64 (ensz pos L r)) w) := by
  have hX := Blk.new w (enc' A n m B r k) 26
  have hb := below_one w (.cells (enc' A n m B r k) 26)
  obtain ⟨x0, x1⟩ := hX.c2
  have hrc := enright_any P pos A n m L B r k _ (hz.below hb) p0 p1
  unfold BPost at hrc ⊢
  cases hok : enok pos L r
  · have HV : Hid (ensz pos L r = 0) := Lib.hid (if_neg (by simp [hok]))
    rw [hok] at hrc
    rw [HV.out]
    clear hok hz hX
    go_enter Try.func14, Try.ntmps14
    go_wp2_with fail
    refine hrc.mono ?_
    rintro en w1 ⟨rfl, hb1⟩
    have HB := Lib.hid (hb.trans (hb1.mono hb.size))
    clear hrc hb1
    go_wp2
    go_ret
    exact ⟨rfl, HB.out⟩
  · have HV : Hid (ensz pos L r = (((lkz pos L).length + vsz r : Nat) : Int)) := Lib.hid (if_pos hok)
    have hlk : lkok pos L = true := by unfold enok at hok; simp only [Bool.and_eq_true] at hok; exact hok.2
    have hrl : r ≤ 1048576 := by unfold enok at hok; simp only [Bool.and_eq_true, decide_eq_true_eq] at hok; exact hok.1
    have hle := lkz_len hlk
    have HSZ : Hid (∀ w', Below w.heap.size w w' → Calls Try.prog 40 #[.int .u64 pos, .slice A n m] w' (BPost (.int .i64 ((lkz pos L).length : Int)) w')) := Lib.hid (fun w' h => by
      have := lsize_any P pos A n m L w' (hz.below h) p0 p1
      rwa [show lksz pos L = ((lkz pos L).length : Int) from if_pos hlk] at this)
    unfold BPost at HSZ
    rw [hok] at hrc
    rw [HV.out]
    generalize (lkz pos L).length = Y at *
    have hv := vsz_le (r : Int)
    have e1 : IntKind.u64.wrap (r : Int) = r := IntWalk.u64_in _ (by omega)
    have e2 : IntKind.i64.wrap ((Y : Int) + vsz r) = ((Y + vsz r : Nat) : Int) := IntWalk.i64_in _ (by omega)
    have HE2 := Lib.hid e2
    have hr0 : (0 : Int) ≤ r := by omega
    have hr1 : (r : Int) < 18446744073709551616 := by omega
    clear hok hz hlk hle HV
    go_enter Try.func14, Try.ntmps14
    go_wp2_with fail
    refine hrc.mono ?_
    rintro en w1 ⟨rfl, hb1⟩
    have hX1 := hX.below hb1
    have hbd1 := hb.trans (hb1.mono hb.size)
    have hS : Blk w1.drew w.heap.size (enc' A n m B r k) 26 := hX1
    have hbd := hbd1.trans ((below_one' w1).mono hbd1.size)
    have L0 : ∀ w', Blk w' w.heap.size (enc' A n m B r k) 26 → w'.cell? ⟨w.heap.size, 0, none⟩ = some (.slice A n m) ∧ w'.cell? ⟨w.heap.size, 1, none⟩ = some (.slice B r k) := fun w' h => h.c2
    clear hrc hb1 x0 x1 hX hX1 hb hbd1
    go_wp2
    refine Seq.wp_region_seq (fun w' => Blk w' w.heap.size (enc' A n m B r k) 26) (by kernel_rfl) (by kernel_rfl) hS ?_
    generalize w1.drew = wd at *
    repeat (first | (refine Seq.Seq.skip (by rfl) ?_; (try simp only [Act.put, List.setIfInBounds_toArray, List.set_cons_zero, List.set_cons_succ])) | (refine Seq.Seq.det ?_ (by rfl) (fun w hS => ?_) ?_; rotate_left; ((try dsimp only at hS); go_simp; (try rw [if_pos (by omega)]); with_reducible rfl); (try simp only [Act.put, List.setIfInBounds_toArray, List.set_cons_zero, List.set_cons_succ])))
    refine Seq.Seq.make (by rfl) (by rfl) (fun K Q' hK => ?_)
    go_simp
    go_at_call 40
    refine (HSZ.out _ hbd).mono ?_
    rintro en v1 ⟨rfl, hc1⟩
    replace hS := hS.below hc1
    replace hbd := hbd.trans (hc1.mono hbd.size)
    clear hc1
    refine hK.out _ _ (hS) ?_
    clear hK K
    try simp only [Act.put, List.setIfInBounds_toArray, List.set_cons_zero, List.set_cons_succ]
    repeat (first | (refine Seq.Seq.skip (by rfl) ?_; (try simp only [Act.put, List.setIfInBounds_toArray, List.set_cons_zero, List.set_cons_succ])) | (refine Seq.Seq.det ?_ (by rfl) (fun w hS => ?_) ?_; rotate_left; ((try dsimp only at hS); go_simp; (try rw [if_pos (by omega)]); with_reducible rfl); (try simp only [Act.put, List.setIfInBounds_toArray, List.set_cons_zero, List.set_cons_succ])))
    refine Seq.Seq.make (by rfl) (by rfl) (fun K Q' hK => ?_)
    go_simp
    go_at_call 41
    refine (vsize_any _ _ hr0 hr1).mono ?_
    rintro en v2 ⟨rfl, rfl⟩
    refine hK.out _ _ (hS) ?_
    clear hK K
    try simp only [Act.put, List.setIfInBounds_toArray, List.set_cons_zero, List.set_cons_succ]
    repeat (first | (refine Seq.Seq.skip (by rfl) ?_; (try simp only [Act.put, List.setIfInBounds_toArray, List.set_cons_zero, List.set_cons_succ])) | (refine Seq.Seq.det ?_ (by rfl) (fun w hS => ?_) ?_; rotate_left; ((try dsimp only at hS); go_simp; (try rw [if_pos (by omega)]); with_reducible rfl); (try simp only [Act.put, List.setIfInBounds_toArray, List.set_cons_zero, List.set_cons_succ])))
    refine Seq.Seq.nil ?_
    clear hS L0
    go_wp2
    go_ret
    exact ⟨by have h9 := HE2.out; push_cast at h9 ⊢; first | rfl | rw [h9], hbd⟩

set_option maxHeartbeats 2000000 in
theorem rhead_any24 (P : Nat → Prop) (pos : Int) (A : Option Addr) (n m : Nat) (L : List Lk) (B : Option Addr) (r k : Nat) (w : World) (hz : Lks w P A n L) (p0 : 0 ≤ pos) (p1 : pos < 18446744073709551616) (hlk : lkok pos L = true) (hrl : r ≤ 1048576) :
    Calls Try.prog 18 #[.int .u64 pos, enagg A n m B r k] w (RowPost (lkz pos L ++ vz r) w) := by
  have hX := Blk.new w (enc' A n m B r k) 26
  have hb := below_one w (.cells (enc' A n m B r k) 26)
  obtain ⟨x0, x1⟩ := hX.c2
  have hS : Blk (w.alloc (.cells (enc' A n m B r k) 26)).drew w.heap.size (enc' A n m B r k) 26 := hX
  have hbd := hb.trans ((below_one' _).mono hb.size)
  have HRB := Lib.hid (fun w' (h : Below w.heap.size w w') => rlkbytes_any P pos A n m L w' (hz.below h) p0 p1 hlk)
  have HLE := Lib.hid (lkz_len hlk)
  have HVL := Lib.hid (vz_length (r : Int))
  have hv := vsz_le (r : Int)
  have e1 : IntKind.u64.wrap (r : Int) = r := IntWalk.u64_in _ (by omega)
  have hr0 : (0 : Int) ≤ r := by omega
  have hr1 : (r : Int) < 18446744073709551616 := by omega
  have L0 : ∀ w', Blk w' w.heap.size (enc' A n m B r k) 26 → w'.cell? ⟨w.heap.size, 0, none⟩ = some (.slice A n m) ∧ w'.cell? ⟨w.heap.size, 1, none⟩ = some (.slice B r k) := fun w' h => h.c2
  generalize lkz pos L = Y at *
  clear hX hz hlk hb
  go_enter Try.func18, Try.ntmps18
  go_wp2
  clear x0 x1
  refine Seq.wp_region_seq (fun w' => Blk w' w.heap.size (enc' A n m B r k) 26) (by kernel_rfl) (by kernel_rfl) hS ?_
  generalize (w.alloc (.cells (enc' A n m B r k) 26)).drew = wd at *
  repeat (first | (refine Seq.Seq.skip (by rfl) ?_; (try simp only [Act.put, List.setIfInBounds_toArray, List.set_cons_zero, List.set_cons_succ])) | (refine Seq.Seq.det ?_ (by rfl) (fun w hS => ?_) ?_; rotate_left; ((try dsimp only at hS); go_simp; (try rw [if_pos (by omega)]); with_reducible rfl); (try simp only [Act.put, List.setIfInBounds_toArray, List.set_cons_zero, List.set_cons_succ])))
  refine Seq.Seq.make (by rfl) (by rfl) (fun K Q' hK => ?_)
  go_simp
  go_at_call 44
  refine (HRB.out _ hbd).mono ?_
  rintro en v1 ⟨A1, m1, rfl, hc1, _, _, _, ho1⟩
  replace hS := hS.below hc1
  have ho1' : Own v1 w.heap.size (.slice A1 Y.length m1) Y := ho1.base (fun g hg => by have := ho1.ge g hg; have := hbd.size; omega)
  replace hbd := hbd.trans (hc1.mono hbd.size)
  clear hc1 ho1
  refine hK.out _ _ (hS) ?_
  clear hK K
  try simp only [Act.put, List.setIfInBounds_toArray, List.set_cons_zero, List.set_cons_succ]
  repeat (first | (refine Seq.Seq.skip (by rfl) ?_; (try simp only [Act.put, List.setIfInBounds_toArray, List.set_cons_zero, List.set_cons_succ])) | (refine Seq.Seq.det ?_ (by rfl) (fun w hS => ?_) ?_; rotate_left; ((try dsimp only at hS); go_simp; (try rw [if_pos (by omega)]); with_reducible rfl); (try simp only [Act.put, List.setIfInBounds_toArray, List.set_cons_zero, List.set_cons_succ])))
  refine Seq.Seq.make (by rfl) (by rfl) (fun K Q' hK => ?_)
  go_simp
  go_at_call 45
  refine (rbytes_any 10 _ _ (vsz_le _) hr0 hr1).mono ?_
  rintro en v2 ⟨A2, m2, rfl, hc2, hbs2, hnil2, _⟩
  replace hS := hS.below hc2
  have ho2 := ho1'.below hc2
  replace hbd := hbd.trans (hc2.mono hbd.size)
  have hB2 := hbd.size
  clear hc2 ho1'
  refine hK.out _ _ (hS) ?_
  clear hK K
  try simp only [Act.put, List.setIfInBounds_toArray, List.set_cons_zero, List.set_cons_succ]
  repeat (first | (refine Seq.Seq.skip (by rfl) ?_; (try simp only [Act.put, List.setIfInBounds_toArray, List.set_cons_zero, List.set_cons_succ])) | (refine Seq.Seq.det ?_ (by rfl) (fun w hS => ?_) ?_; rotate_left; ((try dsimp only at hS); go_simp; (try rw [if_pos (by omega)]); with_reducible rfl); (try simp only [Act.put, List.setIfInBounds_toArray, List.set_cons_zero, List.set_cons_succ])))
  refine Seq.Seq.make (by rfl) (by rfl) (fun K Q' hK => ?_)
  refine oper_append_gr (.tmp 8) (.tmp 13) rfl w.heap.size _ _ rfl ho2 _ _ _ _ rfl hbs2 hnil2 (by rw [HVL.out]; have := HLE.out; omega) hB2 ?_
  intro v' w9 ho9 hg9 hgr9
  have hb9 := Own.belowOf hbd hB2 ho2 hg9
  have hS9 : Blk w9 w.heap.size (enc' A n m B r k) 26 := (hg9.block w.heap.size hS.lt (fun e => own_ne_blk ho2 hS (by decide) e.symm)).trans hS
  obtain ⟨A9, c9, hv9⟩ := ho9.slice
  obtain ⟨Z, hZ⟩ : ∃ Z, Z = Y ++ vz (r : Int) := ⟨_, rfl⟩
  rw [← hZ] at ho9 hv9
  have HZ9 := Lib.hid hZ
  have HO9 := Lib.hid ho9
  subst hv9
  clear ho2 hg9 hgr9 hbs2 hbd hS hZ ho9
  refine hK.out _ _ (hS9) ?_
  clear hK K
  try simp only [Act.put, List.setIfInBounds_toArray, List.set_cons_zero, List.set_cons_succ]
  repeat (first | (refine Seq.Seq.skip (by rfl) ?_; (try simp only [Act.put, List.setIfInBounds_toArray, List.set_cons_zero, List.set_cons_succ])) | (refine Seq.Seq.det ?_ (by rfl) (fun w hS => ?_) ?_; rotate_left; ((try dsimp only at hS); go_simp; (try rw [if_pos (by omega)]); with_reducible rfl); (try simp only [Act.put, List.setIfInBounds_toArray, List.set_cons_zero, List.set_cons_succ])))
  refine Seq.Seq.nil ?_
  clear hS9 L0
  go_wp2
  go_ret
  rw [← HZ9.out]
  exact Own.rowPost (B := 0) HO9.out hb9
end Go.Proofs.Ytoeedhdckccajaa.Cur
