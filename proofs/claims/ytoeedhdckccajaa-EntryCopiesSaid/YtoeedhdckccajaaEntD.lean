/- Entries: two are the same, by the program and by the document; are they more than are gone through; the document's example. -/
import Derived.Test.YtoeedhdckccajaaEntC
import Derived.Test.YtoeedhdckccajaaLnkP
import Derived.Test.YtoeedhdckccajaaShelf
namespace Go.Proofs.Ytoeedhdckccajaa.Cur
open Go.RowKit Mem
set_option linter.unusedVariables false
set_option maxRecDepth 100000


theorem bytesOf_inj24 {x y : List Int} (hx : ∀ u ∈ x, 0 ≤ u ∧ u < 256) (hy : ∀ u ∈ y, 0 ≤ u ∧ u < 256) : (Lib.bytesOf x == Lib.bytesOf y) = decide (x = y) := by
  rw [Bool.eq_iff_iff, beq_iff_eq, decide_eq_true_eq]
  refine ⟨fun h => ?_, fun h => by rw [h]⟩
  rw [← Lib.strOfNums_toList, ← Lib.strOfNums_toList] at h
  exact strOfNums_inj hx hy (bstr_inj h)
theorem en_dec (L : List Lk) (D : List Int) (L2 : List Lk) (D2 : List Int) : decide (((L, D) : En) = (L2, D2)) = (decide (L = L2) && decide (D = D2)) := by
  simp only [Prod.mk.injEq, Bool.decide_and]
theorem bequal_any (A B : Option Addr) (n m c d : Nat) (y z : List Int) (w : World) (ha : Bs w A n y) (hb : Bs w B m z) (hy : ∀ x ∈ y, 0 ≤ x ∧ x < 256) (hz : ∀ x ∈ z, 0 ≤ x ∧ x < 256) :
    Calls Try.prog 56 #[.slice A n c, .slice B m d] w fun e w' => e = .returned (.bool (decide (y = z))) ∧ w = w' := by
  have h := Try.bytes_Equal (.slice A n c) (.slice B m d) y z w (run_convert_bs c ha) (run_convert_bs d hb)
  rw [bytesOf_inj24 hy hz] at h
  exact h.mono fun e w' ⟨h1, h2⟩ => ⟨h1, h2.symm⟩
set_option maxHeartbeats 1000000 in
theorem ensame_any (P P2 : Nat → Prop) (A A2 B B2 : Option Addr) (n n2 m m2 r r2 k k2 : Nat) (L L2 : List Lk) (D D2 : List Int) (w : World) (hz : Lks w P A n L) (hz2 : Lks w P2 A2 n2 L2) (hn : n ≤ 1000000) (hn2 : n2 ≤ 1000000) (h1 : blen 1000000 L) (h2 : blen 1000000 L2)
    (hd : Bs w B r D) (hd2 : Bs w B2 r2 D2) (hb : ∀ x ∈ D, 0 ≤ x ∧ x < 256) (hb2 : ∀ x ∈ D2, 0 ≤ x ∧ x < 256) :
    Calls Try.prog 31 #[enagg A n m B r k, enagg A2 n2 m2 B2 r2 k2] w (BPost (.bool (decide (((L, D) : En) = (L2, D2)))) w) := by
  have hX := (Blk.new w (enc' A n m B r k) 26).alloc (.cells (enc' A2 n2 m2 B2 r2 k2) 26)
  have hY := Blk.new (w.alloc (.cells (enc' A n m B r k) 26)) (enc' A2 n2 m2 B2 r2 k2) 26
  rw [show (w.alloc (.cells (enc' A n m B r k) 26)).heap.size = w.heap.size + 1 by simp] at hY
  have hbd := below_two w (.cells (enc' A n m B r k) 26) (.cells (enc' A2 n2 m2 B2 r2 k2) 26)
  unfold BPost
  have HV : Hid (decide (((L, D) : En) = (L2, D2)) = (decide (L = L2) && decide (D = D2))) := Lib.hid (en_dec _ _ _ _)
  generalize decide (((L, D) : En) = (L2, D2)) = V at *
  obtain ⟨x0, x1⟩ := hX.c2
  obtain ⟨y0, y1⟩ := hY.c2
  have hcon := lsame_any P P2 A A2 n n2 m m2 L L2 _ (hz.below hbd) (hz2.below hbd) hn hn2 h1 h2
  have HCD := Lib.hid (fun w' (h : Below w.heap.size w w') => bequal_any B B2 r r2 k k2 D D2 w' (hd.below h) (hd2.below h) hb hb2)
  unfold BPost at hcon
  generalize decide (L = L2) = sv at *
  generalize decide (D = D2) = dv at *
  clear hz hz2 hd hd2 h1 h2
  cases sv
  · clear HCD hX hY
    go_enter Try.func31, Try.ntmps31
    go_wp2_with fail
    refine hcon.mono ?_
    rintro e w1 ⟨rfl, hb1⟩
    have HB := Lib.hid (hbd.trans (hb1.mono hbd.size))
    clear hcon hb1
    go_wp2
    go_ret
    exact ⟨by rw [HV.out]; rfl, HB.out⟩
  · go_enter Try.func31, Try.ntmps31
    go_wp2_with fail
    refine hcon.mono ?_
    rintro e w1 ⟨rfl, hb1⟩
    have hX1 := (hX.below hb1).c2
    have hY1 := (hY.below hb1).c2
    have hbd1 := hbd.trans (hb1.mono hbd.size)
    clear hcon hb1 x0 x1 y0 y1 hX hY
    obtain ⟨x0, x1⟩ := hX1
    obtain ⟨y0, y1⟩ := hY1
    go_wp2_with fail
    refine (HCD.out w1 hbd1).mono ?_
    rintro e w2 ⟨rfl, rfl⟩
    go_wp2
    go_ret
    exact ⟨by rw [HV.out]; rfl, hbd1⟩
set_option maxHeartbeats 1000000 in
theorem rensame_any (P P2 : Nat → Prop) (A A2 B B2 : Option Addr) (n n2 m m2 r r2 k k2 : Nat) (L L2 : List Lk) (D D2 : List Int) (w : World) (hz : Lks w P A n L) (hz2 : Lks w P2 A2 n2 L2) (hn : n ≤ 1000000) (hn2 : n2 ≤ 1000000) (h1 : blen 1000000 L) (h2 : blen 1000000 L2)
    (hd : Bs w B r D) (hd2 : Bs w B2 r2 D2) (hb : ∀ x ∈ D, 0 ≤ x ∧ x < 256) (hb2 : ∀ x ∈ D2, 0 ≤ x ∧ x < 256) :
    Calls Try.prog 21 #[enagg A n m B r k, enagg A2 n2 m2 B2 r2 k2] w (BPost (.bool (decide (((L, D) : En) = (L2, D2)))) w) := by
  have hX := (Blk.new w (enc' A n m B r k) 26).alloc (.cells (enc' A2 n2 m2 B2 r2 k2) 26)
  have hY := Blk.new (w.alloc (.cells (enc' A n m B r k) 26)) (enc' A2 n2 m2 B2 r2 k2) 26
  rw [show (w.alloc (.cells (enc' A n m B r k) 26)).heap.size = w.heap.size + 1 by simp] at hY
  have hbd := below_two w (.cells (enc' A n m B r k) 26) (.cells (enc' A2 n2 m2 B2 r2 k2) 26)
  unfold BPost
  have HV : Hid (decide (((L, D) : En) = (L2, D2)) = (decide (L = L2) && decide (D = D2))) := Lib.hid (en_dec _ _ _ _)
  generalize decide (((L, D) : En) = (L2, D2)) = V at *
  obtain ⟨x0, x1⟩ := hX.c2
  obtain ⟨y0, y1⟩ := hY.c2
  have hcon := rlsame_any P P2 A A2 n n2 m m2 L L2 _ (hz.below hbd) (hz2.below hbd) hn hn2 h1 h2
  have HCD := Lib.hid (fun w' (h : Below w.heap.size w w') => same_dec B B2 r r2 k k2 D D2 w' (hd.below h) (hd2.below h) hb hb2)
  unfold BPost at hcon
  generalize decide (L = L2) = sv at *
  generalize decide (D = D2) = dv at *
  clear hz hz2 hd hd2 h1 h2
  cases sv
  · clear HCD hX hY
    go_enter Try.func21, Try.ntmps21
    go_wp2_with fail
    refine hcon.mono ?_
    rintro e w1 ⟨rfl, hb1⟩
    have HB := Lib.hid (hbd.trans (hb1.mono hbd.size))
    clear hcon hb1
    go_wp2
    go_ret
    exact ⟨by rw [HV.out]; rfl, HB.out⟩
  · go_enter Try.func21, Try.ntmps21
    go_wp2_with fail
    refine hcon.mono ?_
    rintro e w1 ⟨rfl, hb1⟩
    have hX1 := (hX.below hb1).c2
    have hY1 := (hY.below hb1).c2
    have hbd1 := hbd.trans (hb1.mono hbd.size)
    clear hcon hb1 x0 x1 y0 y1 hX hY
    obtain ⟨x0, x1⟩ := hX1
    obtain ⟨y0, y1⟩ := hY1
    go_wp2_with fail
    refine (HCD.out w1 hbd1).mono ?_
    rintro e w2 ⟨rfl, rfl⟩
    go_wp2
    go_ret
    exact ⟨by rw [HV.out]; rfl, hbd1⟩

def LgEPost (n : Nat) (L : List Lk) (r : Nat) (w : World) (e : Ending) (w' : World) : Prop := ∃ b, e = .returned (.bool b) ∧ Below w.heap.size w w' ∧ (b = false → n ≤ 50 ∧ blen 50 L ∧ r ≤ 500)
set_option maxHeartbeats 1000000 in
theorem long24_any (P : Nat → Prop) (A : Option Addr) (n m : Nat) (L : List Lk) (B : Option Addr) (r k : Nat) (w : World) (hz : Lks w P A n L) :
    Calls Try.prog 7 #[enagg A n m B r k] w (LgEPost n L r w) := by
  have hX := Blk.new w (enc' A n m B r k) 26
  have hb := below_one w (.cells (enc' A n m B r k) 26)
  obtain ⟨x0, x1⟩ := hX.c2
  have hcon := long23_any P A n m L _ (hz.below hb)
  clear hz
  go_enter Try.func7, Try.ntmps7
  go_wp2_with fail
  refine hcon.mono ?_
  rintro e w1 ⟨lb, rfl, hb1, hl⟩
  have hbd := hb.trans (hb1.mono hb.size)
  obtain ⟨y0, y1⟩ := (hX.below hb1).c2
  clear hcon hb1 x0 x1 hX hb
  cases lb
  · have HL := Lib.hid (hl rfl)
    clear hl
    by_cases hr : 500 < (r : Int)
    · go_wp2
      go_ret
      exact ⟨true, rfl, hbd, fun h => by cases h⟩
    · have HR : Hid (r ≤ 500) := Lib.hid (by omega)
      have HD : Hid (decide (500 < (r : Int)) = false) := Lib.hid (decide_eq_false hr)
      go_wp2
      go_ret
      exact ⟨false, congrArg (fun b => Ending.returned (.bool b)) HD.out, hbd, fun _ => ⟨HL.out.1, HL.out.2, HR.out⟩⟩
  · clear hl
    go_wp2
    go_ret
    exact ⟨true, rfl, hbd, fun h => by cases h⟩

set_option maxHeartbeats 1000000 in
theorem live24_any (w : World) : Calls Try.prog 8 #[] w fun e w' => e = .returned (.bool true) ∧ Below w.heap.size w w' := by
  have P1 : Hid (enok 10 [] 2 = true) := Lib.hid (by decide +kernel)
  have P2 : Hid (puts (lkis 10 [] 0 ++ [vz (2 : Nat)]) [] 9 0 = ([0, 2], 0)) := Lib.hid (by decide +kernel)
  go_enter Try.func8, Try.ntmps8
  go_wp2_with fail
  refine (wnew_any 9 w (by omega)).mono ?_
  rintro e w1 ⟨b, rfl, hbb, hb1, hw1⟩
  rw [if_neg (by omega)] at hw1
  have hb2 := hb1.alloc hb1.size (.cells #[.int .u8 7, .int .u8 8] 5)
  have hw2 := hw1.below (below_one w1 (.cells #[.int .u8 7, .int .u8 8] 5))
  have hB2 : w.heap.size ≤ (w1.alloc (.cells #[.int .u8 7, .int .u8 8] 5)).heap.size := hb2.size
  clear hw1
  go_wp2_with fail
  refine (puthead_yes (fun _ => False) 10 none 0 0 [] (some ⟨w1.heap.size, 0, none⟩) 2 2 hw2 ⟨rfl, Sq.nil _ _ _ _⟩ (by omega) (by omega) P1.out (fun b' h => h.elim) (by simp) hB2).mono ?_
  rintro e w3 ⟨r3, rfl, hk3, hg3, hw3⟩
  rw [P2.out] at hw3
  have hb3 := hw2.belowOf hb2 (Nat.le_refl _) hk3 (Nat.le_refl _)
  clear hw2 hb2 hk3 hg3
  go_wp2_with fail
  refine (wbytes_good hw3 (by simp)).mono ?_
  rintro e w4 ⟨g, rfl, hg, hb4, hblk⟩
  have hb5 := hb3.trans (hb4.mono hb3.size)
  have hs1 := (Bs.of_block (z := [0, 2]) hblk).below (below_one w4 (.cells #[.int .u8 0, .int .u8 2] 5))
  have hs2 := bs_new w4 [0, 2] 5
  go_wp2_with fail
  refine (same_any _ _ _ _ _ _ [0, 2] _ hs1 hs2).mono ?_
  rintro e w6 ⟨rfl, rfl⟩
  go_wp2
  go_ret
  exact ⟨rfl, hb5.alloc hb5.size _⟩
end Go.Proofs.Ytoeedhdckccajaa.Cur
