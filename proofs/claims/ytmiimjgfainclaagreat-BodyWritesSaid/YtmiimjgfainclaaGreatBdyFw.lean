/- As the seat's text, without what nothing here names. -/
import Derived.Test.YtmiimjgfainclaaGreatBdyEw
import Derived.Test.YtmiimjgfainclaaGreatK6w
import Derived.Test.YtmiimjgfainclaaGreatK1w
import Derived.Test.YtmiimjgfainclaaGreatLnkPw
namespace Go.Proofs.YtmiimjgfainclaaGreat.Cur
open Go.RowKit Mem
set_option linter.unusedVariables false
set_option linter.unusedSimpArgs false
set_option maxRecDepth 100000
def BdyPost (M : Ms) (w : World) (e : Ending) (w' : World) : Prop :=
  Below w.heap.size w w' ∧ ((bdk M = true ∧ ∃ g, e = .returned (.tuple #[.slice (some ⟨g, 0, none⟩) (bdz M).length (bdz M).length, .int .i64 0]) ∧ w.heap.size ≤ g ∧ Bs w' (some ⟨g, 0, none⟩) (bdz M).length (bdz M)) ∨
    (bdk M = false ∧ e = .returned (.tuple #[.slice none 0 0, .int .i64 3])))
set_option maxHeartbeats 2000000 in
theorem bytes28_any (M : Ms) (a : Ma) (w : World) (hm : MsIn w (fun b => b < w.heap.size) M a) (hS : M.S.length ≤ 1000000) (hP : M.P.length ≤ 1000000) (hpl : plen 1000000 M.P) (hD : M.D.length ≤ 1000) :
    Calls Tryz.prog 9 #[msagg M a] w (BdyPost M w) := by
  have hX := Blk.new w (msc M a) 32
  have hb := below_one w (.cells (msc M a) 32)
  obtain ⟨⟨x0, x1, x2, x3, x4, x5, x6⟩, x7, x8, x9, x10, x11, x12, x13⟩ := ms_cells hX
  have HM := Lib.hid (hm.below hb)
  have HX := Lib.hid hX
  have HB := Lib.hid hb
  have HPL := Lib.hid hpl
  clear hm hX hb hpl
  go_enter Tryz.func9, Tryz.ntmps9
  go_wp2_with fail
  generalize w.alloc (.cells (msc M a) 32) = w0 at *
  refine (wnew_any _ _ (by omega)).mono ?_
  rintro en w1 ⟨wb, rfl, hg1, hb1, hw1⟩
  rw [if_neg (by omega)] at hw1
  have hX1 := HX.out.below hb1
  have HM1 := Lib.hid (HM.out.below hb1)
  have hbd := HB.out.trans (hb1.mono HB.out.size)
  have hBX := hb1.size
  have hsz0 := HB.out.size
  clear x0 x1 x2 x3 x4 x5 x6 x7 x8 x9 x10 x11 x12 x13 hb1
  obtain ⟨⟨x0, x1, x2, x3, x4, x5, x6⟩, x7, x8, x9, x10, x11, x12, x13⟩ := ms_cells hX1
  clear hX1
  cases hok : bdk M
  · have hput := put28_no _ M a hw1 HM1.out hS (by omega) hP HPL.out hok
    go_wp2_with fail
    refine hput.mono ?_
    rintro en w2 ⟨rfl, hk, hw2⟩
    rw [if_pos rfl] at hw2
    have hbd2 := hw1.belowOf hbd (Nat.le_refl _) hk hsz0
    have HOK := Lib.hid hok
    clear x0 x1 x2 x3 x4 x5 x6 x7 x8 x9 x10 x11 x12 x13 hok hput
    go_wp2_with fail
    refine (wbytes_bad hw2 (by decide)).mono ?_
    rintro en w3 ⟨rfl, rfl⟩
    go_wp2
    go_ret2
    exact ⟨hbd2, .inr ⟨HOK.out, rfl⟩⟩
  · have HOK := Lib.hid hok
    have HLE := Lib.hid (bdz_len hok hD)
    have hput := put28_yes (y := []) (X := 9223372036854775807) (fun b => b < w.heap.size) M a hw1 HM1.out hS hP HPL.out hok hD (fun b' h1 _ => hw1.off_lt (by omega)) (fun b' h1 => by omega) (.inl rfl) (by simp) (by simp) hBX
    rw [List.nil_append] at hput
    go_wp2_with fail
    refine hput.mono ?_
    rintro en w2 ⟨r2, rfl, hk, _, hw2⟩
    have hbd2 := hw1.belowOf hbd (Nat.le_refl _) hk hsz0
    clear x0 x1 x2 x3 x4 x5 x6 x7 x8 x9 x10 x11 x12 x13 hok hput
    go_wp2_with fail
    refine (wbytes_good (z := bdz M) hw2 (by have := HLE.out; omega)).mono ?_
    rintro en w3 ⟨g, rfl, hg, hb3, hblk⟩
    have hs3 := Bs.of_block hblk
    have hbd3 := hbd2.trans (hb3.mono hbd2.size)
    have hgw : w.heap.size ≤ g := Nat.le_trans hbd2.size hg
    go_wp2
    go_ret2
    exact ⟨hbd3, .inl ⟨HOK.out, g, rfl, hgw, hs3⟩⟩
def exa : Ms := ⟨1, 0, 0, 300, 0, 0, [], [], [], (0, 0, 0), 0, []⟩
def exb : Ms := ⟨9, 0, 0, 0, 0, 2, [], [], [], (0, 0, 0), 0, []⟩
def ma0 : Ma := ⟨none, 0, none, 0, none, 0, none, 0⟩
theorem ms_none {w : World} {Q : Nat → Prop} {k p t : Int} (hk : i64b k) (hp : u64b p) (ht : i64b t) : MsIn w Q ⟨k, 0, 0, p, 0, t, [], [], [], (0, 0, 0), 0, []⟩ ma0 :=
  have z : u64b 0 := ⟨Int.le_refl _, by decide⟩
  have z' : i64b 0 := ⟨by decide, by decide⟩
  { hk := hk, he := z, hq := z, hp := hp, hc := z', ht := ht, hS := Sq.nil _ _ _ _, hS1 := Nat.le_refl _, hS2 := fun _ => rfl, hL := Sq.nil _ _ _ _, hL1 := Nat.le_refl _, hL2 := fun _ => rfl,
    hD := Sq.nil _ _ _ _, hD1 := Nat.le_refl _, hD2 := fun _ => rfl, hs := ⟨z, z, z⟩, hu := z, hP := Sq.nil _ _ _ _, hP1 := Nat.le_refl _, hP2 := fun _ => rfl }
set_option maxHeartbeats 2000000 in
theorem live28_any (w : World) : Calls Tryz.prog 8 #[] w (BPost (.bool true) w) := by
  unfold BPost
  have P1 : Hid (bdk exa = true) := Lib.hid (by decide +kernel)
  have P2 : Hid (bdz exa = [172, 2]) := Lib.hid (by decide +kernel)
  have P3 : Hid (bdk exb = true) := Lib.hid (by decide +kernel)
  have P4 : Hid (bdz exb = [2]) := Lib.hid (by decide +kernel)
  have h1 := fun w' => bytes28_any exa ma0 w' (ms_none ⟨by decide, by decide⟩ ⟨by decide, by decide⟩ ⟨by decide, by decide⟩) (by decide) (by decide) (show plen 1000000 [] from fun s hs => nomatch hs) (by decide)
  have h2 := fun w' => bytes28_any exb ma0 w' (ms_none ⟨by decide, by decide⟩ ⟨by decide, by decide⟩ ⟨by decide, by decide⟩) (by decide) (by decide) (show plen 1000000 [] from fun s hs => nomatch hs) (by decide)
  go_enter Tryz.func8, Tryz.ntmps8
  go_wp2_with fail
  refine (h1 _).mono ?_
  rintro e w1 ⟨hb1, ⟨_, g, rfl, hg, hbs⟩ | ⟨hf, _⟩⟩
  case inr => exact absurd hf (by rw [P1.out]; decide)
  rw [P2.out] at hbs ⊢
  clear h1
  go_wp2_with fail
  refine (h2 _).mono ?_
  rintro e w2 ⟨hb2, ⟨_, g2, rfl, hg2, hbs2⟩ | ⟨hf, _⟩⟩
  case inr => exact absurd hf (by rw [P3.out]; decide)
  rw [P4.out] at hbs2 ⊢
  have hbd := hb1.trans (hb2.mono hb1.size)
  have hq1 := (hbs.below hb2).below (below_one w2 (.cells #[.int .u8 172, .int .u8 2] 5))
  have hq2 := bs_new w2 [172, 2] 5
  have hb3 := below_one w2 (.cells #[.int .u8 172, .int .u8 2] 5)
  have hbd3 := hbd.trans (hb3.mono hbd.size)
  have HQ3 := Lib.hid (hbs2.below hb3)
  clear h2 hb1 hb2 hbs hbs2 hb3 hbd
  go_wp2_with fail
  refine (same_any _ _ _ _ _ _ [172, 2] _ hq1 hq2).mono ?_
  generalize w2.alloc (.cells #[.int .u8 172, .int .u8 2] 5) = w4 at *
  rintro e w5 ⟨rfl, he⟩
  subst he
  have hb6 := below_one w4 (.cells #[.int .u8 2] 5)
  have hr1 := HQ3.out.below hb6
  have hr2 := bs_new w4 [2] 5
  have hbd6 := hbd3.trans (hb6.mono hbd3.size)
  clear hq1 hq2 hb6 hbd3
  go_wp2_with fail
  refine (same_any _ _ _ _ _ _ [2] _ hr1 hr2).mono ?_
  rintro e w7 ⟨rfl, rfl⟩
  go_wp2
  go_ret
  exact ⟨rfl, hbd6⟩
def Lg28 (M : Ms) (w : World) (e : Ending) (w' : World) : Prop := ∃ b, e = .returned (.bool b) ∧ Below w.heap.size w w' ∧ (b = false → M.S.length ≤ 50 ∧ M.L.length ≤ 50 ∧ blen 50 M.L ∧ M.D.length ≤ 300 ∧ M.P.length ≤ 70 ∧ plen 20 M.P)
set_option maxHeartbeats 2000000 in
theorem long28_any (Q : Nat → Prop) (M : Ms) (a : Ma) (w : World) (hm : MsIn w Q M a) : Calls Tryz.prog 7 #[msagg M a] w (Lg28 M w) := by
  have hX := Blk.new w (msc M a) 32
  have hb := below_one w (.cells (msc M a) 32)
  obtain ⟨⟨x0, x1, x2, x3, x4, x5, x6⟩, x7, x8, x9, x10, x11, x12, x13⟩ := ms_cells hX
  have HM := Lib.hid (hm.below hb)
  have HX := Lib.hid hX
  have HB := Lib.hid hb
  clear hm hX hb
  by_cases h1 : M.S.length ≤ 50
  case neg =>
    have h1' : ¬ (M.S.length : Int) ≤ 50 := by omega
    clear h1
    go_enter Tryz.func7, Tryz.ntmps7
    go_wp2
    go_ret
    exact ⟨true, rfl, HB.out, fun h => by cases h⟩
  have h1' : (M.S.length : Int) ≤ 50 := by omega
  have HS1 := Lib.hid h1
  clear h1
  go_enter Tryz.func7, Tryz.ntmps7
  go_wp2_with fail
  generalize w.alloc (.cells (msc M a) 32) = w0 at *
  refine (long23_any _ a.A2 M.L.length a.m2 M.L _ HM.out.lks).mono ?_
  rintro e w1 ⟨lb, rfl, hb1, hl⟩
  have HB1 := Lib.hid (HB.out.trans (hb1.mono HB.out.size))
  have HX1 := Lib.hid (HX.out.below hb1)
  have HM1 := Lib.hid (HM.out.below hb1)
  clear x0 x1 x2 x3 x4 x5 x6 x7 x8 x9 x10 x11 x12 x13 hb1
  obtain ⟨⟨x0, x1, x2, x3, x4, x5, x6⟩, x7, x8, x9, x10, x11, x12, x13⟩ := ms_cells HX1.out
  cases lb
  case true =>
    clear hl
    go_wp2
    go_ret
    exact ⟨true, rfl, HB1.out, fun h => by cases h⟩
  have HL := Lib.hid (hl rfl)
  clear hl
  by_cases h2 : M.D.length ≤ 300
  case neg =>
    have h2' : ¬ (M.D.length : Int) ≤ 300 := by omega
    clear h2
    go_wp2
    go_ret
    exact ⟨true, rfl, HB1.out, fun h => by cases h⟩
  have h2' : (M.D.length : Int) ≤ 300 := by omega
  have HD := Lib.hid h2
  clear h2
  go_wp2_with fail
  refine (long20_any _ M.u a.A4 M.P.length a.m4 M.P _ HM1.out.pts).mono ?_
  rintro e w2 ⟨lb, rfl, hb2, hl⟩
  have HB2 := Lib.hid (HB1.out.trans (hb2.mono HB1.out.size))
  have HPL := Lib.hid hl
  clear hl hb2 x0 x1 x2 x3 x4 x5 x6 x7 x8 x9 x10 x11 x12 x13
  go_wp2
  go_ret
  refine ⟨lb, ?_, HB2.out, fun h => ⟨HS1.out, HL.out.1, HL.out.2, HD.out, (HPL.out h).1, (HPL.out h).2⟩⟩
  show Ending.returned (Value.bool (decide (50 < (M.S.length : Int)) || decide (300 < (M.D.length : Int)) || lb)) = _
  rw [decide_eq_false (by omega), decide_eq_false (by omega)]; rfl
end Go.Proofs.YtmiimjgfainclaaGreat.Cur
