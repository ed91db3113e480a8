/- Tokens: which are some, and how many bytes they make. -/
import Derived.Test.YtklkflfdianbpaaK1
import Derived.WalkKit
import Derived.WalkSpells
import Derived.WalkLawsBesides
import Derived.Lib.Hide
namespace Go.Proofs.Ytklkflfdianbpaa.Cur
open Go.RowKit Mem
set_option linter.unusedVariables false

/-- A token's value. -/
abbrev tv (A : Option Addr) (n m : Nat) (o l : Int) : Value := .agg #[.slice A n m, .int .i64 o, .int .i64 l]
def trun (n : Nat) (o l : Int) : Bool := decide (o = 0 ∧ l = 0 ∧ 1 ≤ n ∧ n ≤ 1048576)
def tcpy (n : Nat) (o l : Int) : Bool := decide (n = 0 ∧ 1 ≤ o ∧ o ≤ 65536 ∧ 4 ≤ l ∧ l ≤ 1048576)
/-- How many bytes it makes. -/
def tsz (n : Nat) (o l : Int) : Int := if trun n o l then n else if tcpy n o l then l else 0
theorem tsz_run {n : Nat} {o l : Int} (h : trun n o l = true) : tsz n o l = n := by unfold tsz; rw [if_pos h]
theorem tsz_cpy {n : Nat} {o l : Int} (h : tcpy n o l = true) : tsz n o l = l := by
  have hr : ¬ trun n o l = true := by unfold trun tcpy at *; simp only [decide_eq_true_eq] at *; omega
  unfold tsz; rw [if_neg hr, if_pos h]
theorem tsz_no {n : Nat} {o l : Int} (h : trun n o l = false) (h2 : tcpy n o l = false) : tsz n o l = 0 := by unfold tsz; rw [h, h2]; rfl
theorem tsz_right (n : Nat) (o l : Int) : (decide (0 < tsz n o l)) = (trun n o l || tcpy n o l) := by
  by_cases hr : trun n o l = true
  · have hp := hr
    unfold trun at hp
    rw [decide_eq_true_eq] at hp
    rw [tsz_run hr, hr, Bool.true_or, decide_eq_true_eq]
    omega
  · by_cases hc : tcpy n o l = true
    · have hp := hc
      unfold tcpy at hp
      rw [decide_eq_true_eq] at hp
      rw [tsz_cpy hc, hc, Bool.or_true, decide_eq_true_eq]
      omega
    · rw [Bool.not_eq_true] at hr hc
      rw [tsz_no hr hc, hr, hc]; rfl
theorem tsz_bd (n : Nat) (o l : Int) : 0 ≤ tsz n o l ∧ tsz n o l ≤ 1048576 := by
  by_cases hr : trun n o l = true
  · have hp := hr
    unfold trun at hp
    rw [decide_eq_true_eq] at hp
    rw [tsz_run hr]; omega
  · by_cases hc : tcpy n o l = true
    · have hp := hc
      unfold tcpy at hp
      rw [decide_eq_true_eq] at hp
      rw [tsz_cpy hc]; omega
    · rw [Bool.not_eq_true] at hr hc
      rw [tsz_no hr hc]; omega

/-- The facts of a token that came in a box: its block, and the world from which on all is as it was. -/
theorem tbox (w : World) (v0 v1 v2 : Value) (t : Nat) : Blk (w.alloc (.cells #[v0, v1, v2] t)) w.heap.size #[v0, v1, v2] t ∧ Below w.heap.size w (w.alloc (.cells #[v0, v1, v2] t)) :=
  ⟨Blk.new _ _ _, below_one _ _⟩

set_option maxHeartbeats 400000 in
theorem limits_any (b : Bool) (w : World) : Calls Try.prog 60 #[.bool b] w fun e w' => e = .returned (.tuple #[.int .i64 (if b then 4 else 1), .int .i64 1048576]) ∧ w = w' := by
  cases b
  · go_enter Try.func60, Try.ntmps60
    go_wp2
    go_ret2
    exact ⟨rfl, rfl⟩
  · go_enter Try.func60, Try.ntmps60
    go_wp2
    go_ret2
    exact ⟨rfl, rfl⟩


set_option maxHeartbeats 1000000 in
theorem rrun_any (A : Option Addr) (n m : Nat) (o l : Int) (w : World) : Calls Try.prog 20 #[tv A n m o l] w (BPost (.bool (trun n o l)) w) := by
  unfold BPost
  by_cases h0 : o = 0
  · subst h0
    by_cases h1 : l = 0
    · subst h1
      by_cases h2 : 1 ≤ n
      · by_cases h3 : n ≤ 1048576
        · have E : Hid (trun n 0 0 = true) := Lib.hid (by unfold trun; rw [decide_eq_true_eq]; omega)
          obtain ⟨hX, hB⟩ := tbox w (.slice A n m) (.int .i64 0) (.int .i64 0) 34
          go_enter Try.func20, Try.ntmps20
          obtain ⟨x0, x1, x2⟩ := hX.c3
          go_wp2
          go_ret
          exact ⟨by rw [E.out]; first | rfl | (simp <;> omega), hB⟩
        · have E : Hid (trun n 0 0 = false) := Lib.hid (by unfold trun; rw [decide_eq_false_iff_not]; omega)
          obtain ⟨hX, hB⟩ := tbox w (.slice A n m) (.int .i64 0) (.int .i64 0) 34
          go_enter Try.func20, Try.ntmps20
          obtain ⟨x0, x1, x2⟩ := hX.c3
          go_wp2
          go_ret
          exact ⟨by rw [E.out]; first | rfl | (simp <;> omega), hB⟩
      · have E : Hid (trun n 0 0 = false) := Lib.hid (by unfold trun; rw [decide_eq_false_iff_not]; omega)
        obtain rfl : n = 0 := by omega
        obtain ⟨hX, hB⟩ := tbox w (.slice A 0 m) (.int .i64 0) (.int .i64 0) 34
        go_enter Try.func20, Try.ntmps20
        obtain ⟨x0, x1, x2⟩ := hX.c3
        go_wp2
        go_ret
        exact ⟨by rw [E.out]; first | rfl | (simp <;> omega), hB⟩
    · have E : Hid (trun n 0 l = false) := Lib.hid (by unfold trun; rw [decide_eq_false_iff_not]; omega)
      have hb : (l == 0) = false := by simpa using h1
      clear h1
      obtain ⟨hX, hB⟩ := tbox w (.slice A n m) (.int .i64 0) (.int .i64 l) 34
      go_enter Try.func20, Try.ntmps20
      obtain ⟨x0, x1, x2⟩ := hX.c3
      go_wp2
      go_ret
      exact ⟨by rw [E.out]; first | rfl | (simp <;> omega), hB⟩
  · have E : Hid (trun n o l = false) := Lib.hid (by unfold trun; rw [decide_eq_false_iff_not]; omega)
    have hb : (o == 0) = false := by simpa using h0
    clear h0
    obtain ⟨hX, hB⟩ := tbox w (.slice A n m) (.int .i64 o) (.int .i64 l) 34
    go_enter Try.func20, Try.ntmps20
    obtain ⟨x0, x1, x2⟩ := hX.c3
    go_wp2
    go_ret
    exact ⟨by rw [E.out]; first | rfl | (simp <;> omega), hB⟩

set_option maxHeartbeats 1000000 in
theorem rcopy_any (A : Option Addr) (n m : Nat) (o l : Int) (w : World) : Calls Try.prog 21 #[tv A n m o l] w (BPost (.bool (tcpy n o l)) w) := by
  unfold BPost
  by_cases h0 : n = 0
  · subst h0
    by_cases h1 : 1 ≤ o
    · by_cases h2 : o ≤ 65536
      · by_cases h3 : 4 ≤ l
        · by_cases h4 : l ≤ 1048576
          · have E : Hid (tcpy 0 o l = true) := Lib.hid (by unfold tcpy; rw [decide_eq_true_eq]; omega)
            obtain ⟨hX, hB⟩ := tbox w (.slice A 0 m) (.int .i64 o) (.int .i64 l) 34
            go_enter Try.func21, Try.ntmps21
            obtain ⟨x0, x1, x2⟩ := hX.c3
            go_wp2
            go_ret
            exact ⟨by rw [E.out]; first | rfl | (simp <;> omega), hB⟩
          · have E : Hid (tcpy 0 o l = false) := Lib.hid (by unfold tcpy; rw [decide_eq_false_iff_not]; omega)
            obtain ⟨hX, hB⟩ := tbox w (.slice A 0 m) (.int .i64 o) (.int .i64 l) 34
            go_enter Try.func21, Try.ntmps21
            obtain ⟨x0, x1, x2⟩ := hX.c3
            go_wp2
            go_ret
            exact ⟨by rw [E.out]; first | rfl | (simp <;> omega), hB⟩
        · have E : Hid (tcpy 0 o l = false) := Lib.hid (by unfold tcpy; rw [decide_eq_false_iff_not]; omega)
          obtain ⟨hX, hB⟩ := tbox w (.slice A 0 m) (.int .i64 o) (.int .i64 l) 34
          go_enter Try.func21, Try.ntmps21
          obtain ⟨x0, x1, x2⟩ := hX.c3
          go_wp2
          go_ret
          exact ⟨by rw [E.out]; first | rfl | (simp <;> omega), hB⟩
      · have E : Hid (tcpy 0 o l = false) := Lib.hid (by unfold tcpy; rw [decide_eq_false_iff_not]; omega)
        obtain ⟨hX, hB⟩ := tbox w (.slice A 0 m) (.int .i64 o) (.int .i64 l) 34
        go_enter Try.func21, Try.ntmps21
        obtain ⟨x0, x1, x2⟩ := hX.c3
        go_wp2
        go_ret
        exact ⟨by rw [E.out]; first | rfl | (simp <;> omega), hB⟩
    · have E : Hid (tcpy 0 o l = false) := Lib.hid (by unfold tcpy; rw [decide_eq_false_iff_not]; omega)
      obtain ⟨hX, hB⟩ := tbox w (.slice A 0 m) (.int .i64 o) (.int .i64 l) 34
      go_enter Try.func21, Try.ntmps21
      obtain ⟨x0, x1, x2⟩ := hX.c3
      go_wp2
      go_ret
      exact ⟨by rw [E.out]; first | rfl | (simp <;> omega), hB⟩
  · have E : Hid (tcpy n o l = false) := Lib.hid (by unfold tcpy; rw [decide_eq_false_iff_not]; omega)
    have hb : ((n : Int) == 0) = false := by simpa using h0
    clear h0
    obtain ⟨hX, hB⟩ := tbox w (.slice A n m) (.int .i64 o) (.int .i64 l) 34
    go_enter Try.func21, Try.ntmps21
    obtain ⟨x0, x1, x2⟩ := hX.c3
    go_wp2
    go_ret
    exact ⟨by rw [E.out]; first | rfl | (simp <;> omega), hB⟩

set_option maxHeartbeats 1000000 in
theorem rtright_any (A : Option Addr) (n m : Nat) (o l : Int) (w : World) : Calls Try.prog 25 #[tv A n m o l] w (BPost (.bool (trun n o l || tcpy n o l)) w) := by
  unfold BPost
  have H1 := rrun_any A n m o l
  have H2 := rcopy_any A n m o l
  cases hr : trun n o l
  · rw [hr] at H1
    generalize tcpy n o l = c at *
    obtain ⟨hX, hB⟩ := tbox w (.slice A n m) (.int .i64 o) (.int .i64 l) 34
    go_enter Try.func25, Try.ntmps25
    obtain ⟨x0, x1, x2⟩ := hX.c3
    go_wp2_with fail
    refine (H1 _).mono ?_
    rintro e w1 ⟨rfl, hb1⟩
    replace hX := hX.below hb1
    replace hB := hB.trans (hb1.mono hB.size)
    clear hb1 x0 x1 x2
    obtain ⟨x0, x1, x2⟩ := hX.c3
    go_wp2_with fail
    refine (H2 _).mono ?_
    rintro e w2 ⟨rfl, hb2⟩
    go_wp2
    go_ret
    exact ⟨by simp, hB.trans (hb2.mono hB.size)⟩
  · rw [hr] at H1
    obtain ⟨hX, hB⟩ := tbox w (.slice A n m) (.int .i64 o) (.int .i64 l) 34
    go_enter Try.func25, Try.ntmps25
    obtain ⟨x0, x1, x2⟩ := hX.c3
    go_wp2_with fail
    refine (H1 _).mono ?_
    rintro e w1 ⟨rfl, hb1⟩
    go_wp2
    go_ret
    exact ⟨by simp, hB.trans (hb1.mono hB.size)⟩

set_option maxHeartbeats 1000000 in
theorem rtlen_any (A : Option Addr) (n m : Nat) (o l : Int) (w : World) : Calls Try.prog 12 #[tv A n m o l] w (BPost (.int .i64 (tsz n o l)) w) := by
  unfold BPost
  have H1 := rrun_any A n m o l
  have H2 := rcopy_any A n m o l
  cases hr : trun n o l
  · rw [hr] at H1
    cases hc : tcpy n o l
    · rw [hc] at H2
      have E := Lib.hid (tsz_no hr hc)
      clear hr hc
      obtain ⟨hX, hB⟩ := tbox w (.slice A n m) (.int .i64 o) (.int .i64 l) 34
      go_enter Try.func12, Try.ntmps12
      obtain ⟨x0, x1, x2⟩ := hX.c3
      go_wp2_with fail
      refine (H1 _).mono ?_
      rintro e w1 ⟨rfl, hb1⟩
      replace hX := hX.below hb1
      replace hB := hB.trans (hb1.mono hB.size)
      clear hb1 x0 x1 x2
      obtain ⟨x0, x1, x2⟩ := hX.c3
      go_wp2_with fail
      refine (H2 _).mono ?_
      rintro e w2 ⟨rfl, hb2⟩
      go_wp2
      go_ret
      exact ⟨by rw [E.out]; rfl, hB.trans (hb2.mono hB.size)⟩
    · rw [hc] at H2
      have E := Lib.hid (tsz_cpy hc)
      clear hr hc
      obtain ⟨hX, hB⟩ := tbox w (.slice A n m) (.int .i64 o) (.int .i64 l) 34
      go_enter Try.func12, Try.ntmps12
      obtain ⟨x0, x1, x2⟩ := hX.c3
      go_wp2_with fail
      refine (H1 _).mono ?_
      rintro e w1 ⟨rfl, hb1⟩
      replace hX := hX.below hb1
      replace hB := hB.trans (hb1.mono hB.size)
      clear hb1 x0 x1 x2
      obtain ⟨x0, x1, x2⟩ := hX.c3
      go_wp2_with fail
      refine (H2 _).mono ?_
      rintro e w2 ⟨rfl, hb2⟩
      replace hX := hX.below hb2
      replace hB := hB.trans (hb2.mono hB.size)
      clear hb2 x0 x1 x2
      obtain ⟨x0, x1, x2⟩ := hX.c3
      go_wp2
      go_ret
      exact ⟨by rw [E.out]; rfl, hB⟩
  · rw [hr] at H1
    have E := Lib.hid (tsz_run hr)
    clear hr
    obtain ⟨hX, hB⟩ := tbox w (.slice A n m) (.int .i64 o) (.int .i64 l) 34
    go_enter Try.func12, Try.ntmps12
    obtain ⟨x0, x1, x2⟩ := hX.c3
    go_wp2_with fail
    refine (H1 _).mono ?_
    rintro e w1 ⟨rfl, hb1⟩
    replace hX := hX.below hb1
    replace hB := hB.trans (hb1.mono hB.size)
    clear hb1 x0 x1 x2
    obtain ⟨x0, x1, x2⟩ := hX.c3
    go_wp2
    go_ret
    exact ⟨by rw [E.out]; rfl, hB⟩

set_option maxHeartbeats 2000000 in
theorem tlen_any (A : Option Addr) (n m : Nat) (o l : Int) (w : World) : Calls Try.prog 37 #[tv A n m o l] w (BPost (.int .i64 (tsz n o l)) w) := by
  unfold BPost
  by_cases h0 : o = 0
  · subst h0
    by_cases h1 : l = 0
    · subst h1
      have hc : tcpy n 0 0 = false := by unfold tcpy; rw [decide_eq_false_iff_not]; omega
      by_cases h2 : 1 ≤ n
      · by_cases h3 : n ≤ 1048576
        · have E : Hid (tsz n 0 0 = n) := Lib.hid (tsz_run (by unfold trun; rw [decide_eq_true_eq]; omega))
          clear hc
          obtain ⟨hX, hB⟩ := tbox w (.slice A n m) (.int .i64 0) (.int .i64 0) 34
          go_enter Try.func37, Try.ntmps37
          obtain ⟨x0, x1, x2⟩ := hX.c3
          go_wp2_with fail
          refine (limits_any _ _).mono ?_
          rintro e w1 ⟨rfl, rfl⟩
          go_wp2
          go_ret
          exact ⟨by rw [E.out]; rfl, hB⟩
        · have E : Hid (tsz n 0 0 = 0) := Lib.hid (tsz_no (by unfold trun; rw [decide_eq_false_iff_not]; omega) hc)
          clear hc
          obtain ⟨hX, hB⟩ := tbox w (.slice A n m) (.int .i64 0) (.int .i64 0) 34
          go_enter Try.func37, Try.ntmps37
          obtain ⟨x0, x1, x2⟩ := hX.c3
          go_wp2_with fail
          refine (limits_any _ _).mono ?_
          rintro e w1 ⟨rfl, rfl⟩
          go_wp2
          go_ret
          exact ⟨by rw [E.out]; rfl, hB⟩
      · have E : Hid (tsz n 0 0 = 0) := Lib.hid (tsz_no (by unfold trun; rw [decide_eq_false_iff_not]; omega) hc)
        obtain rfl : n = 0 := by omega
        clear hc
        obtain ⟨hX, hB⟩ := tbox w (.slice A 0 m) (.int .i64 0) (.int .i64 0) 34
        go_enter Try.func37, Try.ntmps37
        obtain ⟨x0, x1, x2⟩ := hX.c3
        go_wp2_with fail
        refine (limits_any _ _).mono ?_
        rintro e w1 ⟨rfl, rfl⟩
        go_wp2
        go_ret
        exact ⟨by rw [E.out]; rfl, hB⟩
    · have E : Hid (tsz n 0 l = 0) := Lib.hid (tsz_no (by unfold trun; rw [decide_eq_false_iff_not]; omega) (by unfold tcpy; rw [decide_eq_false_iff_not]; omega))
      have hb : (l == 0) = false := by simpa using h1
      clear h1
      obtain ⟨hX, hB⟩ := tbox w (.slice A n m) (.int .i64 0) (.int .i64 l) 34
      go_enter Try.func37, Try.ntmps37
      obtain ⟨x0, x1, x2⟩ := hX.c3
      go_wp2
      go_ret
      exact ⟨by rw [E.out]; rfl, hB⟩
  · have hb : (o == 0) = false := by simpa using h0
    have hr : trun n o l = false := by unfold trun; rw [decide_eq_false_iff_not]; omega
    by_cases h1 : 1 ≤ o
    · by_cases h2 : o ≤ 65536
      · by_cases h3 : n = 0
        · subst h3
          have hg : 0 < o := by omega
          by_cases h4 : 4 ≤ l
          · by_cases h5 : l ≤ 1048576
            · have E : Hid (tsz 0 o l = l) := Lib.hid (tsz_cpy (by unfold tcpy; rw [decide_eq_true_eq]; omega))
              clear hr h0
              obtain ⟨hX, hB⟩ := tbox w (.slice A 0 m) (.int .i64 o) (.int .i64 l) 34
              go_enter Try.func37, Try.ntmps37
              obtain ⟨x0, x1, x2⟩ := hX.c3
              go_wp2_with fail
              refine (limits_any _ _).mono ?_
              rintro e w1 ⟨rfl, rfl⟩
              go_wp2
              go_ret
              exact ⟨by rw [E.out]; rfl, hB⟩
            · have E : Hid (tsz 0 o l = 0) := Lib.hid (tsz_no hr (by unfold tcpy; rw [decide_eq_false_iff_not]; omega))
              clear hr h0
              obtain ⟨hX, hB⟩ := tbox w (.slice A 0 m) (.int .i64 o) (.int .i64 l) 34
              go_enter Try.func37, Try.ntmps37
              obtain ⟨x0, x1, x2⟩ := hX.c3
              go_wp2_with fail
              refine (limits_any _ _).mono ?_
              rintro e w1 ⟨rfl, rfl⟩
              go_wp2
              go_ret
              exact ⟨by rw [E.out]; rfl, hB⟩
          · have E : Hid (tsz 0 o l = 0) := Lib.hid (tsz_no hr (by unfold tcpy; rw [decide_eq_false_iff_not]; omega))
            clear hr h0
            obtain ⟨hX, hB⟩ := tbox w (.slice A 0 m) (.int .i64 o) (.int .i64 l) 34
            go_enter Try.func37, Try.ntmps37
            obtain ⟨x0, x1, x2⟩ := hX.c3
            go_wp2_with fail
            refine (limits_any _ _).mono ?_
            rintro e w1 ⟨rfl, rfl⟩
            go_wp2
            go_ret
            exact ⟨by rw [E.out]; rfl, hB⟩
        · have E : Hid (tsz n o l = 0) := Lib.hid (tsz_no hr (by unfold tcpy; rw [decide_eq_false_iff_not]; omega))
          have hb2 : ((n : Int) == 0) = false := by simpa using h3
          clear hr h0 h3
          obtain ⟨hX, hB⟩ := tbox w (.slice A n m) (.int .i64 o) (.int .i64 l) 34
          go_enter Try.func37, Try.ntmps37
          obtain ⟨x0, x1, x2⟩ := hX.c3
          go_wp2
          go_ret
          exact ⟨by rw [E.out]; rfl, hB⟩
      · have E : Hid (tsz n o l = 0) := Lib.hid (tsz_no hr (by unfold tcpy; rw [decide_eq_false_iff_not]; omega))
        clear hr h0
        obtain ⟨hX, hB⟩ := tbox w (.slice A n m) (.int .i64 o) (.int .i64 l) 34
        go_enter Try.func37, Try.ntmps37
        obtain ⟨x0, x1, x2⟩ := hX.c3
        go_wp2
        go_ret
        exact ⟨by rw [E.out]; rfl, hB⟩
    · have E : Hid (tsz n o l = 0) := Lib.hid (tsz_no hr (by unfold tcpy; rw [decide_eq_false_iff_not]; omega))
      clear hr h0
      obtain ⟨hX, hB⟩ := tbox w (.slice A n m) (.int .i64 o) (.int .i64 l) 34
      go_enter Try.func37, Try.ntmps37
      obtain ⟨x0, x1, x2⟩ := hX.c3
      go_wp2
      go_ret
      exact ⟨by rw [E.out]; rfl, hB⟩

set_option maxHeartbeats 1000000 in
theorem tright_any (A : Option Addr) (n m : Nat) (o l : Int) (w : World) : Calls Try.prog 63 #[tv A n m o l] w (BPost (.bool (trun n o l || tcpy n o l)) w) := by
  unfold BPost
  have E := Lib.hid (tsz_right n o l)
  obtain ⟨hX, hB⟩ := tbox w (.slice A n m) (.int .i64 o) (.int .i64 l) 34
  go_enter Try.func63, Try.ntmps63
  obtain ⟨x0, x1, x2⟩ := hX.c3
  go_wp2_with fail
  refine (tlen_any _ _ _ _ _ _).mono ?_
  rintro e w1 ⟨rfl, hb1⟩
  go_wp2
  go_ret
  exact ⟨by rw [← E.out]; rfl, hB.trans (hb1.mono hB.size)⟩
end Go.Proofs.Ytklkflfdianbpaa.Cur
