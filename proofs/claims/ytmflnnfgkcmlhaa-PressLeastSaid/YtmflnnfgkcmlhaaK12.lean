/- K12: TokA TokB TokC TokD TokE TokF TokG TokH TokI TokJ TokK TokL TokM -/
import Derived.Test.YtmflnnfgkcmlhaaK1
import Derived.WalkKit
import Derived.WalkSpells
import Derived.WalkLawsBesides
import Derived.Lib.Hide
import Derived.Test.YtmflnnfgkcmlhaaK4
import Derived.Test.YtmflnnfgkcmlhaaK6
import Derived.Deep.Slices
import Derived.Test.YtmflnnfgkcmlhaaK3
import Derived.Deep.Cut
import Derived.Deep.LoopGhost
/- Tokens: which are some, and how many bytes they make. -/
/- Lists of tokens: in memory, as a list; the document's bytes of them; Total, Long. -/
/- Tokens written: the document's Bytes; Put, Bytes, Total; Long. -/
/- Tokens written by the program: putHead, Put, Bytes. -/
/- Two lists of tokens told the same or not, by the program and by the document. -/
/- Tokens read: what is read, as a value; Head, Offset, Read; the document's Read. -/
/- The document's reader of a token. -/
/- Tokens one behind the other, read: what is read, as a value; rows of tokens that a call made; Get, by the program and by the document. -/
/- Get: the tokens of which bytes consist, by the program. -/
/- Get, by the document. -/
/- Tokens put and read, as lists: what is read is put so again; what is put is read. -/
/- The document's example for tokens is as it says (live). -/
/- What is read of a token: its head, and what stands behind it. -/
namespace Go.Proofs.Ytmflnnfgkcmlhaa.Cur
open Go.RowKit Mem
set_option linter.unusedVariables false

/-- A token's value. -/
abbrev tv (A : Option Addr) (n m : Nat) (o l : Int) : Value := .agg #[.slice A n m, .int .i64 o, .int .i64 l]
def trun (n : Nat) (o l : Int) : Bool := decide (o = 0 ∧ l = 0 ∧ 1 ≤ n ∧ n ≤ 1048576)
def tcpy (n : Nat) (o l : Int) : Bool := decide (n = 0 ∧ 1 ≤ o ∧ o ≤ 65536 ∧ 4 ≤ l ∧ l ≤ 1048576)
/-- How many bytes it makes. -/
def tsz (n : Nat) (o l : Int) : Int := if trun n o l then n else if tcpy n o l then l else 0
theorem tsz_run {n : Nat} {o l : Int} (h : trun n o l = true) : tsz n o l = n := by unfold tsz; rw [if_pos h]
theorem tsz_cpy {n : Nat} {o l : Int} (h : tcpy n o l = true) : tsz n o l = l := by
  have hr : ¬ trun n o l = true := by unfold trun tcpy at *; simp only [decide_eq_true_eq] at *; omega
  unfold tsz; rw [if_neg hr, if_pos h]
theorem tsz_no {n : Nat} {o l : Int} (h : trun n o l = false) (h2 : tcpy n o l = false) : tsz n o l = 0 := by unfold tsz; rw [h, h2]; rfl
theorem tsz_right (n : Nat) (o l : Int) : (decide (0 < tsz n o l)) = (trun n o l || tcpy n o l) := by
  by_cases hr : trun n o l = true
  · have hp := hr
    unfold trun at hp
    rw [decide_eq_true_eq] at hp
    rw [tsz_run hr, hr, Bool.true_or, decide_eq_true_eq]
    omega
  · by_cases hc : tcpy n o l = true
    · have hp := hc
      unfold tcpy at hp
      rw [decide_eq_true_eq] at hp
      rw [tsz_cpy hc, hc, Bool.or_true, decide_eq_true_eq]
      omega
    · rw [Bool.not_eq_true] at hr hc
      rw [tsz_no hr hc, hr, hc]; rfl
theorem tsz_bd (n : Nat) (o l : Int) : 0 ≤ tsz n o l ∧ tsz n o l ≤ 1048576 := by
  by_cases hr : trun n o l = true
  · have hp := hr
    unfold trun at hp
    rw [decide_eq_true_eq] at hp
    rw [tsz_run hr]; omega
  · by_cases hc : tcpy n o l = true
    · have hp := hc
      unfold tcpy at hp
      rw [decide_eq_true_eq] at hp
      rw [tsz_cpy hc]; omega
    · rw [Bool.not_eq_true] at hr hc
      rw [tsz_no hr hc]; omega

/-- The facts of a token that came in a box: its block, and the world from which on all is as it was. -/
theorem tbox (w : World) (v0 v1 v2 : Value) (t : Nat) : Blk (w.alloc (.cells #[v0, v1, v2] t)) w.heap.size #[v0, v1, v2] t ∧ Below w.heap.size w (w.alloc (.cells #[v0, v1, v2] t)) :=
  ⟨Blk.new _ _ _, below_one _ _⟩

set_option maxHeartbeats 400000 in
theorem limits_any (b : Bool) (w : World) : Calls Try.prog 107 #[.bool b] w fun e w' => e = .returned (.tuple #[.int .i64 (if b then 4 else 1), .int .i64 1048576]) ∧ w = w' := by
  cases b
  · go_enter Try.func107, Try.ntmps107
    go_wp2
    go_ret2
    exact ⟨rfl, rfl⟩
  · go_enter Try.func107, Try.ntmps107
    go_wp2
    go_ret2
    exact ⟨rfl, rfl⟩


set_option maxHeartbeats 1000000 in
theorem rrun_any (A : Option Addr) (n m : Nat) (o l : Int) (w : World) : Calls Try.prog 13 #[tv A n m o l] w (BPost (.bool (trun n o l)) w) := by
  unfold BPost
  by_cases h0 : o = 0
  · subst h0
    by_cases h1 : l = 0
    · subst h1
      by_cases h2 : 1 ≤ n
      · by_cases h3 : n ≤ 1048576
        · have E : Hid (trun n 0 0 = true) := Lib.hid (by unfold trun; rw [decide_eq_true_eq]; omega)
          obtain ⟨hX, hB⟩ := tbox w (.slice A n m) (.int .i64 0) (.int .i64 0) 33
          go_enter Try.func13, Try.ntmps13
          obtain ⟨x0, x1, x2⟩ := hX.c3
          go_wp2
          go_ret
          exact ⟨by rw [E.out]; first | rfl | (simp <;> omega), hB⟩
        · have E : Hid (trun n 0 0 = false) := Lib.hid (by unfold trun; rw [decide_eq_false_iff_not]; omega)
          obtain ⟨hX, hB⟩ := tbox w (.slice A n m) (.int .i64 0) (.int .i64 0) 33
          go_enter Try.func13, Try.ntmps13
          obtain ⟨x0, x1, x2⟩ := hX.c3
          go_wp2
          go_ret
          exact ⟨by rw [E.out]; first | rfl | (simp <;> omega), hB⟩
      · have E : Hid (trun n 0 0 = false) := Lib.hid (by unfold trun; rw [decide_eq_false_iff_not]; omega)
        obtain rfl : n = 0 := by omega
        obtain ⟨hX, hB⟩ := tbox w (.slice A 0 m) (.int .i64 0) (.int .i64 0) 33
        go_enter Try.func13, Try.ntmps13
        obtain ⟨x0, x1, x2⟩ := hX.c3
        go_wp2
        go_ret
        exact ⟨by rw [E.out]; first | rfl | (simp <;> omega), hB⟩
    · have E : Hid (trun n 0 l = false) := Lib.hid (by unfold trun; rw [decide_eq_false_iff_not]; omega)
      have hb : (l == 0) = false := by simpa using h1
      clear h1
      obtain ⟨hX, hB⟩ := tbox w (.slice A n m) (.int .i64 0) (.int .i64 l) 33
      go_enter Try.func13, Try.ntmps13
      obtain ⟨x0, x1, x2⟩ := hX.c3
      go_wp2
      go_ret
      exact ⟨by rw [E.out]; first | rfl | (simp <;> omega), hB⟩
  · have E : Hid (trun n o l = false) := Lib.hid (by unfold trun; rw [decide_eq_false_iff_not]; omega)
    have hb : (o == 0) = false := by simpa using h0
    clear h0
    obtain ⟨hX, hB⟩ := tbox w (.slice A n m) (.int .i64 o) (.int .i64 l) 33
    go_enter Try.func13, Try.ntmps13
    obtain ⟨x0, x1, x2⟩ := hX.c3
    go_wp2
    go_ret
    exact ⟨by rw [E.out]; first | rfl | (simp <;> omega), hB⟩

set_option maxHeartbeats 1000000 in
theorem rcopy_any (A : Option Addr) (n m : Nat) (o l : Int) (w : World) : Calls Try.prog 25 #[tv A n m o l] w (BPost (.bool (tcpy n o l)) w) := by
  unfold BPost
  by_cases h0 : n = 0
  · subst h0
    by_cases h1 : 1 ≤ o
    · by_cases h2 : o ≤ 65536
      · by_cases h3 : 4 ≤ l
        · by_cases h4 : l ≤ 1048576
          · have E : Hid (tcpy 0 o l = true) := Lib.hid (by unfold tcpy; rw [decide_eq_true_eq]; omega)
            obtain ⟨hX, hB⟩ := tbox w (.slice A 0 m) (.int .i64 o) (.int .i64 l) 33
            go_enter Try.func25, Try.ntmps25
            obtain ⟨x0, x1, x2⟩ := hX.c3
            go_wp2
            go_ret
            exact ⟨by rw [E.out]; first | rfl | (simp <;> omega), hB⟩
          · have E : Hid (tcpy 0 o l = false) := Lib.hid (by unfold tcpy; rw [decide_eq_false_iff_not]; omega)
            obtain ⟨hX, hB⟩ := tbox w (.slice A 0 m) (.int .i64 o) (.int .i64 l) 33
            go_enter Try.func25, Try.ntmps25
            obtain ⟨x0, x1, x2⟩ := hX.c3
            go_wp2
            go_ret
            exact ⟨by rw [E.out]; first | rfl | (simp <;> omega), hB⟩
        · have E : Hid (tcpy 0 o l = false) := Lib.hid (by unfold tcpy; rw [decide_eq_false_iff_not]; omega)
          obtain ⟨hX, hB⟩ := tbox w (.slice A 0 m) (.int .i64 o) (.int .i64 l) 33
          go_enter Try.func25, Try.ntmps25
          obtain ⟨x0, x1, x2⟩ := hX.c3
          go_wp2
          go_ret
          exact ⟨by rw [E.out]; first | rfl | (simp <;> omega), hB⟩
      · have E : Hid (tcpy 0 o l = false) := Lib.hid (by unfold tcpy; rw [decide_eq_false_iff_not]; omega)
        obtain ⟨hX, hB⟩ := tbox w (.slice A 0 m) (.int .i64 o) (.int .i64 l) 33
        go_enter Try.func25, Try.ntmps25
        obtain ⟨x0, x1, x2⟩ := hX.c3
        go_wp2
        go_ret
        exact ⟨by rw [E.out]; first | rfl | (simp <;> omega), hB⟩
    · have E : Hid (tcpy 0 o l = false) := Lib.hid (by unfold tcpy; rw [decide_eq_false_iff_not]; omega)
      obtain ⟨hX, hB⟩ := tbox w (.slice A 0 m) (.int .i64 o) (.int .i64 l) 33
      go_enter Try.func25, Try.ntmps25
      obtain ⟨x0, x1, x2⟩ := hX.c3
      go_wp2
      go_ret
      exact ⟨by rw [E.out]; first | rfl | (simp <;> omega), hB⟩
  · have E : Hid (tcpy n o l = false) := Lib.hid (by unfold tcpy; rw [decide_eq_false_iff_not]; omega)
    have hb : ((n : Int) == 0) = false := by simpa using h0
    clear h0
    obtain ⟨hX, hB⟩ := tbox w (.slice A n m) (.int .i64 o) (.int .i64 l) 33
    go_enter Try.func25, Try.ntmps25
    obtain ⟨x0, x1, x2⟩ := hX.c3
    go_wp2
    go_ret
    exact ⟨by rw [E.out]; first | rfl | (simp <;> omega), hB⟩

set_option maxHeartbeats 1000000 in
theorem rtright_any (A : Option Addr) (n m : Nat) (o l : Int) (w : World) : Calls Try.prog 31 #[tv A n m o l] w (BPost (.bool (trun n o l || tcpy n o l)) w) := by
  unfold BPost
  have H1 := rrun_any A n m o l
  have H2 := rcopy_any A n m o l
  cases hr : trun n o l
  · rw [hr] at H1
    generalize tcpy n o l = c at *
    obtain ⟨hX, hB⟩ := tbox w (.slice A n m) (.int .i64 o) (.int .i64 l) 33
    go_enter Try.func31, Try.ntmps31
    obtain ⟨x0, x1, x2⟩ := hX.c3
    go_wp2_with fail
    refine (H1 _).mono ?_
    rintro e w1 ⟨rfl, hb1⟩
    replace hX := hX.below hb1
    replace hB := hB.trans (hb1.mono hB.size)
    clear hb1 x0 x1 x2
    obtain ⟨x0, x1, x2⟩ := hX.c3
    go_wp2_with fail
    refine (H2 _).mono ?_
    rintro e w2 ⟨rfl, hb2⟩
    go_wp2
    go_ret
    exact ⟨by simp, hB.trans (hb2.mono hB.size)⟩
  · rw [hr] at H1
    obtain ⟨hX, hB⟩ := tbox w (.slice A n m) (.int .i64 o) (.int .i64 l) 33
    go_enter Try.func31, Try.ntmps31
    obtain ⟨x0, x1, x2⟩ := hX.c3
    go_wp2_with fail
    refine (H1 _).mono ?_
    rintro e w1 ⟨rfl, hb1⟩
    go_wp2
    go_ret
    exact ⟨by simp, hB.trans (hb1.mono hB.size)⟩

set_option maxHeartbeats 1000000 in
theorem rtlen_any (A : Option Addr) (n m : Nat) (o l : Int) (w : World) : Calls Try.prog 49 #[tv A n m o l] w (BPost (.int .i64 (tsz n o l)) w) := by
  unfold BPost
  have H1 := rrun_any A n m o l
  have H2 := rcopy_any A n m o l
  cases hr : trun n o l
  · rw [hr] at H1
    cases hc : tcpy n o l
    · rw [hc] at H2
      have E := Lib.hid (tsz_no hr hc)
      clear hr hc
      obtain ⟨hX, hB⟩ := tbox w (.slice A n m) (.int .i64 o) (.int .i64 l) 33
      go_enter Try.func49, Try.ntmps49
      obtain ⟨x0, x1, x2⟩ := hX.c3
      go_wp2_with fail
      refine (H1 _).mono ?_
      rintro e w1 ⟨rfl, hb1⟩
      replace hX := hX.below hb1
      replace hB := hB.trans (hb1.mono hB.size)
      clear hb1 x0 x1 x2
      obtain ⟨x0, x1, x2⟩ := hX.c3
      go_wp2_with fail
      refine (H2 _).mono ?_
      rintro e w2 ⟨rfl, hb2⟩
      go_wp2
      go_ret
      exact ⟨by rw [E.out]; rfl, hB.trans (hb2.mono hB.size)⟩
    · rw [hc] at H2
      have E := Lib.hid (tsz_cpy hc)
      clear hr hc
      obtain ⟨hX, hB⟩ := tbox w (.slice A n m) (.int .i64 o) (.int .i64 l) 33
      go_enter Try.func49, Try.ntmps49
      obtain ⟨x0, x1, x2⟩ := hX.c3
      go_wp2_with fail
      refine (H1 _).mono ?_
      rintro e w1 ⟨rfl, hb1⟩
      replace hX := hX.below hb1
      replace hB := hB.trans (hb1.mono hB.size)
      clear hb1 x0 x1 x2
      obtain ⟨x0, x1, x2⟩ := hX.c3
      go_wp2_with fail
      refine (H2 _).mono ?_
      rintro e w2 ⟨rfl, hb2⟩
      replace hX := hX.below hb2
      replace hB := hB.trans (hb2.mono hB.size)
      clear hb2 x0 x1 x2
      obtain ⟨x0, x1, x2⟩ := hX.c3
      go_wp2
      go_ret
      exact ⟨by rw [E.out]; rfl, hB⟩
  · rw [hr] at H1
    have E := Lib.hid (tsz_run hr)
    clear hr
    obtain ⟨hX, hB⟩ := tbox w (.slice A n m) (.int .i64 o) (.int .i64 l) 33
    go_enter Try.func49, Try.ntmps49
    obtain ⟨x0, x1, x2⟩ := hX.c3
    go_wp2_with fail
    refine (H1 _).mono ?_
    rintro e w1 ⟨rfl, hb1⟩
    replace hX := hX.below hb1
    replace hB := hB.trans (hb1.mono hB.size)
    clear hb1 x0 x1 x2
    obtain ⟨x0, x1, x2⟩ := hX.c3
    go_wp2
    go_ret
    exact ⟨by rw [E.out]; rfl, hB⟩

set_option maxHeartbeats 2000000 in
theorem tlen_any (A : Option Addr) (n m : Nat) (o l : Int) (w : World) : Calls Try.prog 84 #[tv A n m o l] w (BPost (.int .i64 (tsz n o l)) w) := by
  unfold BPost
  by_cases h0 : o = 0
  · subst h0
    by_cases h1 : l = 0
    · subst h1
      have hc : tcpy n 0 0 = false := by unfold tcpy; rw [decide_eq_false_iff_not]; omega
      by_cases h2 : 1 ≤ n
      · by_cases h3 : n ≤ 1048576
        · have E : Hid (tsz n 0 0 = n) := Lib.hid (tsz_run (by unfold trun; rw [decide_eq_true_eq]; omega))
          clear hc
          obtain ⟨hX, hB⟩ := tbox w (.slice A n m) (.int .i64 0) (.int .i64 0) 33
          go_enter Try.func84, Try.ntmps84
          obtain ⟨x0, x1, x2⟩ := hX.c3
          go_wp2_with fail
          refine (limits_any _ _).mono ?_
          rintro e w1 ⟨rfl, rfl⟩
          go_wp2
          go_ret
          exact ⟨by rw [E.out]; rfl, hB⟩
        · have E : Hid (tsz n 0 0 = 0) := Lib.hid (tsz_no (by unfold trun; rw [decide_eq_false_iff_not]; omega) hc)
          clear hc
          obtain ⟨hX, hB⟩ := tbox w (.slice A n m) (.int .i64 0) (.int .i64 0) 33
          go_enter Try.func84, Try.ntmps84
          obtain ⟨x0, x1, x2⟩ := hX.c3
          go_wp2_with fail
          refine (limits_any _ _).mono ?_
          rintro e w1 ⟨rfl, rfl⟩
          go_wp2
          go_ret
          exact ⟨by rw [E.out]; rfl, hB⟩
      · have E : Hid (tsz n 0 0 = 0) := Lib.hid (tsz_no (by unfold trun; rw [decide_eq_false_iff_not]; omega) hc)
        obtain rfl : n = 0 := by omega
        clear hc
        obtain ⟨hX, hB⟩ := tbox w (.slice A 0 m) (.int .i64 0) (.int .i64 0) 33
        go_enter Try.func84, Try.ntmps84
        obtain ⟨x0, x1, x2⟩ := hX.c3
        go_wp2_with fail
        refine (limits_any _ _).mono ?_
        rintro e w1 ⟨rfl, rfl⟩
        go_wp2
        go_ret
        exact ⟨by rw [E.out]; rfl, hB⟩
    · have E : Hid (tsz n 0 l = 0) := Lib.hid (tsz_no (by unfold trun; rw [decide_eq_false_iff_not]; omega) (by unfold tcpy; rw [decide_eq_false_iff_not]; omega))
      have hb : (l == 0) = false := by simpa using h1
      clear h1
      obtain ⟨hX, hB⟩ := tbox w (.slice A n m) (.int .i64 0) (.int .i64 l) 33
      go_enter Try.func84, Try.ntmps84
      obtain ⟨x0, x1, x2⟩ := hX.c3
      go_wp2
      go_ret
      exact ⟨by rw [E.out]; rfl, hB⟩
  · have hb : (o == 0) = false := by simpa using h0
    have hr : trun n o l = false := by unfold trun; rw [decide_eq_false_iff_not]; omega
    by_cases h1 : 1 ≤ o
    · by_cases h2 : o ≤ 65536
      · by_cases h3 : n = 0
        · subst h3
          have hg : 0 < o := by omega
          by_cases h4 : 4 ≤ l
          · by_cases h5 : l ≤ 1048576
            · have E : Hid (tsz 0 o l = l) := Lib.hid (tsz_cpy (by unfold tcpy; rw [decide_eq_true_eq]; omega))
              clear hr h0
              obtain ⟨hX, hB⟩ := tbox w (.slice A 0 m) (.int .i64 o) (.int .i64 l) 33
              go_enter Try.func84, Try.ntmps84
              obtain ⟨x0, x1, x2⟩ := hX.c3
              go_wp2_with fail
              refine (limits_any _ _).mono ?_
              rintro e w1 ⟨rfl, rfl⟩
              go_wp2
              go_ret
              exact ⟨by rw [E.out]; rfl, hB⟩
            · have E : Hid (tsz 0 o l = 0) := Lib.hid (tsz_no hr (by unfold tcpy; rw [decide_eq_false_iff_not]; omega))
              clear hr h0
              obtain ⟨hX, hB⟩ := tbox w (.slice A 0 m) (.int .i64 o) (.int .i64 l) 33
              go_enter Try.func84, Try.ntmps84
              obtain ⟨x0, x1, x2⟩ := hX.c3
              go_wp2_with fail
              refine (limits_any _ _).mono ?_
              rintro e w1 ⟨rfl, rfl⟩
              go_wp2
              go_ret
              exact ⟨by rw [E.out]; rfl, hB⟩
          · have E : Hid (tsz 0 o l = 0) := Lib.hid (tsz_no hr (by unfold tcpy; rw [decide_eq_false_iff_not]; omega))
            clear hr h0
            obtain ⟨hX, hB⟩ := tbox w (.slice A 0 m) (.int .i64 o) (.int .i64 l) 33
            go_enter Try.func84, Try.ntmps84
            obtain ⟨x0, x1, x2⟩ := hX.c3
            go_wp2_with fail
            refine (limits_any _ _).mono ?_
            rintro e w1 ⟨rfl, rfl⟩
            go_wp2
            go_ret
            exact ⟨by rw [E.out]; rfl, hB⟩
        · have E : Hid (tsz n o l = 0) := Lib.hid (tsz_no hr (by unfold tcpy; rw [decide_eq_false_iff_not]; omega))
          have hb2 : ((n : Int) == 0) = false := by simpa using h3
          clear hr h0 h3
          obtain ⟨hX, hB⟩ := tbox w (.slice A n m) (.int .i64 o) (.int .i64 l) 33
          go_enter Try.func84, Try.ntmps84
          obtain ⟨x0, x1, x2⟩ := hX.c3
          go_wp2
          go_ret
          exact ⟨by rw [E.out]; rfl, hB⟩
      · have E : Hid (tsz n o l = 0) := Lib.hid (tsz_no hr (by unfold tcpy; rw [decide_eq_false_iff_not]; omega))
        clear hr h0
        obtain ⟨hX, hB⟩ := tbox w (.slice A n m) (.int .i64 o) (.int .i64 l) 33
        go_enter Try.func84, Try.ntmps84
        obtain ⟨x0, x1, x2⟩ := hX.c3
        go_wp2
        go_ret
        exact ⟨by rw [E.out]; rfl, hB⟩
    · have E : Hid (tsz n o l = 0) := Lib.hid (tsz_no hr (by unfold tcpy; rw [decide_eq_false_iff_not]; omega))
      clear hr h0
      obtain ⟨hX, hB⟩ := tbox w (.slice A n m) (.int .i64 o) (.int .i64 l) 33
      go_enter Try.func84, Try.ntmps84
      obtain ⟨x0, x1, x2⟩ := hX.c3
      go_wp2
      go_ret
      exact ⟨by rw [E.out]; rfl, hB⟩

set_option maxHeartbeats 1000000 in
theorem tright_any (A : Option Addr) (n m : Nat) (o l : Int) (w : World) : Calls Try.prog 113 #[tv A n m o l] w (BPost (.bool (trun n o l || tcpy n o l)) w) := by
  unfold BPost
  have E := Lib.hid (tsz_right n o l)
  obtain ⟨hX, hB⟩ := tbox w (.slice A n m) (.int .i64 o) (.int .i64 l) 33
  go_enter Try.func113, Try.ntmps113
  obtain ⟨x0, x1, x2⟩ := hX.c3
  go_wp2_with fail
  refine (tlen_any _ _ _ _ _ _).mono ?_
  rintro e w1 ⟨rfl, hb1⟩
  go_wp2
  go_ret
  exact ⟨by rw [← E.out]; rfl, hB.trans (hb1.mono hB.size)⟩
end Go.Proofs.Ytmflnnfgkcmlhaa.Cur

namespace Go.Proofs.Ytmflnnfgkcmlhaa.Cur
open Go.RowKit Mem Go.ChangeShapes Go.WideShapes
set_option linter.unusedVariables false
set_option maxRecDepth 100000

/-- A token: bytes of a run, offset and length of a copy. -/
abbrev Tk := List Int × Int × Int
def tk0 : Tk := ([], 0, 0)
/-- In block b, from place q on, lies this token, its bytes at Ar. -/
def TkC (w : World) (b q : Nat) (Ar : Option Addr) (Lr Cr : Nat) (t : Tk) : Prop :=
  w.cell? ⟨b, q, none⟩ = some (.slice Ar Lr Cr) ∧ w.cell? ⟨b, q + 1, none⟩ = some (.int .i64 t.2.1) ∧ w.cell? ⟨b, q + 2, none⟩ = some (.int .i64 t.2.2) ∧ Bs w Ar Lr t.1
theorem TkC.below {w w' : World} {b q : Nat} {Ar : Option Addr} {Lr Cr : Nat} {t : Tk} {B : Nat} (h : TkC w b q Ar Lr Cr t) (hb : Below B w w') (hB : w.heap.size ≤ B) : TkC w' b q Ar Lr Cr t := by
  obtain ⟨h0, h1, h2, h3⟩ := h
  have hb := hb.mono hB
  exact ⟨(hb.cell (lt_of_cell h0)).trans h0, (hb.cell (lt_of_cell h1)).trans h1, (hb.cell (lt_of_cell h2)).trans h2, h3.below hb⟩
def TkAt (w : World) (A : Option Addr) (i : Nat) (t : Tk) : Prop :=
  ∃ b o Ar Lr Cr, A = some ⟨b, o, none⟩ ∧ TkC w b (o + i * 3) Ar Lr Cr t ∧ (Ar = none → Cr = 0) ∧ Lr ≤ Cr
def TksL (w : World) (A : Option Addr) (n : Nat) (T : List Tk) : Prop := T.length = n ∧ ∀ i, i < n → TkAt w A i (T.getD i tk0)
theorem TkAt.below {w w' : World} {A : Option Addr} {i : Nat} {t : Tk} (h : TkAt w A i t) (hb : Below w.heap.size w w') : TkAt w' A i t := by
  obtain ⟨b, o, Ar, Lr, Cr, e, h0, r⟩ := h
  exact ⟨b, o, Ar, Lr, Cr, e, h0.below hb (Nat.le_refl _), r⟩
theorem TksL.below {w w' : World} {A : Option Addr} {n : Nat} {T : List Tk} (h : TksL w A n T) (hb : Below w.heap.size w w') : TksL w' A n T := ⟨h.1, fun i hi => (h.2 i hi).below hb⟩
/-- What may be in a token: bytes, and numbers of 64 digits. -/
def tkok (t : Tk) : Prop := (∀ x ∈ t.1, 0 ≤ x ∧ x < 256) ∧ (-9223372036854775808 ≤ t.2.1 ∧ t.2.1 ≤ 9223372036854775807) ∧ (-9223372036854775808 ≤ t.2.2 ∧ t.2.2 ≤ 9223372036854775807)
theorem tkok0 : tkok tk0 := ⟨fun x h => absurd h (by simp [tk0]), by simp [tk0], by simp [tk0]⟩
theorem tkok_getD {T : List Tk} (h : ∀ t ∈ T, tkok t) (i : Nat) : tkok (T.getD i tk0) := by
  by_cases hi : i < T.length
  · rw [List.getD_eq_getElem?_getD, List.getElem?_eq_getElem hi]; exact h _ (List.getElem_mem hi)
  · rw [List.getD_eq_getElem?_getD, List.getElem?_eq_none (by omega)]; exact tkok0
theorem addr_flat3 {b o i j : Nat} : ((⟨b, o, none⟩ : Addr).add (i * 3)).add j = ⟨b, o + i * 3 + j, none⟩ := by
  rw [addr_add_add]
  unfold Addr.add
  split
  · rename_i h
    have h1 : o + i * 3 + j = o := by omega
    rw [h1]
  · simp [Nat.add_assoc]

section
variable {H : Type} {enc : TypeId × Value → H} {w : World} {base : Nat} {v : Value} {d : DataW H} {p : List MemPlace}
theorem open_tokens (g : Value.okWide Try.prog w .any base 24 v) (h : DataW.Trod enc Try.prog w 0 (fun _ => true) true 24 v d p) :
    ∃ A n m T, v = .slice A n m ∧ n ≤ m ∧ TksL w A n T ∧ (∀ t ∈ T, tkok t) ∧ (A = none → m = 0) := by
  obtain ⟨A, n, m, rfl⟩ := okWide_slice Try.underlying24 g
  obtain ⟨fuel, hf⟩ := h
  have c3 : Try.prog.cellsOf 33 = 3 := by kernel_rfl
  have k3 : Try.prog.cellsOf 3 = 1 := by kernel_rfl
  have kb : Try.prog.cellsOf 22 = 1 := by kernel_rfl
  rcases Go.Deep.open_slice Try.underlying24 hf with ⟨hcs, _⟩ | ⟨a, l, c, k, _, D, Pl, hcs, _, hl, _, hk, _, hi⟩
  · simp [Value.cells] at hcs
    obtain ⟨rfl, rfl, rfl⟩ := hcs
    exact ⟨none, 0, 0, [], rfl, Nat.le_refl _, ⟨rfl, fun i hi => absurd hi (by omega)⟩, fun t ht => by simp at ht, fun _ => rfl⟩
  · simp [Value.cells] at hcs
    obtain ⟨rfl, rfl, rfl⟩ := hcs
    have hkn : n ≤ k := by rw [hk]; split <;> omega
    have each : ∀ i, i < n → ∃ t : Tk, TkAt w (some a) i t ∧ tkok t := fun i hin => by
      obtain ⟨cs', hc, ht⟩ := hi i (by omega)
      rw [c3] at hc
      obtain ⟨_, hlen, hcell⟩ := World.cells?_some hc
      match cs', hlen with
      | [x0, x1, x2], _ =>
        obtain ⟨y0, y1, y2, _, _, _, t0, t1, t2⟩ := Go.Deep.trod_struct3 Try.underlying33 ht
        simp only [k3, kb, List.drop_zero, List.take_succ_cons, List.take_zero, List.drop_succ_cons] at t0 t1 t2
        obtain ⟨Ab, Lb, Cb, z, e0, hle, hbs, hby, hn⟩ := read_bytes t0
        obtain ⟨x, e1, _, r1⟩ := DataW.trod_int Try.underlying3 t1
        obtain ⟨y, e2, _, r2⟩ := DataW.trod_int Try.underlying3 t2
        simp only [List.cons.injEq, and_true] at e0 e1 e2
        subst e0 e1 e2
        have h0 := hcell 0 (by omega)
        have h1 := hcell 1 (by omega)
        have h2 := hcell 2 (by omega)
        obtain ⟨b, off, spot⟩ := a
        have hspot : spot = none := by
          obtain ⟨ds, hd, ht'⟩ := hi 0 (by omega)
          rw [c3] at hd
          obtain ⟨_, hdl, hdc⟩ := World.cells?_some hd
          have g0 := hdc 0 (by omega)
          rw [List.getElem?_eq_getElem (by omega)] at g0
          simpa [Addr.add] using World.cell?_spot g0
        subst hspot
        rw [addr_flat3] at h0 h1 h2
        exact ⟨(z, x, y), ⟨b, off, Ab, Lb, Cb, rfl, ⟨h0, h1, h2, hbs⟩, hn, hle⟩, hby, bounds_i64 r1, bounds_i64 r2⟩
    have h3 : ∀ k, k ≤ n → ∃ T : List Tk, T.length = k ∧ (∀ i, i < k → TkAt w (some a) i (T.getD i tk0)) ∧ ∀ t ∈ T, tkok t := by
      intro k
      induction k with
      | zero => exact fun _ => ⟨[], rfl, fun i hi => absurd hi (by omega), fun t ht => by simp at ht⟩
      | succ k ih =>
        intro hk
        obtain ⟨R, hl, hR, hok⟩ := ih (by omega)
        obtain ⟨z, hz, hzk⟩ := each k (by omega)
        refine ⟨R ++ [z], by simp [hl], fun i hi => ?_, fun t ht => ?_⟩
        · by_cases e : i = k
          · subst e
            have : (R ++ [z]).getD i tk0 = z := by rw [List.getD_eq_getElem?_getD, ← hl, List.getElem?_append_right (Nat.le_refl _)]; simp
            rw [this]; exact hz
          · have : (R ++ [z]).getD i tk0 = R.getD i tk0 := by rw [List.getD_eq_getElem?_getD, List.getElem?_append_left (by omega), ← List.getD_eq_getElem?_getD]
            rw [this]; exact hR i (by omega)
        · rcases List.mem_append.1 ht with ht | ht
          · exact hok t ht
          · simp at ht; subst ht; exact hzk
    obtain ⟨T, hT, hTa, hTk⟩ := h3 n (Nat.le_refl _)
    exact ⟨some a, n, m, T, rfl, hl, ⟨hT, hTa⟩, hTk, fun e => by cases e⟩
end

/-- The bytes of a token. -/
def tby (t : Tk) : List Int := if trun t.1.length t.2.1 t.2.2 then vz (2 * (t.1.length : Int) - 2) ++ t.1 else vz (2 * t.2.2 - 7) ++ vz (t.2.1 - 1)
def tright (t : Tk) : Bool := trun t.1.length t.2.1 t.2.2 || tcpy t.1.length t.2.1 t.2.2
def tln (t : Tk) : Int := tsz t.1.length t.2.1 t.2.2
/-- The bytes of the first k. -/
def tbs (T : List Tk) (k : Nat) : List Int := flat (T.map tby) k
theorem getD_map_tby {T : List Tk} {k : Nat} (h : k < T.length) : (T.map tby).getD k [] = tby (T.getD k tk0) := by
  simp [List.getD_eq_getElem?_getD, List.getElem?_eq_getElem h]
theorem tbs_succ {T : List Tk} {k : Nat} (h : k < T.length) : tbs T (k + 1) = tbs T k ++ tby (T.getD k tk0) := by
  unfold tbs
  rw [flat_succ (by simpa using h), getD_map_tby h]
theorem tbs_zero (T : List Tk) : tbs T 0 = [] := by simp [tbs, flat]
theorem tby_le {t : Tk} : (tby t).length ≤ t.1.length + 20 := by
  unfold tby
  have h1 := vsz_le (2 * (t.1.length : Int) - 2)
  have h2 := vsz_le (2 * t.2.2 - 7)
  have h3 := vsz_le (t.2.1 - 1)
  split <;> simp only [List.length_append, vz_length] <;> omega
theorem tbs_mono {T : List Tk} : ∀ {k j : Nat}, k ≤ j → j ≤ T.length → (tbs T k).length ≤ (tbs T j).length := by
  intro k j hkj
  induction j with
  | zero =>
    intro _
    obtain rfl : k = 0 := by omega
    exact Nat.le_refl _
  | succ j ih =>
    intro hj
    rcases Nat.lt_or_ge k (j + 1) with h | h
    · rw [tbs_succ (by omega), List.length_append]; have := ih (by omega) (by omega); omega
    · obtain rfl : k = j + 1 := by omega
      exact Nat.le_refl _
/-- How many bytes the first k make. -/
def ttot (T : List Tk) : Nat → Int
  | 0 => 0
  | k + 1 => ttot T k + tln (T.getD k tk0)
theorem ttot_bd (T : List Tk) (k : Nat) : 0 ≤ ttot T k ∧ ttot T k ≤ 1048576 * k := by
  induction k with
  | zero => exact ⟨Int.le_refl _, by show (0 : Int) ≤ _; omega⟩
  | succ k ih =>
    have := tsz_bd (T.getD k tk0).1.length (T.getD k tk0).2.1 (T.getD k tk0).2.2
    unfold ttot tln
    omega
/-- Are the first k all tokens? -/
def tall (T : List Tk) : Nat → Bool
  | 0 => true
  | k + 1 => tall T k && tright (T.getD k tk0)

/-- Too long to be gone through. -/
def tlong (T : List Tk) : Bool := decide (100 < T.length) || (T.take 100).any fun t => decide (300 < t.1.length)
theorem tlong_no {T : List Tk} (h : tlong T = false) : T.length ≤ 100 ∧ ∀ i, (T.getD i tk0).1.length ≤ 300 := by
  unfold tlong at h
  rw [Bool.or_eq_false_iff] at h
  have h1 : T.length ≤ 100 := by simpa using h.1
  refine ⟨h1, fun i => ?_⟩
  rw [List.take_of_length_le h1] at h
  by_cases hi : i < T.length
  · have := List.any_eq_false.1 h.2 (T.getD i tk0) (by rw [List.getD_eq_getElem?_getD, List.getElem?_eq_getElem hi]; exact List.getElem_mem hi)
    simpa using this
  · rw [List.getD_eq_getElem?_getD, List.getElem?_eq_none (by omega)]; simp [tk0]
theorem tlong_at {T : List Tk} {k : Nat} (h : k < T.length) (hk : k < 100) (hl : 300 < (T.getD k tk0).1.length) : tlong T = true := by
  unfold tlong
  rw [Bool.or_eq_true]
  refine .inr (List.any_eq_true.2 ⟨T.getD k tk0, ?_, by simpa using hl⟩)
  rw [List.getD_eq_getElem?_getD, List.getElem?_eq_getElem h]
  exact List.mem_take_iff_getElem.2 ⟨k, by omega, rfl⟩
theorem tlong_end {T : List Tk} (h : ∀ i, i < T.length → i < 100 → (T.getD i tk0).1.length ≤ 300) : tlong T = decide (100 < T.length) := by
  unfold tlong
  have : ((T.take 100).any fun t => decide (300 < t.1.length)) = false := by
    rw [List.any_eq_false]
    intro t ht
    obtain ⟨i, hi, rfl⟩ := List.mem_take_iff_getElem.1 ht
    have := h i (by omega) (by omega)
    rw [List.getD_eq_getElem?_getD, List.getElem?_eq_getElem (by omega)] at this
    simpa using this
  rw [this, Bool.or_false]
theorem tbs_le {T : List Tk} (h : ∀ i, (T.getD i tk0).1.length ≤ 300) : ∀ k, k ≤ T.length → (tbs T k).length ≤ 320 * k := by
  intro k
  induction k with
  | zero => intro _; rw [tbs_zero]; exact Nat.le_refl _
  | succ k ih =>
    intro hk
    rw [tbs_succ (by omega), List.length_append]
    have := ih (by omega)
    have := tby_le (t := T.getD k tk0)
    have := h k
    omega
end Go.Proofs.Ytmflnnfgkcmlhaa.Cur

namespace Go.Proofs.Ytmflnnfgkcmlhaa.Cur
open Go.RowKit Mem
set_option linter.unusedVariables false

set_option maxHeartbeats 1000000 in
theorem tlong_any (A : Option Addr) (n m : Nat) (T : List Tk) (w : World) (h : TksL w A n T) :
    Calls Try.prog 21 #[.slice A n m] w fun e w' => e = .returned (.bool (tlong T)) ∧ w = w' := by
  have HT := Lib.hid h
  clear h
  go_enter Try.func21, Try.ntmps21
  go_wp2
  go_loopw [3] (fun i wr => ∃ k : Nat, k ≤ n ∧ k ≤ 100 ∧ i = .int .i64 k ∧ w = wr ∧ Hid (∀ j, j < k → (T.getD j tk0).1.length ≤ 300)) (fun i _ => n - (intOf i).toNat)
  case atStart => exact ⟨0, by omega, by omega, rfl, rfl, Lib.hid fun j hj => absurd hj (by omega)⟩
  case round =>
    obtain ⟨k, hk, hk1, rfl, rfl, HL⟩ := hrel
    by_cases hlt : k < n
    · by_cases h1 : k < 100
      · obtain ⟨b, o, Ar, Lr, Cr, rfl, ⟨c0, c1, c2, hbs⟩, hnil, hle⟩ := HT.out.2 k hlt
        by_cases h3 : 300 < Lr
        · have E : Hid (tlong T = true) := Lib.hid (tlong_at (by rw [HT.out.1]; exact hlt) h1 (by rw [hbs.1]; exact h3))
          clear c1 c2 hbs
          go_wp2
          go_ret
          exact ⟨by rw [E.out]; rfl, rfl⟩
        · have HN : Hid (∀ j, j < k + 1 → (T.getD j tk0).1.length ≤ 300) := Lib.hid (fun j hj => by
            rcases Nat.lt_succ_iff_lt_or_eq.1 hj with h | rfl
            · exact HL.out j h
            · rw [hbs.1]; omega)
          clear c1 c2 hbs
          go_wp2
          go_roundw
          case rel => exact ⟨k + 1, hlt, by omega, by go_num, by trivial, HN⟩
          case measure => simp [intOf]; omega
      · have E : Hid (tlong T = decide (100 < n)) := Lib.hid (by rw [tlong_end (fun i hi h => HL.out i (by omega)), HT.out.1])
        go_wp2
        go_ret
        exact ⟨by rw [E.out]; simp <;> omega, rfl⟩
    · obtain rfl : k = n := by omega
      have E : Hid (tlong T = decide (100 < k)) := Lib.hid (by rw [tlong_end (fun i hi h => HL.out i (by rw [HT.out.1] at hi; exact hi)), HT.out.1])
      go_wp2
      go_ret
      exact ⟨by rw [E.out]; simp <;> omega, rfl⟩

set_option maxRecDepth 100000 in
set_option maxHeartbeats 2000000 in
theorem rtbytes_any (A : Option Addr) (n m : Nat) (T : List Tk) (w : World) (h : TksL w A n T) (hr : ∀ i, i < n → tright (T.getD i tk0) = true) (hn : n ≤ 10000) (hsz : (tbs T n).length ≤ 700000) :
    Calls Try.prog 16 #[.slice A n m] w (RowPost (tbs T n) w) := by
  have HT := Lib.hid h
  have HR := Lib.hid hr
  have HSZ := Lib.hid hsz
  clear h hr hsz
  go_enter Try.func16, Try.ntmps16
  go_wp2
  go_loopw [3, 4] (fun v i wr => ∃ k : Nat, k ≤ n ∧ i = .int .i64 k ∧ Own wr w.heap.size v (tbs T k) ∧ Below w.heap.size w wr) (fun _ i _ => n - (intOf i).toNat)
  case atStart => exact ⟨0, by omega, rfl, by rw [tbs_zero]; exact Own.nil _ _, Below.refl _ _⟩
  case round =>
    obtain ⟨k, hk, rfl, ho, hb⟩ := hrel
    by_cases hlt : k < n
    · obtain ⟨b, o, Ar, Lr, Cr, rfl, hF, hnil, hle⟩ := HT.out.2 k hlt
      have hl1 := tbs_mono (T := T) (k := k) (j := k + 1) (by omega) (by rw [HT.out.1]; exact hlt)
      have hl2 := tbs_mono (T := T) (k := k + 1) (j := n) (by omega) (by rw [HT.out.1]; exact Nat.le_refl _)
      have HLN : Hid ((tbs T (k + 1)).length ≤ 700000) := Lib.hid (Nat.le_trans hl2 HSZ.out)
      have HS := Lib.hid (tbs_succ (T := T) (k := k) (by rw [HT.out.1]; exact hlt))
      have hrt := HR.out k hlt
      have hzl := hF.2.2.2.1
      have HF := Lib.hid hF
      have ho' := ho
      obtain ⟨A0, m0, rfl⟩ := ho'.slice
      clear hl1 hl2 hF ho'
      cases hrn : trun (T.getD k tk0).1.length (T.getD k tk0).2.1 (T.getD k tk0).2.2
      · -- a copy
        have hcp : tcpy (T.getD k tk0).1.length (T.getD k tk0).2.1 (T.getD k tk0).2.2 = true := by
          unfold tright at hrt; rw [hrn, Bool.false_or] at hrt; exact hrt
        have HE : Hid (tby (T.getD k tk0) = vz (2 * (T.getD k tk0).2.2 - 7) ++ vz ((T.getD k tk0).2.1 - 1)) := Lib.hid (by unfold tby; rw [hrn]; rfl)
        have H1 := rrun_any Ar Lr Cr (T.getD k tk0).2.1 (T.getD k tk0).2.2
        have hlen : (tbs T (k + 1)).length = (tbs T k).length + (vz (2 * (T.getD k tk0).2.2 - 7)).length + (vz ((T.getD k tk0).2.1 - 1)).length := by rw [HS.out, HE.out]; simp; omega
        have HL3 : Hid ((tbs T k).length + (vz (2 * (T.getD k tk0).2.2 - 7)).length + (vz ((T.getD k tk0).2.1 - 1)).length ≤ 700000) := Lib.hid (by rw [← hlen]; exact HLN.out)
        have hq : 1 ≤ (T.getD k tk0).2.1 ∧ (T.getD k tk0).2.1 ≤ 65536 ∧ 4 ≤ (T.getD k tk0).2.2 ∧ (T.getD k tk0).2.2 ≤ 1048576 := by unfold tcpy at hcp; rw [decide_eq_true_eq] at hcp; omega
        rw [← hzl, hrn] at H1
        clear hcp hrn hrt hlen
        rw [hzl] at H1
        generalize T.getD k tk0 = t at *
        obtain ⟨lit, o', l'⟩ := t
        simp only at *
        obtain ⟨q1, q2, q3, q4⟩ := hq
        have e1 : IntKind.i64.wrap (2 * l') = 2 * l' := IntWalk.i64_in _ (by omega)
        have e2 : IntKind.i64.wrap (2 * l' - 7) = 2 * l' - 7 := IntWalk.i64_in _ (by omega)
        have e3 : IntKind.u64.wrap (2 * l' - 7) = 2 * l' - 7 := IntWalk.u64_in _ (by omega)
        have e4 : IntKind.i64.wrap (o' - 1) = o' - 1 := IntWalk.i64_in _ (by omega)
        have e5 : IntKind.u64.wrap (o' - 1) = o' - 1 := IntWalk.u64_in _ (by omega)
        obtain ⟨c0, c1, c2, _⟩ := HF.out.below hb (Nat.le_refl _)
        go_wp2_with fail
        refine (H1 _).mono ?_
        rintro e w1 ⟨rfl, hb1⟩
        have ho1 := ho.below hb1
        have hbd1 := hb.trans (hb1.mono hb.size)
        clear c0 c1 c2 ho hb hb1 H1
        obtain ⟨c0, c1, c2, _⟩ := HF.out.below hbd1 (Nat.le_refl _)
        go_wp2_with fail
        refine (rbytes_any 10 (2 * l' - 7) _ (vsz_le _) (by omega) (by omega)).mono ?_
        rintro e w2 ⟨A2, m2, rfl, hb2, hbs2, hnil2, _⟩
        have ho2 := ho1.below hb2
        have hbd2 := hbd1.trans (hb2.mono hbd1.size)
        have hB2 := hbd2.size
        clear ho1 hbd1 hb2 c0 c1 c2
        go_wp2_with (at_builtin; go_must (refine list_append_gr rfl (.tmp 35) (.tmp 44) rfl w.heap.size _ _ rfl ho2 _ _ _ _ rfl hbs2 hnil2 (by have := HL3.out; omega) hB2 ?_; intro v3 w3 ho3 hg3 hgr3; have hbd3 := Own.belowOf hbd2 hB2 ho2 hg3; obtain ⟨A3, m3, hv3⟩ := ho3.slice; rw [List.length_append] at hv3; subst hv3; obtain ⟨c0, c1, c2, _⟩ := HF.out.below hbd3 (Nat.le_refl _); clear hg3 hgr3 hbs2 hbd2 hB2 ho2))
        refine (rbytes_any 10 (o' - 1) _ (vsz_le _) (by omega) (by omega)).mono ?_
        rintro e w4 ⟨A4, m4, rfl, hb4, hbs4, hnil4, _⟩
        have ho4 := ho3.below hb4
        have hbd4 := hbd3.trans (hb4.mono hbd3.size)
        have hB4 := hbd4.size
        clear ho3 hbd3 hb4 c0 c1 c2
        go_wp2_with (at_builtin; go_must (refine list_append_gr rfl (.tmp 46) (.tmp 54) rfl w.heap.size _ _ rfl ho4 _ _ _ _ rfl hbs4 hnil4 (by have := HL3.out; rw [List.length_append]; omega) hB4 ?_; intro v5 w5 ho5 hg5 hgr5; have hbd5 := Own.belowOf hbd4 hB4 ho4 hg5; clear hg5 hgr5 hbs4 hbd4 hB4 ho4))
        go_roundw
        case rel => exact ⟨k + 1, hlt, by go_num, by rw [HS.out, HE.out, ← List.append_assoc]; exact ho5, hbd5⟩
        case measure => simp [intOf]; omega
      · -- a run
        have HE : Hid (tby (T.getD k tk0) = vz (2 * ((T.getD k tk0).1.length : Int) - 2) ++ (T.getD k tk0).1) := Lib.hid (by unfold tby; rw [hrn]; rfl)
        have H1 := rrun_any Ar Lr Cr (T.getD k tk0).2.1 (T.getD k tk0).2.2
        have hlen : (tbs T (k + 1)).length = (tbs T k).length + (vz (2 * ((T.getD k tk0).1.length : Int) - 2)).length + (T.getD k tk0).1.length := by rw [HS.out, HE.out]; simp; omega
        have HL3 : Hid ((tbs T k).length + (vz (2 * ((T.getD k tk0).1.length : Int) - 2)).length + (T.getD k tk0).1.length ≤ 700000) := Lib.hid (by rw [← hlen]; exact HLN.out)
        have hq : 1 ≤ Lr ∧ Lr ≤ 1048576 := by unfold trun at hrn; rw [decide_eq_true_eq] at hrn; omega
        rw [← hzl, hrn] at H1
        clear hrn hrt hlen
        rw [hzl] at H1
        rw [hzl] at HL3 HE
        generalize T.getD k tk0 = t at *
        obtain ⟨lit, o', l'⟩ := t
        simp only at *
        obtain ⟨q1, q2⟩ := hq
        have HZL := Lib.hid hzl
        clear hzl
        have e1 : IntKind.i64.wrap (2 * (Lr : Int)) = 2 * Lr := IntWalk.i64_in _ (by omega)
        have e2 : IntKind.i64.wrap (2 * (Lr : Int) - 2) = 2 * Lr - 2 := IntWalk.i64_in _ (by omega)
        have e3 : IntKind.u64.wrap (2 * (Lr : Int) - 2) = 2 * Lr - 2 := IntWalk.u64_in _ (by omega)
        obtain ⟨c0, c1, c2, _⟩ := HF.out.below hb (Nat.le_refl _)
        go_wp2_with fail
        refine (H1 _).mono ?_
        rintro e w1 ⟨rfl, hb1⟩
        have ho1 := ho.below hb1
        have hbd1 := hb.trans (hb1.mono hb.size)
        clear c0 c1 c2 ho hb hb1 H1
        obtain ⟨c0, c1, c2, _⟩ := HF.out.below hbd1 (Nat.le_refl _)
        go_wp2_with fail
        refine (rbytes_any 10 (2 * (Lr : Int) - 2) _ (vsz_le _) (by omega) (by omega)).mono ?_
        rintro e w2 ⟨A2, m2, rfl, hb2, hbs2, hnil2, _⟩
        have ho2 := ho1.below hb2
        have hbd2 := hbd1.trans (hb2.mono hbd1.size)
        have hB2 := hbd2.size
        clear ho1 hbd1 hb2 c0 c1 c2
        go_wp2_with (at_builtin; go_must (first | (refine list_append_gr rfl (.tmp 16) (.tmp 26) rfl w.heap.size _ _ rfl ho2 _ _ _ _ rfl hbs2 hnil2 (by have := HL3.out; omega) hB2 ?_; intro v3 w3 ho3 hg3 hgr3; have hbd3 := Own.belowOf hbd2 hB2 ho2 hg3; obtain ⟨A3, m3, hv3⟩ := ho3.slice; rw [List.length_append] at hv3; subst hv3; obtain ⟨c0, c1, c2, hlit⟩ := HF.out.below hbd3 (Nat.le_refl _); have hB3 := hbd3.size; clear hg3 hgr3 hbs2 hbd2 hB2 ho2) | (refine list_append_gr rfl (.tmp 28) (.tmp 33) rfl w.heap.size _ _ rfl ho3 _ _ _ _ rfl hlit hnil (by have := HL3.out; rw [List.length_append]; omega) hB3 ?_; intro v5 w5 ho5 hg5 hgr5; have hbd5 := Own.belowOf hbd3 hB3 ho3 hg5; clear hg5 hgr5 hlit hbd3 hB3 ho3)))
        go_roundw
        case rel => exact ⟨k + 1, hlt, by go_num, by rw [HS.out, HE.out, ← List.append_assoc]; exact ho5, hbd5⟩
        case measure => simp [intOf]; omega
    · obtain rfl : k = n := by omega
      obtain ⟨A3, c3, rfl⟩ := ho.slice
      go_wp2
      go_ret
      exact Own.rowPost (B := 0) ho hb
end Go.Proofs.Ytmflnnfgkcmlhaa.Cur

namespace Go.Proofs.Ytmflnnfgkcmlhaa.Cur
open Go.RowKit Mem
set_option linter.unusedVariables false

set_option maxHeartbeats 1000000 in
theorem thead_put {w : World} {B b : Nat} {r : Option Nat} {z : List Int} {M c : Int} (cp : Bool) (k : Int) (h : Wr w B b r z M c) (h0 : (if cp then 4 else 1) ≤ k) (h1 : k ≤ 1048576) (hsz : z.length ≤ 900000) (hBw : B ≤ w.heap.size) :
    Calls Try.prog 86 #[.pointer (some ⟨b, 0, none⟩), .bool cp, .int .i64 k] w (VPutPost B b r z M c (if cp then 2 * k - 7 else 2 * k - 2) w) := by
  cases cp
  · have h0' : 1 ≤ k := h0
    have e1 : IntKind.i64.wrap (k - 1) = k - 1 := IntWalk.i64_in _ (by omega)
    have e2 : IntKind.u64.wrap (k - 1) = k - 1 := IntWalk.u64_in _ (by omega)
    have e3 : IntKind.u64.wrap (2 * (k - 1)) = 2 * k - 2 := by rw [IntWalk.u64_in _ (by omega)]; omega
    go_enter Try.func86, Try.ntmps86
    go_wp2_with fail
    refine (limits_any _ _).mono ?_
    rintro e w1 ⟨rfl, rfl⟩
    rw [if_neg (by simp)]
    go_wp2_with fail
    refine (vput_any _ h (by omega) (by omega) hsz hBw).mono ?_
    rintro e w1 ⟨r1, rfl, hk1, hg1, hw1⟩
    go_wp2
    go_end0
    exact ⟨r1, rfl, hk1, hg1, hw1⟩
  · have h0' : 4 ≤ k := h0
    have e1 : IntKind.i64.wrap (k - 4) = k - 4 := IntWalk.i64_in _ (by omega)
    have e2 : IntKind.u64.wrap (k - 4) = k - 4 := IntWalk.u64_in _ (by omega)
    have e3 : IntKind.u64.wrap (2 * (k - 4)) = 2 * k - 8 := by rw [IntWalk.u64_in _ (by omega)]; omega
    have e4 : IntKind.u64.wrap (2 * k - 8 + 1) = 2 * k - 7 := by rw [IntWalk.u64_in _ (by omega)]; omega
    go_enter Try.func86, Try.ntmps86
    go_wp2_with fail
    refine (limits_any _ _).mono ?_
    rintro e w1 ⟨rfl, rfl⟩
    rw [if_pos rfl]
    go_wp2_with fail
    refine (vput_any _ h (by omega) (by omega) hsz hBw).mono ?_
    rintro e w1 ⟨r1, rfl, hk1, hg1, hw1⟩
    go_wp2
    go_end0
    exact ⟨r1, rfl, hk1, hg1, hw1⟩

/-- What a writer has behind a token, and its code. -/
def titems (t : Tk) : List (List Int) := if trun t.1.length t.2.1 t.2.2 then [vz (2 * (t.1.length : Int) - 2), t.1] else [vz (2 * t.2.2 - 7), vz (t.2.1 - 1)]
def tput (t : Tk) (z : List Int) (M c : Int) : List Int × Int := if tright t then puts (titems t) z M c else (z, if c = 0 then 3 else c)
theorem titems_flat (t : Tk) : (titems t).flatten = tby t := by unfold titems tby; split <;> simp
def WTokPost (B b : Nat) (r : Option Nat) (z : List Int) (t : Tk) (M c : Int) (w : World) (e : Ending) (w' : World) : Prop :=
  ∃ r', e = .returned (.tuple #[]) ∧ Ks (WS b r) w w' ∧ Gr r r' w ∧ Wr w' B b r' (tput t z M c).1 M (tput t z M c).2
theorem tput_le (t : Tk) (z : List Int) (M c : Int) : (tput t z M c).1.length ≤ z.length + (tby t).length := by
  unfold tput
  split
  · have := puts_le (titems t) z M c; rw [titems_flat] at this; exact this
  · show z.length ≤ _; omega

set_option maxHeartbeats 2000000 in
theorem tput_any {w : World} {B b : Nat} {r : Option Nat} {z : List Int} {M c : Int} (A : Option Addr) (n m : Nat) (t : Tk) (h : Wr w B b r z M c) (hy : Bs w A n t.1) (hA : A = none → m = 0) (hoff : 0 < n → ∀ a, A = some a → ¬ WS b r a.block)
    (hsz : z.length + n ≤ 800000) (hBw : B ≤ w.heap.size) :
    Calls Try.prog 59 #[.pointer (some ⟨b, 0, none⟩), tv A n m t.2.1 t.2.2] w (WTokPost B b r z t M c w) := by
  obtain ⟨y, o, l⟩ := t
  simp only at hy ⊢
  have hzl := hy.1
  have hlt : 0 < n → ∀ a, A = some a → a.block < w.heap.size := fun h0 => hy.lt h0
  obtain ⟨hX, hB⟩ := tbox w (.slice A n m) (.int .i64 o) (.int .i64 l) 33
  have hbl := hX.lt
  have HOFF := Lib.hid hoff
  have HLT := Lib.hid hlt
  clear hoff hlt
  cases hrn : trun n o l
  · cases hcp : tcpy n o l
    · -- none
      have E := tsz_no hrn hcp
      have HP : Hid (tput (y, o, l) z M c = (z, if c = 0 then 3 else c)) := Lib.hid (by unfold tput tright; simp only; rw [hzl, hrn, hcp]; rfl)
      have HT := tlen_any A n m o l
      rw [E] at HT
      clear E hrn hcp hzl
      have h1 := h.below hB
      go_enter Try.func59, Try.ntmps59
      obtain ⟨x0, x1, x2⟩ := hX.c3
      go_wp2_with fail
      refine (HT _).mono ?_
      rintro e w1 ⟨rfl, hb1⟩
      replace h1 := h1.below hb1
      replace hB := hB.trans (hb1.mono hB.size)
      clear hb1 x0 x1 x2 HT
      go_wp2_with fail
      refine (wfail_any _ h1).mono ?_
      rintro e w2 ⟨rfl, hk2, hw2⟩
      go_wp2
      go_end0
      exact ⟨r, rfl, (Ks.of_below hB).trans hk2, Gr.refl _ _, by rw [HP.out]; exact hw2⟩
    · -- a copy
      have E := tsz_cpy hcp
      have HP : Hid (tput (y, o, l) z M c = puts [vz (2 * l - 7), vz (o - 1)] z M c) := Lib.hid (by unfold tput tright titems; simp only; rw [hzl, hrn, hcp]; rfl)
      have HT := tlen_any A n m o l
      rw [E] at HT
      have hq : 1 ≤ o ∧ o ≤ 65536 ∧ 4 ≤ l ∧ l ≤ 1048576 := by unfold tcpy at hcp; rw [decide_eq_true_eq] at hcp; omega
      clear E hrn hcp hzl
      obtain ⟨q1, q2, q3, q4⟩ := hq
      have hle := putZ_le z (vz (2 * l - 7)) M c
      rw [vz_length] at hle
      have hv := vsz_le (2 * l - 7)
      have HLE : Hid ((putZ z (vz (2 * l - 7)) M c).length ≤ 900000) := Lib.hid (by omega)
      clear hle hv
      have hbl0 : (l == 0) = false := by simp; omega
      have hbo : (o == 0) = false := by simp; omega
      have e4 : IntKind.i64.wrap (o - 1) = o - 1 := IntWalk.i64_in _ (by omega)
      have e5 : IntKind.u64.wrap (o - 1) = o - 1 := IntWalk.u64_in _ (by omega)
      have h1 := h.below hB
      go_enter Try.func59, Try.ntmps59
      obtain ⟨x0, x1, x2⟩ := hX.c3
      go_wp2_with fail
      refine (HT _).mono ?_
      rintro e w1 ⟨rfl, hb1⟩
      replace h1 := h1.below hb1
      replace hX := hX.below hb1
      replace hB := hB.trans (hb1.mono hB.size)
      clear hb1 x0 x1 x2 HT
      obtain ⟨x0, x1, x2⟩ := hX.c3
      go_wp2_with fail
      refine (thead_put true l h1 q3 q4 (by omega) (Nat.le_trans hBw hB.size)).mono ?_
      rintro e w2 ⟨r2, rfl, hk2, hg2, hw2⟩
      rw [if_pos rfl] at hw2
      have hX2 := hX.ks hk2 (h.off (Nat.le_refl _))
      clear x0 x1 x2
      obtain ⟨x0, x1, x2⟩ := hX2.c3
      go_wp2_with fail
      refine (vput_any _ hw2 (by omega) (by omega) HLE.out (Nat.le_trans (Nat.le_trans hBw hB.size) hk2.size)).mono ?_
      rintro e w3 ⟨r3, rfl, hk3, hg3, hw3⟩
      go_wp2
      go_end0
      exact ⟨r3, rfl, (Ks.of_below hB).trans (Ks.wr hk2 hg2 hk3), ((Gr.refl _ _).trans hg2 hB.size).trans hg3 (Nat.le_trans hB.size hk2.size), by rw [HP.out]; exact hw3⟩
  · -- a run
    have E := tsz_run hrn
    have HP : Hid (tput (y, o, l) z M c = puts [vz (2 * (n : Int) - 2), y] z M c) := Lib.hid (by unfold tput tright titems; simp only; rw [hzl, hrn]; rfl)
    have HT := tlen_any A n m o l
    rw [E] at HT
    have hq : o = 0 ∧ l = 0 ∧ 1 ≤ n ∧ n ≤ 1048576 := by unfold trun at hrn; rw [decide_eq_true_eq] at hrn; exact hrn
    clear E hrn hzl
    obtain ⟨rfl, rfl, q3, q4⟩ := hq
    have hle := putZ_le z (vz (2 * (n : Int) - 2)) M c
    rw [vz_length] at hle
    have hv := vsz_le (2 * (n : Int) - 2)
    have HLE : Hid ((putZ z (vz (2 * (n : Int) - 2)) M c).length + n ≤ 1000000) := Lib.hid (by omega)
    clear hle hv
    have hbn : ((n : Int) == 0) = false := by simp; omega
    have h1 := h.below hB
    go_enter Try.func59, Try.ntmps59
    obtain ⟨x0, x1, x2⟩ := hX.c3
    go_wp2_with fail
    refine (HT _).mono ?_
    rintro e w1 ⟨rfl, hb1⟩
    replace h1 := h1.below hb1
    replace hX := hX.below hb1
    replace hB := hB.trans (hb1.mono hB.size)
    have hy1 := hy.below ⟨hB.os, hB.tape, hB.output, hB.size, hB.block⟩
    clear hb1 x0 x1 x2 HT
    obtain ⟨x0, x1, x2⟩ := hX.c3
    go_wp2_with fail
    refine (thead_put false n h1 (by simp; omega) (by omega) (by omega) (Nat.le_trans hBw hB.size)).mono ?_
    rintro e w2 ⟨r2, rfl, hk2, hg2, hw2⟩
    rw [if_neg (by simp)] at hw2
    have hX2 := hX.ks hk2 (h.off (Nat.le_refl _))
    have hy2 := hy1.ks hk2 (fun h0 a ha => HOFF.out h0 a ha)
    clear x0 x1 x2
    obtain ⟨x0, x1, x2⟩ := hX2.c3
    go_wp2_with fail
    refine (wput_any _ _ _ hw2 hy2 hA (off_gr (w := w) HLT.out HOFF.out ((Gr.refl _ _).trans hg2 hB.size)) HLE.out (Nat.le_trans (Nat.le_trans hBw hB.size) hk2.size)).mono ?_
    rintro e w3 ⟨r3, rfl, hk3, hg3, hw3⟩
    go_wp2
    go_end0
    exact ⟨r3, rfl, (Ks.of_below hB).trans (Ks.wr hk2 hg2 hk3), ((Gr.refl _ _).trans hg2 hB.size).trans hg3 (Nat.le_trans hB.size hk2.size), by rw [HP.out]; exact hw3⟩

/-- What a writer has behind the first k, and its code. -/
def tw (T : List Tk) (M : Int) : Nat → List Int × Int
  | 0 => ([], 0)
  | k + 1 => tput (T.getD k tk0) (tw T M k).1 M (tw T M k).2
theorem tw_le (T : List Tk) (M : Int) : ∀ k, k ≤ T.length → (tw T M k).1.length ≤ (tbs T k).length := by
  intro k
  induction k with
  | zero => intro _; show 0 ≤ _; omega
  | succ k ih =>
    intro hk
    rw [tbs_succ (by omega), List.length_append]
    have h1 := ih (by omega)
    have h2 := tput_le (T.getD k tk0) (tw T M k).1 M (tw T M k).2
    show (tput (T.getD k tk0) (tw T M k).1 M (tw T M k).2).1.length ≤ _
    omega
theorem tw_all {T : List Tk} {M : Int} (hM : ((tbs T T.length).length : Int) ≤ M) : ∀ k, k ≤ T.length → (tall T k = true → tw T M k = (tbs T k, 0)) ∧ (tall T k = false → (tw T M k).2 = 3) := by
  intro k
  induction k with
  | zero => intro _; exact ⟨fun _ => by rw [tbs_zero]; rfl, fun h => by simp [tall] at h⟩
  | succ k ih =>
    intro hk
    obtain ⟨h1, h2⟩ := ih (by omega)
    have hm := tbs_mono (T := T) (k := k + 1) (j := T.length) hk (Nat.le_refl _)
    rw [tbs_succ (by omega), List.length_append] at hm
    show (_ → tput (T.getD k tk0) (tw T M k).1 M (tw T M k).2 = _) ∧ (_ → (tput (T.getD k tk0) (tw T M k).1 M (tw T M k).2).2 = 3)
    unfold tall tput
    cases ha : tall T k
    · rw [h2 ha]
      refine ⟨fun h => by simp at h, fun _ => ?_⟩
      split
      · rw [puts_bad _ (by decide)]
      · rfl
    · rw [h1 ha]
      cases hr : tright (T.getD k tk0)
      · exact ⟨fun h => by simp at h, fun _ => rfl⟩
      · refine ⟨fun _ => ?_, fun h => by simp at h⟩
        rw [if_pos rfl]
        show puts (titems (T.getD k tk0)) (tbs T k) M 0 = _
        rw [puts_fits (by rw [titems_flat]; omega), titems_flat, tbs_succ (by omega)]

/-- What comes of tokens that are written. -/
def TBPost (T : List Tk) (w : World) (e : Ending) (w' : World) : Prop :=
  ∃ A n m, e = .returned (.tuple #[.slice A n m, .int .i64 (if tall T T.length then 0 else 3)]) ∧ Below w.heap.size w w' ∧ Bs w' A n (if tall T T.length then tbs T T.length else []) ∧ (0 < n → ∀ a, A = some a → w.heap.size ≤ a.block) ∧ n ≤ m ∧ (A = none → m = 0)

set_option maxRecDepth 100000 in
set_option maxHeartbeats 2000000 in
theorem tbytes_any (A : Option Addr) (n m : Nat) (T : List Tk) (w : World) (h : TksL w A n T) (hn : n ≤ 10000) (hsz : (tbs T n).length ≤ 600000) (hlit : ∀ i, (T.getD i tk0).1.length ≤ 100000) :
    Calls Try.prog 37 #[.slice A n m] w (TBPost T w) := by
  have HT := Lib.hid h
  have HSZ := Lib.hid hsz
  have HLT := Lib.hid hlit
  clear h hsz hlit
  go_enter Try.func37, Try.ntmps37
  go_wp2_with fail
  refine (wnew_any _ _ (by omega)).mono ?_
  rintro e w1 ⟨b, rfl, hbb, hb1, hw1⟩
  rw [if_neg (by omega)] at hw1
  go_wp2
  go_loopw [10] (fun i wr => ∃ (k : Nat) (r : Option Nat), k ≤ n ∧ i = .int .i64 k ∧ Below w.heap.size w wr ∧ Wr wr w.heap.size b r (tw T 9223372036854775807 k).1 9223372036854775807 (tw T 9223372036854775807 k).2) (fun i _ => n - (intOf i).toNat)
  case atStart => exact ⟨0, none, by omega, rfl, hb1, hw1⟩
  case round =>
    obtain ⟨k, r, hk, rfl, hb, hw⟩ := hrel
    by_cases hlt : k < n
    · obtain ⟨g, o, Ar, Lr, Cr, rfl, hF, hnil, hle⟩ := HT.out.2 k hlt
      have hl1 := tw_le T 9223372036854775807 k (by rw [HT.out.1]; omega)
      have hl2 := tbs_mono (T := T) (k := k) (j := n) (by omega) (by rw [HT.out.1]; exact Nat.le_refl _)
      have hl3 := HLT.out k
      have hzl := hF.2.2.2.1
      have HLE : Hid ((tw T 9223372036854775807 k).1.length + Lr ≤ 800000) := Lib.hid (by have := HSZ.out; omega)
      have HN : Hid (tw T 9223372036854775807 (k + 1) = tput (T.getD k tk0) (tw T 9223372036854775807 k).1 9223372036854775807 (tw T 9223372036854775807 k).2) := Lib.hid rfl
      have hoff : 0 < Lr → ∀ a, Ar = some a → a.block < w.heap.size := fun h0 => hF.2.2.2.lt h0
      obtain ⟨c0, c1, c2, _⟩ := hF.below hb (Nat.le_refl _)
      have hX := Blk.new wr #[.slice Ar Lr Cr, .int .i64 (T.getD k tk0).2.1, .int .i64 (T.getD k tk0).2.2] 33
      have hbX := hb.alloc hb.size (.cells #[.slice Ar Lr Cr, .int .i64 (T.getD k tk0).2.1, .int .i64 (T.getD k tk0).2.2] 33)
      have hwX := hw.below (below_one wr (.cells #[.slice Ar Lr Cr, .int .i64 (T.getD k tk0).2.1, .int .i64 (T.getD k tk0).2.2] 33))
      obtain ⟨_, _, _, hlitX⟩ := hF.below hbX (Nat.le_refl _)
      obtain ⟨x0, x1, x2⟩ := hX.c3
      have HOFF := Lib.hid hoff
      clear hX hl1 hl2 hl3 hzl hoff hF hw hb
      generalize T.getD k tk0 = t at *
      go_wp2_with fail
      refine (tput_any Ar Lr Cr t hwX hlitX hnil (fun h0 a ha => hwX.off_lt (HOFF.out h0 a ha)) HLE.out hbX.size).mono ?_
      rintro e w2 ⟨r2, rfl, hk2, hg2, hw2⟩
      have hb2 := hwX.belowOf hbX (Nat.le_refl _) hk2 (Nat.le_refl _)
      clear hwX hlitX hbX hk2 hg2 x0 x1 x2 c0 c1 c2
      go_wp2
      go_roundw
      case rel => exact ⟨k + 1, r2, hlt, by go_num, hb2, by rw [HN.out]; exact hw2⟩
      case measure => simp [intOf]; omega
    · obtain rfl : k = n := by omega
      have hl1 := tw_le T 9223372036854775807 k (by rw [HT.out.1]; exact Nat.le_refl _)
      obtain ⟨ha1, ha2⟩ := tw_all (T := T) (M := 9223372036854775807) (by rw [HT.out.1]; have := HSZ.out; omega) k (by rw [HT.out.1]; exact Nat.le_refl _)
      have hTl := HT.out.1
      cases ha : tall T k
      · have hc := ha2 ha
        rw [hc] at hw
        have HA : Hid (tall T T.length = false) := Lib.hid (by rw [hTl]; exact ha)
        clear ha1 ha2 ha hc
        go_wp2_with fail
        refine (wbytes_bad hw rfl).mono ?_
        rintro e w2 ⟨rfl, rfl⟩
        go_wp2
        go_ret2
        exact ⟨none, 0, 0, by rw [HA.out]; rfl, hb, by rw [HA.out]; exact Bs.none _, fun h => absurd h (by omega), by omega, fun _ => rfl⟩
      · have hc := ha1 ha
        rw [hc] at hw
        have HA : Hid (tall T T.length = true) := Lib.hid (by rw [hTl]; exact ha)
        have HL := Lib.hid hTl
        clear ha1 ha2 ha hc
        go_wp2_with fail
        refine (wbytes_good hw (by have := HSZ.out; omega)).mono ?_
        rintro e w2 ⟨g, rfl, hg, hb2, hblk⟩
        go_wp2
        go_ret2
        exact ⟨some ⟨g, 0, none⟩, _, _, by rw [HA.out]; rfl, hb.trans (hb2.mono hb.size), by rw [HA.out, HL.out]; exact Bs.of_block hblk, fun _ a ha => by injection ha with ha; subst ha; exact Nat.le_trans hb.size hg, Nat.le_refl _, fun h => by cases h⟩
end Go.Proofs.Ytmflnnfgkcmlhaa.Cur

namespace Go.Proofs.Ytmflnnfgkcmlhaa.Cur
open Go.RowKit Mem
set_option linter.unusedVariables false


set_option maxHeartbeats 400000 in
theorem beq_any (A B : Option Addr) (n m c d : Nat) (y z : List Int) (w : World) (ha : Bs w A n y) (hb : Bs w B m z) (hy : ∀ x ∈ y, 0 ≤ x ∧ x < 256) (hz : ∀ x ∈ z, 0 ≤ x ∧ x < 256) :
    Calls Try.prog 46 #[.slice A n c, .slice B m d] w fun e w' => e = .returned (.bool (decide (y = z))) ∧ w = w' := by
  have h1 := run_convert_bs c ha
  have h2 := run_convert_bs d hb
  have hs : ((strOfNums y).toList == (strOfNums z).toList) = decide (y = z) := by
    by_cases h : y = z
    · subst h; simp
    · rw [decide_eq_false h, beq_eq_false_iff_ne]
      exact fun e => h (strOfNums_inj hy hz (bstr_inj e))
  generalize strOfNums y = s at *
  generalize strOfNums z = t at *
  generalize decide (y = z) = r at *
  clear hy hz ha hb
  go_enter Try.func46, Try.ntmps46
  go_wp2
  go_ret
  exact ⟨rfl, rfl⟩

set_option maxHeartbeats 1000000 in
theorem tequal_any (A B : Option Addr) (n m c d : Nat) (s t : Tk) (w : World) (ha : Bs w A n s.1) (hb : Bs w B m t.1) (hs : tkok s) (ht : tkok t) :
    Calls Try.prog 71 #[tv A n c s.2.1 s.2.2, tv B m d t.2.1 t.2.2] w fun e w' => e = .returned (.bool (decide (s = t))) ∧ Below w.heap.size w w' := by
  obtain ⟨y, o, l⟩ := s
  obtain ⟨z, o', l'⟩ := t
  simp only at ha hb ⊢
  have hy := hs.1
  have hz := ht.1
  simp only at hy hz
  have hX := Blk.new w #[.slice A n c, .int .i64 o, .int .i64 l] 33
  have hX2 := hX.alloc (.cells #[.slice B m d, .int .i64 o', .int .i64 l'] 33)
  have hY := Blk.new (w.alloc (.cells #[.slice A n c, .int .i64 o, .int .i64 l] 33)) #[.slice B m d, .int .i64 o', .int .i64 l'] 33
  have hsz : (w.alloc (.cells #[.slice A n c, .int .i64 o, .int .i64 l] 33)).heap.size = w.heap.size + 1 := by simp
  rw [hsz] at hY
  have hB := below_two w (.cells #[.slice A n c, .int .i64 o, .int .i64 l] 33) (.cells #[.slice B m d, .int .i64 o', .int .i64 l'] 33)
  have HA := Lib.hid (ha.below hB)
  have HB := Lib.hid (hb.below hB)
  have HY := Lib.hid hy
  have HZ := Lib.hid hz
  clear hs ht hX hsz ha hb hy hz
  by_cases h1 : o = o'
  · subst h1
    by_cases h2 : l = l'
    · subst h2
      have E : Hid (decide ((y, o, l) = (z, o, l)) = decide (y = z)) := Lib.hid (by simp)
      go_enter Try.func71, Try.ntmps71
      obtain ⟨x0, x1, x2⟩ := hX2.c3
      obtain ⟨y0, y1, y2⟩ := hY.c3
      go_wp2_with fail
      refine (beq_any A B n m c d y z _ HA.out HB.out HY.out HZ.out).mono ?_
      rintro e w1 ⟨rfl, rfl⟩
      go_wp2
      go_ret
      exact ⟨by rw [E.out]; rfl, hB⟩
    · have E : Hid (decide ((y, o, l) = (z, o, l')) = false) := Lib.hid (by simp [h2])
      have hb2 : (l == l') = false := by simpa using h2
      clear h2
      go_enter Try.func71, Try.ntmps71
      obtain ⟨x0, x1, x2⟩ := hX2.c3
      obtain ⟨y0, y1, y2⟩ := hY.c3
      go_wp2
      go_ret
      exact ⟨by rw [E.out]; rfl, hB⟩
  · have E : Hid (decide ((y, o, l) = (z, o', l')) = false) := Lib.hid (by simp [h1])
    have hb1 : (o == o') = false := by simpa using h1
    clear h1
    go_enter Try.func71, Try.ntmps71
    obtain ⟨x0, x1, x2⟩ := hX2.c3
    obtain ⟨y0, y1, y2⟩ := hY.c3
    go_wp2
    go_ret
    exact ⟨by rw [E.out]; rfl, hB⟩

/-- Lists that differ at a place. -/
theorem ne_of_at {S T : List Tk} {k : Nat} (h : S.getD k tk0 ≠ T.getD k tk0) : S ≠ T := fun e => h (by rw [e])
theorem eq_of_all {S T : List Tk} (hl : S.length = T.length) (h : ∀ j, j < S.length → S.getD j tk0 = T.getD j tk0) : S = T := by
  refine List.ext_getElem hl fun i h1 h2 => ?_
  have := h i h1
  rwa [List.getD_eq_getElem?_getD, List.getD_eq_getElem?_getD, List.getElem?_eq_getElem h1, List.getElem?_eq_getElem h2] at this


set_option maxHeartbeats 1000000 in
theorem tfun_any (A B : Option Addr) (n m c d : Nat) (S T : List Tk) (w : World) (hn : n ≤ 1000000) (hS : TksL w A n S) (hT : TksL w B m T) (hos : ∀ t ∈ S, tkok t) (hot : ∀ t ∈ T, tkok t) :
    Calls Try.prog 70 #[.slice A n c, .slice B m d, .func (.func 71) #[] #[]] w fun e w' => e = .returned (.bool (decide (S = T))) ∧ Below w.heap.size w w' := by
  have HS := Lib.hid hS
  have HT := Lib.hid hT
  have HOS := Lib.hid hos
  have HOT := Lib.hid hot
  clear hS hT hos hot
  by_cases hl : n = m
  · subst hl
    go_enter Try.func70, Try.ntmps70
    go_wp2
    go_loopw [17] (fun i wr => ∃ k : Nat, k ≤ n ∧ i = .int .i64 k ∧ Below w.heap.size w wr ∧ Hid (∀ j, j < k → S.getD j tk0 = T.getD j tk0)) (fun i _ => n - (intOf i).toNat)
    case atStart => exact ⟨0, by omega, rfl, Below.refl _ _, Lib.hid fun j hj => absurd hj (by omega)⟩
    case round =>
      obtain ⟨k, hk, rfl, hb, HE⟩ := hrel
      by_cases hlt : k < n
      · obtain ⟨g, o, Ar, Lr, Cr, rfl, hF, hnil, hle⟩ := HS.out.2 k hlt
        obtain ⟨g', o', Ar', Lr', Cr', rfl, hF', hnil', hle'⟩ := HT.out.2 k hlt
        have hks := tkok_getD HOS.out k
        have hkt := tkok_getD HOT.out k
        have HN : Hid (S.getD k tk0 = T.getD k tk0 → ∀ j, j < k + 1 → S.getD j tk0 = T.getD j tk0) := Lib.hid fun e j hj => by
          rcases Nat.lt_succ_iff_lt_or_eq.1 hj with h | rfl
          · exact HE.out j h
          · exact e
        have HD : Hid (S.getD k tk0 ≠ T.getD k tk0 → decide (S = T) = false) := Lib.hid fun h => decide_eq_false (ne_of_at h)
        obtain ⟨c0, c1, c2, _⟩ := hF.below hb (Nat.le_refl _)
        obtain ⟨d0, d1, d2, _⟩ := hF'.below hb (Nat.le_refl _)
        have hbX := (hb.alloc hb.size (.cells #[.slice Ar Lr Cr, .int .i64 (S.getD k tk0).2.1, .int .i64 (S.getD k tk0).2.2] 33))
        have hbY := hbX.alloc hbX.size (.cells #[.slice Ar' Lr' Cr', .int .i64 (T.getD k tk0).2.1, .int .i64 (T.getD k tk0).2.2] 33)
        have hX := (Blk.new wr #[.slice Ar Lr Cr, .int .i64 (S.getD k tk0).2.1, .int .i64 (S.getD k tk0).2.2] 33)
        have hX2 := hX.alloc (.cells #[.slice Ar' Lr' Cr', .int .i64 (T.getD k tk0).2.1, .int .i64 (T.getD k tk0).2.2] 33)
        have hY := Blk.new (wr.alloc (.cells #[.slice Ar Lr Cr, .int .i64 (S.getD k tk0).2.1, .int .i64 (S.getD k tk0).2.2] 33)) #[.slice Ar' Lr' Cr', .int .i64 (T.getD k tk0).2.1, .int .i64 (T.getD k tk0).2.2] 33
        have hsz : (wr.alloc (.cells #[.slice Ar Lr Cr, .int .i64 (S.getD k tk0).2.1, .int .i64 (S.getD k tk0).2.2] 33)).heap.size = wr.heap.size + 1 := by simp
        rw [hsz] at hY
        obtain ⟨x0, x1, x2⟩ := hX2.c3
        obtain ⟨y0, y1, y2⟩ := hY.c3
        obtain ⟨d0', d1', d2', _⟩ := hF'.below hbX (Nat.le_refl _)
        obtain ⟨_, _, _, hs0⟩ := hF.below hbY (Nat.le_refl _)
        obtain ⟨_, _, _, ht0⟩ := hF'.below hbY (Nat.le_refl _)
        clear hX hX2 hY hsz hF hF' hb hbX
        generalize S.getD k tk0 = s at *
        generalize T.getD k tk0 = t at *
        go_wp2_with fail
        refine (tequal_any _ _ _ _ _ _ s t _ hs0 ht0 hks hkt).mono ?_
        rintro e w2 ⟨rfl, hb2⟩
        have hb3 := hbY.trans (hb2.mono hbY.size)
        clear hs0 ht0 hbY hb2 x0 x1 x2 y0 y1 y2 c0 c1 c2 d0 d1 d2 d0' d1' d2'
        by_cases e : s = t
        · have HN2 := Lib.hid (HN.out e)
          rw [decide_eq_true e]
          clear e HN HD
          go_wp2
          go_roundw
          case rel => exact ⟨k + 1, hlt, by go_num, hb3, HN2⟩
          case measure => simp [intOf]; omega
        · have HD2 := Lib.hid (HD.out e)
          rw [decide_eq_false e]
          clear e HN HD
          go_wp2
          go_ret
          exact ⟨by rw [HD2.out]; rfl, hb3⟩
      · obtain rfl : k = n := by omega
        have E : Hid (decide (S = T) = true) := Lib.hid (decide_eq_true (eq_of_all (by rw [HS.out.1, HT.out.1]) (fun j hj => HE.out j (by rw [← HS.out.1]; exact hj))))
        go_wp2
        go_ret
        exact ⟨by rw [E.out]; rfl, hb⟩
  · have E : Hid (decide (S = T) = false) := Lib.hid (decide_eq_false (fun e => hl (by rw [← HS.out.1, ← HT.out.1, e])))
    have hb : ((n : Int) == (m : Int)) = false := by simp; omega
    have hb2 : ((n : Int) != (m : Int)) = true := by simp; omega
    clear hl
    go_enter Try.func70, Try.ntmps70
    go_wp2
    go_ret
    exact ⟨by rw [E.out]; rfl, Below.refl _ _⟩

set_option maxHeartbeats 1000000 in
theorem tsame_any (A B : Option Addr) (n m c d : Nat) (S T : List Tk) (w : World) (hn : n ≤ 1000000) (hS : TksL w A n S) (hT : TksL w B m T) (hos : ∀ t ∈ S, tkok t) (hot : ∀ t ∈ T, tkok t) :
    Calls Try.prog 48 #[.slice A n c, .slice B m d] w fun e w' => e = .returned (.bool (decide (S = T))) ∧ Below w.heap.size w w' := by
  have HS := Lib.hid hS
  have HT := Lib.hid hT
  have HOS := Lib.hid hos
  have HOT := Lib.hid hot
  clear hS hT hos hot
  go_enter Try.func48, Try.ntmps48
  go_wp2_with fail
  with_reducible refine (tfun_any _ _ _ _ _ _ S T _ hn HS.out HT.out HOS.out HOT.out).mono ?_
  rintro e w1 ⟨rfl, hb⟩
  go_wp2
  go_ret
  exact ⟨rfl, hb⟩

/-- What the document's Same looks at. -/
def SS (w0 : World) (w' : World) : Prop := Below w0.heap.size w0 w'
set_option maxRecDepth 100000 in
set_option maxHeartbeats 2000000 in
theorem rtsame_any (A B : Option Addr) (n m c d : Nat) (S T : List Tk) (w : World) (hn : n ≤ 1000000) (hS : TksL w A n S) (hT : TksL w B m T) (hos : ∀ t ∈ S, tkok t) (hot : ∀ t ∈ T, tkok t) :
    Calls Try.prog 15 #[.slice A n c, .slice B m d] w fun e w' => e = .returned (.bool (decide (S = T))) ∧ Below w.heap.size w w' := by
  have HS := Lib.hid hS
  have HT := Lib.hid hT
  have HOS := Lib.hid hos
  have HOT := Lib.hid hot
  clear hS hT hos hot
  by_cases hl : n = m
  · subst hl
    go_enter Try.func15, Try.ntmps15
    go_wp2
    go_loopw [5] (fun i wr => ∃ k : Nat, k ≤ n ∧ i = .int .i64 k ∧ Below w.heap.size w wr ∧ Hid (∀ j, j < k → S.getD j tk0 = T.getD j tk0)) (fun i _ => n - (intOf i).toNat)
    case atStart => exact ⟨0, by omega, rfl, Below.refl _ _, Lib.hid fun j hj => absurd hj (by omega)⟩
    case round =>
      obtain ⟨k, hk, rfl, hb, HE⟩ := hrel
      by_cases hlt : k < n
      · obtain ⟨g, o, Ar, Lr, Cr, rfl, hF, hnil, hle⟩ := HS.out.2 k hlt
        obtain ⟨g', o', Ar', Lr', Cr', rfl, hF', hnil', hle'⟩ := HT.out.2 k hlt
        have hks := tkok_getD HOS.out k
        have hkt := tkok_getD HOT.out k
        have HN : Hid (S.getD k tk0 = T.getD k tk0 → ∀ j, j < k + 1 → S.getD j tk0 = T.getD j tk0) := Lib.hid fun e j hj => by
          rcases Nat.lt_succ_iff_lt_or_eq.1 hj with h | rfl
          · exact HE.out j h
          · exact e
        have HD : Hid (S.getD k tk0 ≠ T.getD k tk0 → decide (S = T) = false) := Lib.hid fun h => decide_eq_false (ne_of_at h)
        have L : ∀ w', Below w.heap.size w w' → w'.cell? ⟨g, o + k * 3, none⟩ = some (.slice Ar Lr Cr) ∧ w'.cell? ⟨g, o + k * 3 + 1, none⟩ = some (.int .i64 (S.getD k tk0).2.1) ∧ w'.cell? ⟨g, o + k * 3 + 2, none⟩ = some (.int .i64 (S.getD k tk0).2.2) ∧ w'.cell? ⟨g', o' + k * 3, none⟩ = some (.slice Ar' Lr' Cr') ∧ w'.cell? ⟨g', o' + k * 3 + 1, none⟩ = some (.int .i64 (T.getD k tk0).2.1) ∧ w'.cell? ⟨g', o' + k * 3 + 2, none⟩ = some (.int .i64 (T.getD k tk0).2.2) := fun w' h => ⟨(hF.below h (Nat.le_refl _)).1, (hF.below h (Nat.le_refl _)).2.1, (hF.below h (Nat.le_refl _)).2.2.1, (hF'.below h (Nat.le_refl _)).1, (hF'.below h (Nat.le_refl _)).2.1, (hF'.below h (Nat.le_refl _)).2.2.1⟩
        have hbd : Below w.heap.size w wr.drew := hb.trans ((below_one' _).mono hb.size)
        obtain ⟨_, _, _, hs0⟩ := hF.below hbd (Nat.le_refl _)
        obtain ⟨_, _, _, ht0⟩ := hF'.below hbd (Nat.le_refl _)
        have hki : (k : Int) < n := by omega
        clear hF hF'
        generalize S.getD k tk0 = s at *
        generalize T.getD k tk0 = t at *
        obtain ⟨y, so, sl⟩ := s
        obtain ⟨z, to, tl⟩ := t
        simp only at *
        have hy := hks.1
        have hz := hkt.1
        simp only at hy hz
        clear hks hkt
        by_cases e1 : so = to
        · subst e1
          by_cases e2 : sl = tl
          · subst e2
            go_wp2
            refine Seq.wp_region_seq (fun w' => Below w.heap.size w w') (by kernel_rfl) (by kernel_rfl) hbd ?_
            generalize wr.drew = wd at *
            repeat (first | (refine Seq.Seq.skip (by rfl) ?_; (try simp only [Act.put, List.setIfInBounds_toArray, List.set_cons_zero, List.set_cons_succ])) | (refine Seq.Seq.det ?_ (by rfl) (fun w hS => ?_) ?_; rotate_left; ((try dsimp only at hS); go_simp; (try rw [if_pos (by omega)]); with_reducible rfl); (try simp only [Act.put, List.setIfInBounds_toArray, List.set_cons_zero, List.set_cons_succ])))
            refine Seq.Seq.make (by rfl) (by rfl) (fun K Q' hK => ?_)
            go_simp
            go_at_call 14
            refine (same_dec _ _ _ _ _ _ y z _ hs0 ht0 hy hz).mono ?_
            rintro e w' ⟨rfl, rfl⟩
            refine hK.out _ _ (hbd) ?_
            clear hK K
            try simp only [Act.put, List.setIfInBounds_toArray, List.set_cons_zero, List.set_cons_succ]
            clear hs0 ht0 hy hz L
            by_cases e : y = z
            · subst e
              have HN2 := Lib.hid (HN.out rfl)
              rw [decide_eq_true rfl]
              repeat (first | (refine Seq.Seq.skip (by rfl) ?_; (try simp only [Act.put, List.setIfInBounds_toArray, List.set_cons_zero, List.set_cons_succ])) | (refine Seq.Seq.det ?_ (by rfl) (fun w hS => ?_) ?_; rotate_left; ((try dsimp only at hS); go_simp; (try rw [if_pos (by omega)]); with_reducible rfl); (try simp only [Act.put, List.setIfInBounds_toArray, List.set_cons_zero, List.set_cons_succ])))
              refine Seq.Seq.nil ?_
              clear HN HD
              go_wp2
              go_roundw
              case rel => exact ⟨k + 1, hlt, by go_num, hbd, HN2⟩
              case measure => simp [intOf]; omega
            · have HD2 := Lib.hid (HD.out (fun h => e (by injection h)))
              rw [decide_eq_false e]
              repeat (first | (refine Seq.Seq.skip (by rfl) ?_; (try simp only [Act.put, List.setIfInBounds_toArray, List.set_cons_zero, List.set_cons_succ])) | (refine Seq.Seq.det ?_ (by rfl) (fun w hS => ?_) ?_; rotate_left; ((try dsimp only at hS); go_simp; (try rw [if_pos (by omega)]); with_reducible rfl); (try simp only [Act.put, List.setIfInBounds_toArray, List.set_cons_zero, List.set_cons_succ])))
              refine Seq.Seq.nil ?_
              clear e HN HD
              go_wp2
              go_ret
              exact ⟨by rw [HD2.out]; rfl, hbd⟩
          · have HD2 := Lib.hid (HD.out (fun h => e2 (by injection h with _ h; injection h)))
            have hb2 : (sl != tl) = true := by simpa using e2
            clear e2 HN HD hs0 ht0 hy hz
            go_wp2
            refine Seq.wp_region_seq (fun w' => Below w.heap.size w w') (by kernel_rfl) (by kernel_rfl) hbd ?_
            generalize wr.drew = wd at *
            repeat (first | (refine Seq.Seq.skip (by rfl) ?_; (try simp only [Act.put, List.setIfInBounds_toArray, List.set_cons_zero, List.set_cons_succ])) | (refine Seq.Seq.det ?_ (by rfl) (fun w hS => ?_) ?_; rotate_left; ((try dsimp only at hS); go_simp; (try rw [if_pos (by omega)]); with_reducible rfl); (try simp only [Act.put, List.setIfInBounds_toArray, List.set_cons_zero, List.set_cons_succ])))
            refine Seq.Seq.nil ?_
            clear L
            go_wp2
            go_ret
            exact ⟨by rw [HD2.out]; rfl, hbd⟩
        · have HD2 := Lib.hid (HD.out (fun h => e1 (by injection h with _ h; injection h)))
          have hb1 : (so != to) = true := by simpa using e1
          clear e1 HN HD hs0 ht0 hy hz
          go_wp2
          refine Seq.wp_region_seq (fun w' => Below w.heap.size w w') (by kernel_rfl) (by kernel_rfl) hbd ?_
          generalize wr.drew = wd at *
          repeat (first | (refine Seq.Seq.skip (by rfl) ?_; (try simp only [Act.put, List.setIfInBounds_toArray, List.set_cons_zero, List.set_cons_succ])) | (refine Seq.Seq.det ?_ (by rfl) (fun w hS => ?_) ?_; rotate_left; ((try dsimp only at hS); go_simp; (try rw [if_pos (by omega)]); with_reducible rfl); (try simp only [Act.put, List.setIfInBounds_toArray, List.set_cons_zero, List.set_cons_succ])))
          refine Seq.Seq.nil ?_
          clear L
          go_wp2
          go_ret
          exact ⟨by rw [HD2.out]; rfl, hbd⟩
      · obtain rfl : k = n := by omega
        have E : Hid (decide (S = T) = true) := Lib.hid (decide_eq_true (eq_of_all (by rw [HS.out.1, HT.out.1]) (fun j hj => HE.out j (by rw [← HS.out.1]; exact hj))))
        go_wp2
        go_ret
        exact ⟨by rw [E.out]; rfl, hb⟩
  · have E : Hid (decide (S = T) = false) := Lib.hid (decide_eq_false (fun e => hl (by rw [← HS.out.1, ← HT.out.1, e])))
    have hb : ((n : Int) == (m : Int)) = false := by simp; omega
    have hb2 : ((n : Int) != (m : Int)) = true := by simp; omega
    clear hl
    go_enter Try.func15, Try.ntmps15
    go_wp2
    go_ret
    exact ⟨by rw [E.out]; rfl, Below.refl _ _⟩
end Go.Proofs.Ytmflnnfgkcmlhaa.Cur

namespace Go.Proofs.Ytmflnnfgkcmlhaa.Cur
open Go.RowKit Mem
set_option linter.unusedVariables false

/-- What a token's first number says: is it a copy, and how many bytes does it make. -/
def hdv (x : Int) : Bool × Int := if x % 2 = 1 then (true, x / 2 + 4) else (false, x / 2 + 1)
def hd (z : List Int) (p : Int) : Rs (Bool × Int) := (vg z p).bind (false, 0) fun x p1 => if 1048576 < (hdv x).2 then ((false, 0), 0, 2, p) else (hdv x, p1, 0, 0)
def ofs (z : List Int) (p : Int) : Rs Int := (vg z p).bind 0 fun x p1 => if 65535 < x then (0, 0, 10, p) else (x + 1, p1, 0, 0)
/-- What follows a token's first number. -/
def trb (z : List Int) (h : Bool × Int) (p1 : Int) : Rs Tk := if h.1 then (ofs z p1).bind tk0 fun o p2 => (([], o, h.2), p2, 0, 0) else (tk z h.2 p1).bind tk0 fun y p2 => ((y, 0, 0), p2, 0, 0)
def tr (z : List Int) (p : Int) : Rs Tk := (hd z p).bind tk0 (trb z)

/-- The reader's side and the document's side of 'a number, then a test of it'. -/
theorem St.test {α : Type} {d : α} {n : Nat} {g : Rs Int} {p c q v p1 c1 q1 : Int} {bad : Int → Prop} [DecidablePred bad] {C P : Int} {r : Int → α} (h : St 0 n g p c q v p1 c1 q1) (hC : C ≠ 0) {u : α} {c2 q2 : Int}
    (k : (bad v ∧ u = d ∧ FailSt c1 q1 C P c2 q2) ∨ (¬ bad v ∧ u = (if c1 = 0 then r v else d) ∧ c2 = c1 ∧ q2 = q1)) :
    St d n (g.bind d fun x p1 => if bad x then (d, 0, C, P) else (r x, p1, 0, 0)) p c q u p1 c2 q2 := by
  have hp := h.place
  refine h.bind ?_
  rcases k with ⟨hb, rfl, hf⟩ | ⟨hb, rfl, rfl, rfl⟩
  · rcases hf with ⟨rfl, rfl, rfl⟩ | ⟨hc, rfl, rfl⟩
    · unfold fq
      rw [if_neg hC]
      exact St.fault (x := u) (y := 0) (by rw [if_pos hb]) hC hp.1 hp.2
    · exact St.stay hp.1 hp.2 hc
  · by_cases hc : c2 = 0
    · subst hc
      rw [if_pos rfl]
      exact St.done (by rw [if_neg hb]) hp.1 hp.2
    · rw [if_neg hc]
      exact St.stay hp.1 hp.2 hc
theorem FailSt.ne {c q C P c2 q2 : Int} (h : FailSt c q C P c2 q2) (hC : C ≠ 0) : c2 ≠ 0 := by
  rcases h with ⟨_, rfl, _⟩ | ⟨h, rfl, _⟩
  · exact hC
  · exact h

def HdPost (b : Nat) (s : Value) (n : Nat) (g : Rs (Bool × Int)) (p c q : Int) (w : World) (e : Ending) (w' : World) : Prop :=
  ∃ cp k p' c' q', e = .returned (.tuple #[.bool cp, .int .i64 k]) ∧ Kp b w w' ∧ IsRd w' b s p' c' q' ∧ St (false, 0) n g p c q (cp, k) p' c' q'


set_option maxRecDepth 100000 in
set_option maxHeartbeats 2000000 in
theorem thead_any (b : Nat) (a : Option Addr) (n m : Nat) (z : List Int) (p c q : Int) (w : World) (h : IsRd w b (.slice a n m) p c q) (hz : Bs w a n z) (h0 : 0 ≤ p) (h1 : p ≤ n) (hn : n ≤ 1000000) (hby : ∀ x ∈ z, 0 ≤ x ∧ x < 256) :
    Calls Try.prog 95 #[.pointer (some ⟨b, 0, none⟩)] w (HdPost b (.slice a n m) n (hd z p) p c q w) := by
  go_enter Try.func95, Try.ntmps95
  go_wp2_with fail
  refine (at_any _ _ _ _ _ _ h).mono ?_
  rintro e w0 ⟨rfl, rfl⟩
  go_wp2_with fail
  refine (vread_any _ _ _ _ _ _ _ _ _ h hz h0 h1 hn hby).mono ?_
  rintro e w1 ⟨v, p1, c1, q1, rfl, hk1, hr1, hs1⟩
  have hst := hs1.st hz.1 h0 h1 hby
  obtain ⟨v0, v1⟩ := rd_lt hs1 hz.1 h0 h1 hby
  have HS := Lib.hid hst
  have HP1 : Hid (0 ≤ p1 ∧ p1 ≤ n) := Lib.hid hst.place
  clear hs1 hst hby h hz
  have hm0 : 0 ≤ v % 2 ∧ v % 2 < 2 := by omega
  by_cases hcp : v % 2 = 1
  · have HV : Hid (hdv v = (true, v / 2 + 4)) := Lib.hid (by unfold hdv; rw [if_pos hcp])
    have hcb : (v % 2 == 1) = true := by simpa using hcp
    clear hm0
    by_cases hbig : 1048576 < v / 2 + 4
    · have e2 : IntKind.u64.wrap (v / 2 + 4) = v / 2 + 4 := IntWalk.u64_in _ (by omega)
      have HS2 : Hid (∀ c2 q2, FailSt c1 q1 2 p c2 q2 → St (false, 0) n (hd z p) p c q (false, 0) p1 c2 q2) := Lib.hid fun c2 q2 hf => HS.out.test (bad := fun x => 1048576 < (hdv x).2) (r := hdv) (by decide) (.inl ⟨by rw [HV.out]; exact hbig, rfl, hf⟩)
      clear HV HS
      go_wp2_with fail
      refine (limits_any _ _).mono ?_
      rintro e w2 ⟨rfl, rfl⟩
      try rw [if_pos rfl]
      try rw [if_neg (by simp)]
      go_wp2_with fail
      refine (fail_any _ _ _ _ _ _ _ _ hr1).mono ?_
      rintro e w2 ⟨c2, q2, rfl, hk2, hr2, hf⟩
      have HS3 := Lib.hid (HS2.out _ _ hf)
      have hcb : (c2 == 0) = false := by have := hf.ne (by decide); simpa using this
      replace hk1 := hk1.trans hk2
      replace hr1 := hr2
      clear hr2 hf hk2
      go_wp2_with fail
      refine (good_any _ _ _ _ _ _ hr1).mono ?_
      rintro e w3 ⟨rfl, hb3⟩
      rw [hcb]
      have hk3 := hk1.trans (Kp.of_below hb3)
      have hr3 := hr1.below hb3
      clear hr1 hk1 hb3
      go_wp2
      go_ret2
      exact ⟨_, _, _, _, _, rfl, hk3, hr3, HS3.out⟩
    · have e2 : IntKind.u64.wrap (v / 2 + 4) = v / 2 + 4 := IntWalk.u64_in _ (by omega)
      have e3 : IntKind.i64.wrap (v / 2 + 4) = v / 2 + 4 := IntWalk.i64_in _ (by omega)
      have HS2 : Hid (∀ u, u = (if c1 = 0 then hdv v else (false, 0)) → St (false, 0) n (hd z p) p c q u p1 c1 q1) := Lib.hid fun u hu => HS.out.test (bad := fun x => 1048576 < (hdv x).2) (r := hdv) (by decide) (.inr ⟨by rw [HV.out]; exact hbig, hu, rfl, rfl⟩)
      by_cases hc1 : c1 = 0
      · have hcb : (c1 == 0) = true := by simpa using hc1
        have HS3 := Lib.hid (HS2.out (hdv v) (by rw [if_pos hc1]))
        clear hc1 HS HS2
        go_wp2_with fail
        refine (limits_any _ _).mono ?_
        rintro e w2 ⟨rfl, rfl⟩
        try rw [if_pos rfl]
        try rw [if_neg (by simp)]
        go_wp2_with fail
        refine (good_any _ _ _ _ _ _ hr1).mono ?_
        rintro e w3 ⟨rfl, hb3⟩
        rw [hcb]
        have hk3 := hk1.trans (Kp.of_below hb3)
        have hr3 := hr1.below hb3
        clear hr1 hk1 hb3
        go_wp2
        go_ret2
        exact ⟨_, _, _, _, _, rfl, hk3, hr3, by rw [← HV.out]; exact HS3.out⟩
      · have hcb : (c1 == 0) = false := by simpa using hc1
        have HS3 := Lib.hid (HS2.out (false, 0) (by rw [if_neg hc1]))
        clear hc1 HS HS2
        go_wp2_with fail
        refine (limits_any _ _).mono ?_
        rintro e w2 ⟨rfl, rfl⟩
        try rw [if_pos rfl]
        try rw [if_neg (by simp)]
        go_wp2_with fail
        refine (good_any _ _ _ _ _ _ hr1).mono ?_
        rintro e w3 ⟨rfl, hb3⟩
        rw [hcb]
        have hk3 := hk1.trans (Kp.of_below hb3)
        have hr3 := hr1.below hb3
        clear hr1 hk1 hb3
        go_wp2
        go_ret2
        exact ⟨_, _, _, _, _, rfl, hk3, hr3, HS3.out⟩
  · have hce : v % 2 = 0 := by omega
    have HV : Hid (hdv v = (false, v / 2 + 1)) := Lib.hid (by unfold hdv; rw [if_neg hcp])
    have hcb : (v % 2 == 1) = false := by simpa using hcp
    clear hm0 hcp
    by_cases hbig : 1048576 < v / 2 + 1
    · have e2 : IntKind.u64.wrap (v / 2 + 1) = v / 2 + 1 := IntWalk.u64_in _ (by omega)
      have HS2 : Hid (∀ c2 q2, FailSt c1 q1 2 p c2 q2 → St (false, 0) n (hd z p) p c q (false, 0) p1 c2 q2) := Lib.hid fun c2 q2 hf => HS.out.test (bad := fun x => 1048576 < (hdv x).2) (r := hdv) (by decide) (.inl ⟨by rw [HV.out]; exact hbig, rfl, hf⟩)
      clear HV HS
      go_wp2_with fail
      refine (limits_any _ _).mono ?_
      rintro e w2 ⟨rfl, rfl⟩
      try rw [if_pos rfl]
      try rw [if_neg (by simp)]
      go_wp2_with fail
      refine (fail_any _ _ _ _ _ _ _ _ hr1).mono ?_
      rintro e w2 ⟨c2, q2, rfl, hk2, hr2, hf⟩
      have HS3 := Lib.hid (HS2.out _ _ hf)
      have hcb : (c2 == 0) = false := by have := hf.ne (by decide); simpa using this
      replace hk1 := hk1.trans hk2
      replace hr1 := hr2
      clear hr2 hf hk2
      go_wp2_with fail
      refine (good_any _ _ _ _ _ _ hr1).mono ?_
      rintro e w3 ⟨rfl, hb3⟩
      rw [hcb]
      have hk3 := hk1.trans (Kp.of_below hb3)
      have hr3 := hr1.below hb3
      clear hr1 hk1 hb3
      go_wp2
      go_ret2
      exact ⟨_, _, _, _, _, rfl, hk3, hr3, HS3.out⟩
    · have e2 : IntKind.u64.wrap (v / 2 + 1) = v / 2 + 1 := IntWalk.u64_in _ (by omega)
      have e3 : IntKind.i64.wrap (v / 2 + 1) = v / 2 + 1 := IntWalk.i64_in _ (by omega)
      have HS2 : Hid (∀ u, u = (if c1 = 0 then hdv v else (false, 0)) → St (false, 0) n (hd z p) p c q u p1 c1 q1) := Lib.hid fun u hu => HS.out.test (bad := fun x => 1048576 < (hdv x).2) (r := hdv) (by decide) (.inr ⟨by rw [HV.out]; exact hbig, hu, rfl, rfl⟩)
      by_cases hc1 : c1 = 0
      · have hcb : (c1 == 0) = true := by simpa using hc1
        have HS3 := Lib.hid (HS2.out (hdv v) (by rw [if_pos hc1]))
        clear hc1 HS HS2
        go_wp2_with fail
        refine (limits_any _ _).mono ?_
        rintro e w2 ⟨rfl, rfl⟩
        try rw [if_pos rfl]
        try rw [if_neg (by simp)]
        go_wp2_with fail
        refine (good_any _ _ _ _ _ _ hr1).mono ?_
        rintro e w3 ⟨rfl, hb3⟩
        rw [hcb]
        have hk3 := hk1.trans (Kp.of_below hb3)
        have hr3 := hr1.below hb3
        clear hr1 hk1 hb3
        go_wp2
        go_ret2
        exact ⟨_, _, _, _, _, rfl, hk3, hr3, by rw [← HV.out]; exact HS3.out⟩
      · have hcb : (c1 == 0) = false := by simpa using hc1
        have HS3 := Lib.hid (HS2.out (false, 0) (by rw [if_neg hc1]))
        clear hc1 HS HS2
        go_wp2_with fail
        refine (limits_any _ _).mono ?_
        rintro e w2 ⟨rfl, rfl⟩
        try rw [if_pos rfl]
        try rw [if_neg (by simp)]
        go_wp2_with fail
        refine (good_any _ _ _ _ _ _ hr1).mono ?_
        rintro e w3 ⟨rfl, hb3⟩
        rw [hcb]
        have hk3 := hk1.trans (Kp.of_below hb3)
        have hr3 := hr1.below hb3
        clear hr1 hk1 hb3
        go_wp2
        go_ret2
        exact ⟨_, _, _, _, _, rfl, hk3, hr3, HS3.out⟩

def RTakeOwn (s : Value) (n : Nat) (z : List Int) (p c q x : Int) (w : World) (e : Ending) (w' : World) : Prop :=
  ∃ ok p' c' q' A k m, e = .returned (.tuple #[cv s p' c' q', .slice A k m]) ∧ Below w.heap.size w w' ∧ SkipSt n p c q x ok p' c' q' ∧ Own w' w.heap.size (.slice A k m) (if ok = true then piece z p.toNat (p + x).toNat else [])

set_option maxHeartbeats 400000 in
theorem rtake_own (a : Option Addr) (n m : Nat) (z : List Int) (p c q x : Int) (w : World) (hz : Bs w a n z) (ha : a = none → m = 0) (h0 : 0 ≤ p) (h1 : p ≤ n) (hm : n ≤ m) (hn : n ≤ 1000000) :
    Calls Try.prog 63 #[cv (.slice a n m) p c q, .int .i64 x] w (RTakeOwn (.slice a n m) n z p c q x w) := by
  by_cases hc : c = 0
  · subst hc
    by_cases hx : x < 0
    · go_enter Try.func63, Try.ntmps63
      go_wp2_with fail
      refine (rfail_yes _ _ _ _ _ _ ⟨_, _, _, rfl⟩).mono ?_
      rintro e w1 ⟨rfl, hb⟩
      obtain ⟨h0, h1, hb⟩ := two_new hb
      obtain ⟨d0, d1, d2, d3⟩ := h1.c4
      obtain ⟨g0, g1, g2, g3⟩ := h1.f4
      go_wp2
      refine bodyPost_ret (v := .tuple #[cv (.slice a n m) p 17 (fq 17 p), .slice none 0 0]) (by simp [results, Try.results63, go_sem, d0, d1, d2, d3]) rfl ⟨false, _, _, _, _, _, _, rfl, ?_, .inr (.inl ⟨rfl, hx, rfl, rfl, rfl, by simp [fq]⟩), Own.nil _ _⟩
      iterate 4 (refine Below.setCell ?_ (by simp) _)
      exact hb
    · by_cases hy : (n : Int) - p < x
      · go_enter Try.func63, Try.ntmps63
        go_wp2_with fail
        refine (rfail_yes _ _ _ _ _ _ ⟨_, _, _, rfl⟩).mono ?_
        rintro e w1 ⟨rfl, hb⟩
        obtain ⟨h0, h1, hb⟩ := two_new hb
        obtain ⟨d0, d1, d2, d3⟩ := h1.c4
        obtain ⟨g0, g1, g2, g3⟩ := h1.f4
        go_wp2
        refine bodyPost_ret (v := .tuple #[cv (.slice a n m) p 1 (fq 1 n), .slice none 0 0]) (by simp [results, Try.results63, go_sem, d0, d1, d2, d3]) rfl ⟨false, _, _, _, _, _, _, rfl, ?_, .inr (.inr (.inl ⟨rfl, hy, rfl, rfl, rfl, by simp [fq]⟩)), Own.nil _ _⟩
        iterate 4 (refine Below.setCell ?_ (by simp) _)
        exact hb
      · obtain ⟨A', M, hsl, hA, hM, hN⟩ := slice_lh hz m p (p + x) h0 (by omega) (by omega) hm
        have e : (p + x - p).toNat = x.toNat := by omega
        rw [e] at hsl hA hM
        clear e
        go_enter Try.func63, Try.ntmps63
        go_wp2_with (at_builtin; go_must (refine list_append_bs rfl (.tmp 31) (.tmp 40) rfl (w.heap.size + 2) (.slice none 0 0) [] rfl (Own.nil _ _) _ _ _ _ rfl (hA.below (below_two _ _ _)) (fun h => by have := hN h; have := ha this.1; omega) (by simp; omega) (by simp) ?_; intro v1 w1 hown hg; rw [List.nil_append] at hown; obtain ⟨h0, h1, hb⟩ := two_new (Below.of_grown_none hg); obtain ⟨A1, M1, hv⟩ := hown.slice; subst hv; have hcap := hown.cap; obtain ⟨c0, c1, c2, c3⟩ := h0.c4; obtain ⟨f0, f1, f2, f3⟩ := h0.f4; obtain ⟨d0, d1, d2, d3⟩ := h1.c4; obtain ⟨g0, g1, g2, g3⟩ := h1.f4; clear hsl hA f0 f2 f3))
        refine bodyPost_ret (v := .tuple #[cv (.slice a n m) (p + x) 0 q, .slice A1 (piece z p.toNat (p + x).toNat).length M1]) (by simp [results, Try.results63, go_sem, d0, d1, d2, d3]) rfl ⟨true, _, _, _, _, _, _, rfl, ?_, .inr (.inr (.inr ⟨rfl, hx, hy, rfl, rfl, rfl, rfl⟩)), ?_⟩
        · iterate 5 (refine Below.setCell ?_ (by simp) _)
          exact hb
        · refine Own.base (B := w.heap.size + 2) ?_ (fun g hg => by have := (Own.ge hown g hg); omega)
          iterate 5 (refine Own.far ?_ (by simp) _)
          exact hown
  · have hcb : (c != 0) = true := by simpa using hc
    have H := Lib.hid hc
    clear hc
    go_enter Try.func63, Try.ntmps63
    go_wp2
    refine bodyPost_ret (v := .tuple #[cv (.slice a n m) p c q, .slice none 0 0]) (by simp [results, Try.results63, go_sem]) rfl ⟨false, _, _, _, _, _, _, rfl, below_two _ _ _, .inl ⟨H.out, rfl, rfl, rfl, rfl⟩, Own.nil _ _⟩


def OfPost (b : Nat) (s : Value) (n : Nat) (g : Rs Int) (p c q : Int) (w : World) (e : Ending) (w' : World) : Prop :=
  ∃ o p' c' q', e = .returned (.int .i64 o) ∧ Kp b w w' ∧ IsRd w' b s p' c' q' ∧ St 0 n g p c q o p' c' q'

set_option maxRecDepth 100000 in
set_option maxHeartbeats 2000000 in
theorem toffset_any (b : Nat) (a : Option Addr) (n m : Nat) (z : List Int) (p c q : Int) (w : World) (h : IsRd w b (.slice a n m) p c q) (hz : Bs w a n z) (h0 : 0 ≤ p) (h1 : p ≤ n) (hn : n ≤ 1000000) (hby : ∀ x ∈ z, 0 ≤ x ∧ x < 256) :
    Calls Try.prog 98 #[.pointer (some ⟨b, 0, none⟩)] w (OfPost b (.slice a n m) n (ofs z p) p c q w) := by
  go_enter Try.func98, Try.ntmps98
  go_wp2_with fail
  refine (at_any _ _ _ _ _ _ h).mono ?_
  rintro e w0 ⟨rfl, rfl⟩
  go_wp2_with fail
  refine (vread_any _ _ _ _ _ _ _ _ _ h hz h0 h1 hn hby).mono ?_
  rintro e w1 ⟨v, p1, c1, q1, rfl, hk1, hr1, hs1⟩
  have hst := hs1.st hz.1 h0 h1 hby
  obtain ⟨v0, v1⟩ := rd_lt hs1 hz.1 h0 h1 hby
  have HS := Lib.hid hst
  clear hs1 hst hby h hz
  by_cases hbig : 65535 < v
  · have hge : (65536 : Int) ≤ v := by omega
    have HS2 : Hid (∀ c2 q2, FailSt c1 q1 10 p c2 q2 → St 0 n (ofs z p) p c q 0 p1 c2 q2) := Lib.hid fun c2 q2 hf => HS.out.test (bad := fun x => 65535 < x) (r := fun x => x + 1) (by decide) (.inl ⟨hbig, rfl, hf⟩)
    clear HS
    go_wp2_with fail
    refine (fail_any _ _ _ _ _ _ _ _ hr1).mono ?_
    rintro e w2 ⟨c2, q2, rfl, hk2, hr2, hf⟩
    have HS3 := Lib.hid (HS2.out _ _ hf)
    have hcb : (c2 == 0) = false := by have := hf.ne (by decide); simpa using this
    replace hk1 := hk1.trans hk2
    replace hr1 := hr2
    clear hr2 hf hk2
    go_wp2_with fail
    refine (good_any _ _ _ _ _ _ hr1).mono ?_
    rintro e w3 ⟨rfl, hb3⟩
    rw [hcb]
    have hk3 := hk1.trans (Kp.of_below hb3)
    have hr3 := hr1.below hb3
    clear hr1 hk1 hb3
    go_wp2
    go_ret
    exact ⟨_, _, _, _, rfl, hk3, hr3, HS3.out⟩
  · have hge : ¬ (65536 : Int) ≤ v := by omega
    have e3 : IntKind.i64.wrap v = v := IntWalk.i64_in _ (by omega)
    have e4 : IntKind.i64.wrap (v + 1) = v + 1 := IntWalk.i64_in _ (by omega)
    have HS2 : Hid (∀ u, u = (if c1 = 0 then v + 1 else 0) → St 0 n (ofs z p) p c q u p1 c1 q1) := Lib.hid fun u hu => HS.out.test (bad := fun x => 65535 < x) (r := fun x => x + 1) (by decide) (.inr ⟨hbig, hu, rfl, rfl⟩)
    by_cases hc1 : c1 = 0
    · have hcb : (c1 == 0) = true := by simpa using hc1
      have HS3 := Lib.hid (HS2.out (v + 1) (by rw [if_pos hc1]))
      clear hc1 HS HS2
      go_wp2_with fail
      refine (good_any _ _ _ _ _ _ hr1).mono ?_
      rintro e w3 ⟨rfl, hb3⟩
      rw [hcb]
      have hk3 := hk1.trans (Kp.of_below hb3)
      have hr3 := hr1.below hb3
      clear hr1 hk1 hb3
      go_wp2
      go_ret
      exact ⟨_, _, _, _, rfl, hk3, hr3, HS3.out⟩
    · have hcb : (c1 == 0) = false := by simpa using hc1
      have HS3 := Lib.hid (HS2.out 0 (by rw [if_neg hc1]))
      clear hc1 HS HS2
      go_wp2_with fail
      refine (good_any _ _ _ _ _ _ hr1).mono ?_
      rintro e w3 ⟨rfl, hb3⟩
      rw [hcb]
      have hk3 := hk1.trans (Kp.of_below hb3)
      have hr3 := hr1.below hb3
      clear hr1 hk1 hb3
      go_wp2
      go_ret
      exact ⟨_, _, _, _, rfl, hk3, hr3, HS3.out⟩

/-- What Read hands back: the token's bytes are a row of the call's own. -/
def TRdPost (b : Nat) (s : Value) (n : Nat) (g : Rs Tk) (p c q : Int) (w : World) (e : Ending) (w' : World) : Prop :=
  ∃ v t p' c' q', e = .returned (.agg #[v, .int .i64 t.2.1, .int .i64 t.2.2]) ∧ Own w' w.heap.size v t.1 ∧ Kp b w w' ∧ IsRd w' b s p' c' q' ∧ St tk0 n g p c q t p' c' q'
theorem hd_cp {n : Nat} {z : List Int} {p c q : Int} {cp : Bool} {k p' c' q' : Int} (h : St (false, 0) n (hd z p) p c q (cp, k) p' c' q') : c' ≠ 0 → cp = false ∧ k = 0 := fun hc => by
  have := h.nil hc
  injection this with e1 e2
  exact ⟨e1, e2⟩
theorem trb_run (z : List Int) (k p1 : Int) : trb z (false, k) p1 = (tk z k p1).bind tk0 fun y p2 => ((y, 0, 0), p2, 0, 0) := rfl
theorem trb_cpy (z : List Int) (k p1 : Int) : trb z (true, k) p1 = (ofs z p1).bind tk0 fun o p2 => (([], o, k), p2, 0, 0) := rfl
theorem St.fin {α β : Type} {d1 : α} {d : β} {n : Nat} {g : Rs α} {r : α → β} {p c q : Int} {v : α} {p1 c1 q1 : Int} (h : St d1 n g p c q v p1 c1 q1) :
    St d n (g.bind d fun x p2 => (r x, p2, 0, 0)) p c q (if c1 = 0 then r v else d) p1 c1 q1 := by
  have hp := h.place
  refine h.bind ?_
  by_cases hc : c1 = 0
  · subst hc
    rw [if_pos rfl]
    exact St.done rfl hp.1 hp.2
  · rw [if_neg hc]
    exact St.stay hp.1 hp.2 hc


end Go.Proofs.Ytmflnnfgkcmlhaa.Cur

namespace Go.Proofs.Ytmflnnfgkcmlhaa.Cur
open Go.RowKit Mem
set_option linter.unusedVariables false

theorem tr_bad {n : Nat} {z : List Int} {p c q v p1 c1 q1 : Int} (h : St 0 n (vg z p) p c q v p1 c1 q1) (hc : c1 ≠ 0) : St tk0 n (tr z p) p c q tk0 p1 c1 q1 :=
  (h.bind (d := (false, 0)) (f := fun x p1 => if 1048576 < (hdv x).2 then ((false, 0), 0, 2, p) else (hdv x, p1, 0, 0)) (St.stay h.place.1 h.place.2 hc)).bind (f := trb z) (St.stay h.place.1 h.place.2 hc)
theorem hd_ok {n : Nat} {z : List Int} {p c q v p1 q1 : Int} (h : St 0 n (vg z p) p c q v p1 0 q1) (hb : ¬ 1048576 < (hdv v).2) : St (false, 0) n (hd z p) p c q (hdv v) p1 0 q1 := by
  have := h.test (α := Bool × Int) (d := (false, 0)) (bad := fun x => 1048576 < (hdv x).2) (C := 2) (P := p) (r := hdv) (by decide) (.inr ⟨hb, by rw [if_pos rfl], rfl, rfl⟩)
  exact this
theorem tr_long {n : Nat} {z : List Int} {p c q v p1 c1 q1 c2 q2 : Int} (h : St 0 n (vg z p) p c q v p1 c1 q1) (hb : 1048576 < (hdv v).2) (hf : FailSt c1 q1 2 p c2 q2) : St tk0 n (tr z p) p c q tk0 p1 c2 q2 := by
  have h2 : St (false, 0) n (hd z p) p c q (false, 0) p1 c2 q2 := h.test (bad := fun x => 1048576 < (hdv x).2) (r := hdv) (by decide) (.inl ⟨hb, rfl, hf⟩)
  exact h2.bind (f := trb z) (St.stay h.place.1 h.place.2 (hf.ne (by decide)))

/-- What the document's Read hands back. -/
def RTRdPost (s : Value) (n : Nat) (g : Rs Tk) (p c q : Int) (w : World) (e : Ending) (w' : World) : Prop :=
  ∃ v t p' c' q', e = .returned (.tuple #[cv s p' c' q', .agg #[v, .int .i64 t.2.1, .int .i64 t.2.2]]) ∧ Own w' w.heap.size v t.1 ∧ Below w.heap.size w w' ∧ St tk0 n g p c q t p' c' q'


set_option maxRecDepth 100000 in
set_option maxHeartbeats 4000000 in
theorem rtread_any (a : Option Addr) (n m : Nat) (z : List Int) (p c q : Int) (w : World) (hz : Bs w a n z) (ha : a = none → m = 0) (h0 : 0 ≤ p) (h1 : p ≤ n) (hm : n ≤ m) (hn : n ≤ 1000000) (hby : ∀ x ∈ z, 0 ≤ x ∧ x < 256) :
    Calls Try.prog 42 #[cv (.slice a n m) p c q] w (RTRdPost (.slice a n m) n (tr z p) p c q w) := by
  have HBY := Lib.hid hby
  have HA := Lib.hid ha
  clear hby ha
  go_enter Try.func42, Try.ntmps42
  go_wp2_with fail
  refine (rread_any _ _ _ _ _ _ _ _ (hz.below (below_three _ _ _ _)) h0 h1 hm hn HBY.out).mono ?_
  rintro e w1 ⟨x, p1, c1, q1, rfl, hb1, hs1⟩
  obtain ⟨hC, hR1, hR2, hbd⟩ := three_new hb1
  have hst := hs1.st hz.1 h0 h1 HBY.out
  obtain ⟨x0, x1⟩ := rd_lt hs1 hz.1 h0 h1 HBY.out
  obtain ⟨p10, p11⟩ := hst.place
  have HS := Lib.hid hst
  have hlt1 := hR2.lt
  replace hbd := hbd.alloc hbd.size (.cells (cvs (.slice a n m) p1 c1 q1) 61)
  replace hR1 := hR1.alloc (.cells (cvs (.slice a n m) p1 c1 q1) 61)
  replace hR2 := hR2.alloc (.cells (cvs (.slice a n m) p1 c1 q1) 61)
  replace hC := hC.alloc (.cells (cvs (.slice a n m) p1 c1 q1) 61)
  have hD := Blk.new w1 (cvs (.slice a n m) p1 c1 q1) 61
  clear hs1 hst hb1
  obtain ⟨d0, d1, d2, d3⟩ := hD.c4
  obtain ⟨kk0, kk1, kk2, kk3⟩ := hC.c4
  by_cases hc1 : c1 = 0
  · have hcb : (c1 != 0) = false := by simpa using hc1
    subst hc1
    have hm0 : 0 ≤ x % 2 ∧ x % 2 < 2 := by omega
    by_cases hcp : x % 2 = 1
    · have hcb1 : (x % 2 == 0) = false := by simp; omega
      have HV : Hid (hdv x = (true, x / 2 + 4)) := Lib.hid (by unfold hdv; rw [if_pos hcp])
      by_cases hbig : 1048572 < x / 2
      · have HF : Hid (∀ c2 q2, FailSt 0 q1 2 p c2 q2 → St tk0 n (tr z p) p c q tk0 p1 c2 q2) := Lib.hid fun c2 q2 hf => tr_long HS.out (by rw [HV.out]; show 1048576 < x / 2 + 4; omega) hf
        clear hcp hm0 HS HV
        go_wp2_with fail
        refine (rfail_any _ _ _ _ _ _ _ _ _).mono ?_
        rintro e w2 ⟨c2, q2, rfl, hb2, hf⟩
        have HE := Lib.hid (HF.out _ _ hf)
        replace hR1 := hR1.below hb2
        replace hR2 := hR2.below hb2
        replace hbd := hbd.trans (hb2.mono hbd.size)
        clear hf hb2 hC hD d0 d1 d2 d3 kk0 kk1 kk2 kk3
        obtain ⟨r0, r1, r2, r3⟩ := hR1.c4
        obtain ⟨g0, g1, g2, g3⟩ := hR1.f4
        obtain ⟨s0, s1, s2⟩ := hR2.c3
        have f0 := hR2.free 0
        have f1 := hR2.free 1
        have f2 := hR2.free 2
        have HOE := Lib.hid ((Own.nil w2 w2.heap.size))
        have HLE := Lib.hid ((hR2.lt))
        go_wp2
        refine bodyPost_ret (v := .tuple #[cv (.slice a n m) (p1) (c2) (q2), .agg #[Value.slice none 0 0, .int .i64 (0), .int .i64 (0)]]) (by simp [results, Try.results42, go_sem, r0, r1, r2, r3, s0, s1, s2]) rfl ⟨Value.slice none 0 0, ([], 0, 0), _, _, _, rfl, ?_, ?_, HE.out⟩
        · refine Own.base (B := w2.heap.size) ?_ (fun g hg => by have := Own.ge HOE.out g hg; have := HLE.out; omega)
          iterate 7 (refine Own.far ?_ (by have := HLE.out; simp <;> omega) _)
          exact HOE.out
        · iterate 7 (refine Below.setCell ?_ (by simp; try omega) _)
          exact hbd
      · have HH : Hid (St (false, 0) n (hd z p) p c q (true, x / 2 + 4) p1 0 q1) := Lib.hid (by have := hd_ok HS.out (by rw [HV.out]; show ¬ 1048576 < x / 2 + 4; omega); rw [HV.out] at this; exact this)
        clear hcp hm0 HS HV
        have e3 : IntKind.i64.wrap (x / 2) = x / 2 := IntWalk.i64_in _ (by omega)
        have e4 : IntKind.i64.wrap (x / 2 + 4) = x / 2 + 4 := IntWalk.i64_in _ (by omega)
        go_wp2_with fail
        refine (rread_any _ _ _ _ _ _ _ _ (hz.below hbd) p10 p11 hm hn HBY.out).mono ?_
        rintro e w2 ⟨y, p2, c2, q2, rfl, hb2, hs2⟩
        have hst2 := hs2.st hz.1 p10 p11 HBY.out
        obtain ⟨y0, y1⟩ := rd_lt hs2 hz.1 p10 p11 HBY.out
        have HS2 := Lib.hid hst2
        have HT : Hid (∀ u c3 q3, St 0 n (ofs z p1) p1 0 q1 u p2 c3 q3 → St tk0 n (tr z p) p c q (if c3 = 0 then ([], u, x / 2 + 4) else tk0) p2 c3 q3) := Lib.hid (fun u c3 q3 h => HH.out.bind (f := trb z) (by rw [trb_cpy]; exact h.fin (r := fun o => ([], o, x / 2 + 4))))
        replace hR1 := hR1.below hb2
        replace hR2 := hR2.below hb2
        replace hD := hD.below hb2
        replace hbd := hbd.trans (hb2.mono hbd.size)
        clear hb2 hC d0 d1 d2 d3 kk0 kk1 kk2 kk3 hs2 hst2 HH
        replace hbd := hbd.alloc hbd.size (.cells (cvs (.slice a n m) p2 c2 q2) 61)
        replace hR1 := hR1.alloc (.cells (cvs (.slice a n m) p2 c2 q2) 61)
        replace hR2 := hR2.alloc (.cells (cvs (.slice a n m) p2 c2 q2) 61)
        replace hD := hD.alloc (.cells (cvs (.slice a n m) p2 c2 q2) 61)
        have hE := Blk.new w2 (cvs (.slice a n m) p2 c2 q2) 61
        obtain ⟨d0, d1, d2, d3⟩ := hD.c4
        obtain ⟨kk0, kk1, kk2, kk3⟩ := hE.c4
        by_cases hc2 : c2 = 0
        · have hcb2 : (c2 != 0) = false := by simpa using hc2
          by_cases hbig2 : 65535 < y
          · have HF : Hid (∀ c3 q3, FailSt c2 q2 10 p1 c3 q3 → St tk0 n (tr z p) p c q tk0 p2 c3 q3) := Lib.hid fun c3 q3 hf => by
              have := HT.out 0 c3 q3 (HS2.out.test (bad := fun x => 65535 < x) (r := fun x => x + 1) (by decide) (.inl ⟨hbig2, rfl, hf⟩))
              rw [if_neg (hf.ne (by decide))] at this
              exact this
            clear hc2 HT HS2
            go_wp2_with fail
            refine (rfail_any _ _ _ _ _ _ _ _ _).mono ?_
            rintro e w3 ⟨c3, q3, rfl, hb3, hf⟩
            have HE := Lib.hid (HF.out _ _ hf)
            replace hR1 := hR1.below hb3
            replace hR2 := hR2.below hb3
            replace hbd := hbd.trans (hb3.mono hbd.size)
            clear hf hb3 hE hD d0 d1 d2 d3 kk0 kk1 kk2 kk3
            obtain ⟨r0, r1, r2, r3⟩ := hR1.c4
            obtain ⟨g0, g1, g2, g3⟩ := hR1.f4
            obtain ⟨s0, s1, s2⟩ := hR2.c3
            have f0 := hR2.free 0
            have f1 := hR2.free 1
            have f2 := hR2.free 2
            have HOE := Lib.hid ((Own.nil w3 w3.heap.size))
            have HLE := Lib.hid ((hR2.lt))
            go_wp2
            refine bodyPost_ret (v := .tuple #[cv (.slice a n m) (p2) (c3) (q3), .agg #[Value.slice none 0 0, .int .i64 (0), .int .i64 (0)]]) (by simp [results, Try.results42, go_sem, r0, r1, r2, r3, s0, s1, s2]) rfl ⟨Value.slice none 0 0, ([], 0, 0), _, _, _, rfl, ?_, ?_, HE.out⟩
            · refine Own.base (B := w3.heap.size) ?_ (fun g hg => by have := Own.ge HOE.out g hg; have := HLE.out; omega)
              iterate 7 (refine Own.far ?_ (by have := HLE.out; simp <;> omega) _)
              exact HOE.out
            · iterate 7 (refine Below.setCell ?_ (by simp; try omega) _)
              exact hbd
          · have e5 : IntKind.i64.wrap y = y := IntWalk.i64_in _ (by omega)
            have e6 : IntKind.i64.wrap (y + 1) = y + 1 := IntWalk.i64_in _ (by omega)
            have HE : Hid (St tk0 n (tr z p) p c q ([], y + 1, x / 2 + 4) p2 c2 q2) := Lib.hid (by
              have := HT.out (y + 1) c2 q2 (HS2.out.test (bad := fun x => 65535 < x) (r := fun x => x + 1) (C := 10) (P := p1) (by decide) (.inr ⟨hbig2, by rw [if_pos hc2], rfl, rfl⟩))
              rw [if_pos hc2] at this
              exact this)
            have hlw := hR2.lt
            clear hc2 HT HS2 hD hE
            obtain ⟨r0, r1, r2, r3⟩ := hR1.c4
            obtain ⟨g0, g1, g2, g3⟩ := hR1.f4
            obtain ⟨s0, s1, s2⟩ := hR2.c3
            have f0 := hR2.free 0
            have f1 := hR2.free 1
            have f2 := hR2.free 2
            have HOE := Lib.hid ((Own.nil (w2.alloc (.cells (cvs (.slice a n m) p2 c2 q2) 61)) (w.heap.size + 1 + 1 + 1)))
            have HLE := Lib.hid ((Nat.lt_succ_self (w.heap.size + 1 + 1)))
            go_wp2
            refine bodyPost_ret (v := .tuple #[cv (.slice a n m) (p2) (c2) (q2), .agg #[Value.slice none 0 0, .int .i64 (y + 1), .int .i64 (x / 2 + 4)]]) (by simp [results, Try.results42, go_sem, r0, r1, r2, r3, s0, s1, s2]) rfl ⟨Value.slice none 0 0, ([], y + 1, x / 2 + 4), _, _, _, rfl, ?_, ?_, HE.out⟩
            · refine Own.base (B := w.heap.size + 1 + 1 + 1) ?_ (fun g hg => by have := Own.ge HOE.out g hg; have := HLE.out; omega)
              iterate 7 (refine Own.far ?_ (by have := HLE.out; simp <;> omega) _)
              exact HOE.out
            · iterate 7 (refine Below.setCell ?_ (by simp; try omega) _)
              exact hbd
        · have hcb2 : (c2 != 0) = true := by simpa using hc2
          have HE : Hid (St tk0 n (tr z p) p c q ([], 0, 0) p2 c2 q2) := Lib.hid (by
            have hy := HS2.out.nil hc2
            have := HT.out 0 c2 q2 (HS2.out.test (bad := fun x => 65535 < x) (r := fun x => x + 1) (C := 10) (P := p1) (by decide) (.inr ⟨by rw [hy]; decide, by rw [if_neg hc2], rfl, rfl⟩))
            rw [if_neg hc2] at this
            exact this)
          have hlw := hR2.lt
          clear hc2 HT HS2 hD d0 d1 d2 d3 hE
          obtain ⟨r0, r1, r2, r3⟩ := hR1.c4
          obtain ⟨g0, g1, g2, g3⟩ := hR1.f4
          obtain ⟨s0, s1, s2⟩ := hR2.c3
          have f0 := hR2.free 0
          have f1 := hR2.free 1
          have f2 := hR2.free 2
          have HOE := Lib.hid ((Own.nil (w2.alloc (.cells (cvs (.slice a n m) p2 c2 q2) 61)) (w.heap.size + 1 + 1 + 1)))
          have HLE := Lib.hid ((Nat.lt_succ_self (w.heap.size + 1 + 1)))
          go_wp2
          refine bodyPost_ret (v := .tuple #[cv (.slice a n m) (p2) (c2) (q2), .agg #[Value.slice none 0 0, .int .i64 (0), .int .i64 (0)]]) (by simp [results, Try.results42, go_sem, r0, r1, r2, r3, s0, s1, s2]) rfl ⟨Value.slice none 0 0, ([], 0, 0), _, _, _, rfl, ?_, ?_, HE.out⟩
          · refine Own.base (B := w.heap.size + 1 + 1 + 1) ?_ (fun g hg => by have := Own.ge HOE.out g hg; have := HLE.out; omega)
            iterate 7 (refine Own.far ?_ (by have := HLE.out; simp <;> omega) _)
            exact HOE.out
          · iterate 7 (refine Below.setCell ?_ (by simp; try omega) _)
            exact hbd
    · have hce : x % 2 = 0 := by omega
      have hcb1 : (x % 2 == 0) = true := by simpa using hce
      have HV : Hid (hdv x = (false, x / 2 + 1)) := Lib.hid (by unfold hdv; rw [if_neg hcp])
      have e2 : IntKind.u64.wrap (x / 2 + 1) = x / 2 + 1 := IntWalk.u64_in _ (by omega)
      by_cases hbig : 1048576 < x / 2 + 1
      · have HF : Hid (∀ c2 q2, FailSt 0 q1 2 p c2 q2 → St tk0 n (tr z p) p c q tk0 p1 c2 q2) := Lib.hid fun c2 q2 hf => tr_long HS.out (by rw [HV.out]; exact hbig) hf
        clear hcp hce hm0 HS HV
        go_wp2_with fail
        refine (rfail_any _ _ _ _ _ _ _ _ _).mono ?_
        rintro e w2 ⟨c2, q2, rfl, hb2, hf⟩
        have HE := Lib.hid (HF.out _ _ hf)
        replace hR1 := hR1.below hb2
        replace hR2 := hR2.below hb2
        replace hbd := hbd.trans (hb2.mono hbd.size)
        clear hf hb2 hC hD d0 d1 d2 d3 kk0 kk1 kk2 kk3
        obtain ⟨r0, r1, r2, r3⟩ := hR1.c4
        obtain ⟨g0, g1, g2, g3⟩ := hR1.f4
        obtain ⟨s0, s1, s2⟩ := hR2.c3
        have f0 := hR2.free 0
        have f1 := hR2.free 1
        have f2 := hR2.free 2
        have HOE := Lib.hid ((Own.nil w2 w2.heap.size))
        have HLE := Lib.hid ((hR2.lt))
        go_wp2
        refine bodyPost_ret (v := .tuple #[cv (.slice a n m) (p1) (c2) (q2), .agg #[Value.slice none 0 0, .int .i64 (0), .int .i64 (0)]]) (by simp [results, Try.results42, go_sem, r0, r1, r2, r3, s0, s1, s2]) rfl ⟨Value.slice none 0 0, ([], 0, 0), _, _, _, rfl, ?_, ?_, HE.out⟩
        · refine Own.base (B := w2.heap.size) ?_ (fun g hg => by have := Own.ge HOE.out g hg; have := HLE.out; omega)
          iterate 7 (refine Own.far ?_ (by have := HLE.out; simp <;> omega) _)
          exact HOE.out
        · iterate 7 (refine Below.setCell ?_ (by simp; try omega) _)
          exact hbd
      · have e3 : IntKind.i64.wrap (x / 2) = x / 2 := IntWalk.i64_in _ (by omega)
        have e4 : IntKind.i64.wrap (x / 2 + 1) = x / 2 + 1 := IntWalk.i64_in _ (by omega)
        have HH : Hid (St (false, 0) n (hd z p) p c q (false, x / 2 + 1) p1 0 q1) := Lib.hid (by have := hd_ok HS.out (by rw [HV.out]; exact hbig); rw [HV.out] at this; exact this)
        clear hcp hce hm0 HS HV
        go_wp2_with fail
        refine (rtake_own _ _ _ _ _ _ _ _ _ (hz.below hbd) HA.out p10 p11 hm hn).mono ?_
        rintro e w2 ⟨ok, p2, c2, q2, A2, k2, m2, rfl, hb2, hs2, ho2⟩
        have hst2 := hs2.st hz.1 p10 p11
        generalize (if ok = true then piece z p1.toNat (p1 + (x / 2 + 1)).toNat else []) = y at *
        have HT : Hid (St tk0 n (tr z p) p c q (if c2 = 0 then (y, 0, 0) else tk0) p2 c2 q2) := Lib.hid (HH.out.bind (f := trb z) (by rw [trb_run]; exact hst2.fin (r := fun y => (y, 0, 0))))
        have hlw : w.heap.size + 2 < (w1.alloc (.cells (cvs (.slice a n m) p1 0 q1) 61)).heap.size := hR2.lt
        replace hR1 := hR1.below hb2
        replace hR2 := hR2.below hb2
        replace hbd := hbd.trans (hb2.mono hbd.size)
        have hlw2 := hR2.lt
        clear hb2 hC hD d0 d1 d2 d3 kk0 kk1 kk2 kk3 hs2 hst2
        generalize (w1.alloc (.cells (cvs (.slice a n m) p1 0 q1) 61)).heap.size = B2 at *
        replace hbd := hbd.alloc hbd.size (.cells (cvs (.slice a n m) p2 c2 q2) 61)
        replace hR1 := hR1.alloc (.cells (cvs (.slice a n m) p2 c2 q2) 61)
        replace hR2 := hR2.alloc (.cells (cvs (.slice a n m) p2 c2 q2) 61)
        replace ho2 := ho2.below (below_one w2 (.cells (cvs (.slice a n m) p2 c2 q2) 61))
        have hD := Blk.new w2 (cvs (.slice a n m) p2 c2 q2) 61
        obtain ⟨d0, d1, d2, d3⟩ := hD.c4
        by_cases hc2 : c2 = 0
        · have hcb2 : (c2 != 0) = false := by simpa using hc2
          have HE : Hid (St tk0 n (tr z p) p c q (y, 0, 0) p2 c2 q2) := Lib.hid (by have := HT.out; rw [if_pos hc2] at this; exact this)
          clear hc2 HT
          obtain ⟨r0, r1, r2, r3⟩ := hR1.c4
          obtain ⟨g0, g1, g2, g3⟩ := hR1.f4
          obtain ⟨s0, s1, s2⟩ := hR2.c3
          have f0 := hR2.free 0
          have f1 := hR2.free 1
          have f2 := hR2.free 2
          have HOE := Lib.hid (ho2)
          have HLE := Lib.hid (hlw)
          go_wp2
          refine bodyPost_ret (v := .tuple #[cv (.slice a n m) (p2) (c2) (q2), .agg #[Value.slice A2 k2 m2, .int .i64 (0), .int .i64 (0)]]) (by simp [results, Try.results42, go_sem, r0, r1, r2, r3, s0, s1, s2]) rfl ⟨Value.slice A2 k2 m2, (y, 0, 0), _, _, _, rfl, ?_, ?_, HE.out⟩
          · refine Own.base (B := B2) ?_ (fun g hg => by have := Own.ge HOE.out g hg; have := HLE.out; omega)
            iterate 7 (refine Own.far ?_ (by have := HLE.out; simp <;> omega) _)
            exact HOE.out
          · iterate 7 (refine Below.setCell ?_ (by simp; try omega) _)
            exact hbd
        · have hcb2 : (c2 != 0) = true := by simpa using hc2
          have HE : Hid (St tk0 n (tr z p) p c q ([], 0, 0) p2 c2 q2) := Lib.hid (by have := HT.out; rw [if_neg hc2] at this; exact this)
          clear hc2 HT
          obtain ⟨r0, r1, r2, r3⟩ := hR1.c4
          obtain ⟨g0, g1, g2, g3⟩ := hR1.f4
          obtain ⟨s0, s1, s2⟩ := hR2.c3
          have f0 := hR2.free 0
          have f1 := hR2.free 1
          have f2 := hR2.free 2
          have HOE := Lib.hid ((Own.nil (w2.alloc (.cells (cvs (.slice a n m) p2 c2 q2) 61)) B2))
          have HLE := Lib.hid (hlw)
          go_wp2
          refine bodyPost_ret (v := .tuple #[cv (.slice a n m) (p2) (c2) (q2), .agg #[Value.slice none 0 0, .int .i64 (0), .int .i64 (0)]]) (by simp [results, Try.results42, go_sem, r0, r1, r2, r3, s0, s1, s2]) rfl ⟨Value.slice none 0 0, ([], 0, 0), _, _, _, rfl, ?_, ?_, HE.out⟩
          · refine Own.base (B := B2) ?_ (fun g hg => by have := Own.ge HOE.out g hg; have := HLE.out; omega)
            iterate 7 (refine Own.far ?_ (by have := HLE.out; simp <;> omega) _)
            exact HOE.out
          · iterate 7 (refine Below.setCell ?_ (by simp; try omega) _)
            exact hbd
  · have hcb : (c1 != 0) = true := by simpa using hc1
    have HE := Lib.hid (tr_bad HS.out hc1)
    clear hc1 HS
    obtain ⟨r0, r1, r2, r3⟩ := hR1.c4
    obtain ⟨g0, g1, g2, g3⟩ := hR1.f4
    obtain ⟨s0, s1, s2⟩ := hR2.c3
    have f0 := hR2.free 0
    have f1 := hR2.free 1
    have f2 := hR2.free 2
    have HOE := Lib.hid ((Own.nil (w1.alloc (.cells (cvs (.slice a n m) p1 c1 q1) 61)) w1.heap.size))
    have HLE := Lib.hid (hlt1)
    go_wp2
    refine bodyPost_ret (v := .tuple #[cv (.slice a n m) (p1) (c1) (q1), .agg #[Value.slice none 0 0, .int .i64 (0), .int .i64 (0)]]) (by simp [results, Try.results42, go_sem, r0, r1, r2, r3, s0, s1, s2]) rfl ⟨Value.slice none 0 0, ([], 0, 0), _, _, _, rfl, ?_, ?_, HE.out⟩
    · refine Own.base (B := w1.heap.size) ?_ (fun g hg => by have := Own.ge HOE.out g hg; have := HLE.out; omega)
      iterate 7 (refine Own.far ?_ (by have := HLE.out; simp <;> omega) _)
      exact HOE.out
    · iterate 7 (refine Below.setCell ?_ (by simp; try omega) _)
      exact hbd
end Go.Proofs.Ytmflnnfgkcmlhaa.Cur

namespace Go.Proofs.Ytmflnnfgkcmlhaa.Cur
open Go.RowKit Mem
set_option linter.unusedVariables false

/-- Tokens from place p on, behind those that were read. -/
def tgo (z : List Int) : Nat → Int → List Tk → Rs (List Tk)
  | 0, p, acc => (acc, p, 0, 0)
  | k + 1, p, acc => if (z.length : Int) ≤ p then (acc, p, 0, 0) else (tr z p).bind [] fun t p1 => tgo z k p1 (acc ++ [t])
def tg (z : List Int) : Rs (List Tk) := tgo z (z.length + 1) 0 []
/-- What Get hands back. -/
def tgv (z : List Int) : List Tk × Int × Int := if (tg z).2.2.1 = 0 then ((tg z).1, 0, 0) else ([], (tg z).2.2.1, (tg z).2.2.2)

theorem ofs_ok {z : List Int} {p : Int} (h : (ofs z p).2.2.1 = 0) : (vg z p).2.2.1 = 0 ∧ (vg z p).1 ≤ 65535 ∧ ofs z p = ((vg z p).1 + 1, (vg z p).2.1, 0, 0) := by
  obtain ⟨h1, h2⟩ := Rs.bind_ok h
  unfold ofs at h ⊢
  rw [h2] at h ⊢
  split at h
  · exact absurd h (by show ¬ (10 : Int) = 0; decide)
  · rename_i hb; rw [if_neg hb]; exact ⟨h1, by omega, rfl⟩
theorem hd_ok' {z : List Int} {p : Int} (h : (hd z p).2.2.1 = 0) : (vg z p).2.2.1 = 0 ∧ (hdv (vg z p).1).2 ≤ 1048576 ∧ hd z p = (hdv (vg z p).1, (vg z p).2.1, 0, 0) := by
  obtain ⟨h1, h2⟩ := Rs.bind_ok h
  unfold hd at h ⊢
  rw [h2] at h ⊢
  split at h
  · exact absurd h (by show ¬ (2 : Int) = 0; decide)
  · rename_i hb; rw [if_neg hb]; exact ⟨h1, by omega, rfl⟩
theorem piece_add {z : List Int} {a b c : Nat} (h1 : a ≤ b) (h2 : b ≤ c) : piece z a b ++ piece z b c = piece z a c := by
  unfold piece
  have : z.drop b = (z.drop a).drop (b - a) := by rw [List.drop_drop]; congr 1; omega
  rw [this, ← List.take_add]
  congr 1
  omega
/-- A token that is read: where it ends; that it is one; that it is put so again. -/
theorem tr_once {z : List Int} {p : Int} (hby : ∀ x ∈ z, 0 ≤ x ∧ x < 256) (h0 : 0 ≤ p) (h1 : p ≤ z.length) (h : (tr z p).2.2.1 = 0) :
    p + 1 ≤ (tr z p).2.1 ∧ (tr z p).2.1 ≤ z.length ∧ tr z p = ((tr z p).1, (tr z p).2.1, 0, 0) ∧ tright (tr z p).1 = true ∧ tkok (tr z p).1 ∧ tby (tr z p).1 = piece z p.toNat (tr z p).2.1.toNat := by
  obtain ⟨g1, g2⟩ := Rs.bind_ok h
  obtain ⟨v1, v2, e1⟩ := hd_ok' g1
  have e : tr z p = trb z (hdv (vg z p).1) (vg z p).2.1 := by
    have : tr z p = trb z (hd z p).1 (hd z p).2.1 := g2
    rw [this, e1]
  obtain ⟨o1, o2, o3, o4, o5⟩ := vg_once hby h0 h1 v1
  rw [e] at h ⊢
  have hm : 0 ≤ (vg z p).1 % 2 ∧ (vg z p).1 % 2 < 2 := by omega
  by_cases hcp : (vg z p).1 % 2 = 1
  · have hv : hdv (vg z p).1 = (true, (vg z p).1 / 2 + 4) := by unfold hdv; rw [if_pos hcp]
    rw [hv] at h v2 ⊢
    simp only at v2
    rw [trb_cpy] at h ⊢
    obtain ⟨q1, q2⟩ := Rs.bind_ok h
    obtain ⟨w1, w2, f1⟩ := ofs_ok q1
    obtain ⟨u1, u2, u3, u4, u5⟩ := vg_once hby (by omega) o5 w1
    rw [q2, f1]
    have hc : tcpy 0 ((vg z (vg z p).2.1).1 + 1) ((vg z p).1 / 2 + 4) = true := by unfold tcpy; rw [decide_eq_true_eq]; omega
    have hr : trun 0 ((vg z (vg z p).2.1).1 + 1) ((vg z p).1 / 2 + 4) = false := by unfold trun; rw [decide_eq_false_iff_not]; omega
    refine ⟨by show p + 1 ≤ (vg z (vg z p).2.1).2.1; omega, u5, rfl, ?_, ?_, ?_⟩
    · unfold tright; simp only [List.length_nil]; rw [hc, Bool.or_true]
    · exact ⟨fun x hx => absurd hx (by simp), by simp only; omega, by simp only; omega⟩
    · unfold tby
      simp only [List.length_nil]
      rw [hr, if_neg (by simp), show 2 * ((vg z p).1 / 2 + 4) - 7 = (vg z p).1 by omega, show (vg z (vg z p).2.1).1 + 1 - 1 = (vg z (vg z p).2.1).1 by omega, o1, u1]
      exact piece_add (by omega) (by omega)
  · have hv : hdv (vg z p).1 = (false, (vg z p).1 / 2 + 1) := by unfold hdv; rw [if_neg hcp]
    rw [hv] at h v2 ⊢
    simp only at v2
    rw [trb_run] at h ⊢
    obtain ⟨q1, q2⟩ := Rs.bind_ok h
    obtain ⟨k1, k2, f1⟩ := tk_once (by omega) o5 q1
    rw [q2, f1]
    have hl : (piece z (vg z p).2.1.toNat ((vg z p).2.1 + ((vg z p).1 / 2 + 1)).toNat).length = ((vg z p).1 / 2 + 1).toNat := by rw [length_piece rfl (by omega)]; omega
    have hr : trun (piece z (vg z p).2.1.toNat ((vg z p).2.1 + ((vg z p).1 / 2 + 1)).toNat).length 0 0 = true := by unfold trun; rw [decide_eq_true_eq, hl]; omega
    refine ⟨by show p + 1 ≤ (vg z p).2.1 + ((vg z p).1 / 2 + 1); omega, by show (vg z p).2.1 + ((vg z p).1 / 2 + 1) ≤ _; omega, rfl, ?_, ?_, ?_⟩
    · unfold tright; simp only; rw [hr, Bool.true_or]
    · exact ⟨fun x hx => hby x (List.mem_of_mem_drop (List.mem_of_mem_take hx)), by simp only; omega, by simp only; omega⟩
    · unfold tby
      simp only
      rw [hr, if_pos rfl, hl, show 2 * ((((vg z p).1 / 2 + 1).toNat : Nat) : Int) - 2 = (vg z p).1 by omega, o1]
      exact piece_add (by omega) (by omega)

/-- In a row of cells lie these tokens; their bytes are rows of a call's own. -/
def TkV (w : World) (vs : List Value) (T : List Tk) : Prop :=
  vs.length = T.length * 3 ∧ ∀ i, i < T.length → ∃ v, vs[i * 3]? = some v ∧ vs[i * 3 + 1]? = some (.int .i64 (T.getD i tk0).2.1) ∧ vs[i * 3 + 2]? = some (.int .i64 (T.getD i tk0).2.2) ∧ Own w 0 v (T.getD i tk0).1
def TkOwn (w : World) (B : Nat) (v : Value) (T : List Tk) : Prop := ∃ vs, w.ownsRow B 33 3 v T.length vs ∧ TkV w vs T
theorem kindK : Kind 24 33 (.agg #[.slice none 0 0, .int .i64 0, .int .i64 0]) 3 40 := ⟨Try.underlying24, by kernel_rfl, rfl, by decide⟩
theorem TkOwn.nil (w : World) (B : Nat) : TkOwn w B (.slice none 0 0) [] := ⟨[], World.ownsRow_nil w B 33 3, rfl, fun i hi => absurd hi (by simp)⟩
theorem TkV.keep {w w' : World} {vs : List Value} {T : List Tk} (h : TkV w vs T) (hk : ∀ v z, Own w 0 v z → Own w' 0 v z) : TkV w' vs T :=
  ⟨h.1, fun i hi => by obtain ⟨v, a, b, c, d⟩ := h.2 i hi; exact ⟨v, a, b, c, hk _ _ d⟩⟩
theorem TkOwn.below {w w' : World} {B : Nat} {v : Value} {T : List Tk} (h : TkOwn w B v T) (hb : Below w.heap.size w w') : TkOwn w' B v T := by
  obtain ⟨vs, h1, h2⟩ := h
  exact ⟨vs, own_below h1 hb, h2.keep fun v z ho => ho.below hb⟩
theorem TkOwn.kp_blk {w w' : World} {B b : Nat} {v : Value} {T : List Tk} {cs : Array Value} {t : Nat} (h : TkOwn w B v T) (hr : Blk w b cs t) (h1 : t ≠ 5) (h2 : t ≠ 33 ∨ v.ownBlock ≠ some b) (hb : Kp b w w') : TkOwn w' B v T := by
  obtain ⟨vs, k1, k2⟩ := h
  refine ⟨vs, own_kp k1 hb ?_, k2.keep fun v z ho => own_kp ho hb (ho.ne_blk hr h1)⟩
  rcases h2 with h2 | h2
  · exact own_ne_blk k1 hr h2
  · exact h2
theorem TkOwn.base {w : World} {B B' : Nat} {v : Value} {T : List Tk} (h : TkOwn w B v T) (hB : ∀ g, v.ownBlock = some g → B' ≤ g) : TkOwn w B' v T := by
  obtain ⟨vs, k1, k2⟩ := h
  exact ⟨vs, own_base k1 hB, k2⟩
theorem TkOwn.ge {w : World} {B : Nat} {v : Value} {T : List Tk} (h : TkOwn w B v T) : ∀ g, v.ownBlock = some g → B ≤ g := by
  obtain ⟨vs, k1, _⟩ := h
  exact own_ge k1
theorem TkOwn.lt {w : World} {B : Nat} {v : Value} {T : List Tk} (h : TkOwn w B v T) : ∀ g, v.ownBlock = some g → g < w.heap.size := by
  obtain ⟨vs, k1, _⟩ := h
  exact fun g hg => (World.ownsRow.lt k1 g hg).2
theorem TkOwn.slice {w : World} {B : Nat} {v : Value} {T : List Tk} (h : TkOwn w B v T) : ∃ A c, v = .slice A T.length c := by
  obtain ⟨vs, k1, _⟩ := h
  obtain ⟨A, c, e, _⟩ := own_slice k1
  exact ⟨A, c, e⟩
/-- A row of bytes of the call's own: where it lies, how much room it has. -/
theorem Own.parts {w : World} {B : Nat} {v : Value} {z : List Int} (h : Own w B v z) : ∃ A c, v = .slice A z.length c ∧ Bs w A z.length z ∧ (A = none → c = 0) ∧ z.length ≤ c := by
  obtain ⟨A, c, rfl⟩ := h.slice
  refine ⟨A, c, rfl, h.bs.2, ?_, h.cap⟩
  intro e
  subst e
  rcases h.2 with ⟨e, _⟩ | ⟨g, cap, cur, e, _⟩
  · injection e
  · injection e with e; cases e
theorem TkOwn.tks {w : World} {B n c : Nat} {A : Option Addr} {T : List Tk} (h : TkOwn w B (.slice A n c) T) : n = T.length ∧ n ≤ c ∧ (A = none → c = 0) ∧ TksL w A n T := by
  obtain ⟨vs, k1, k2⟩ := h
  obtain ⟨h1, h2, h3, h4⟩ := own_rw k1 rfl
  refine ⟨h1, by omega, h3, h1.symm, fun i hi => ?_⟩
  obtain ⟨b, o, e, hc⟩ := h4 (by rw [k2.1]; omega)
  obtain ⟨v, a0, a1, a2, ho⟩ := k2.2 i (by omega)
  obtain ⟨Ar, Cr, rfl, hbs, hn, hle⟩ := ho.parts
  refine ⟨b, o, Ar, _, Cr, e, ⟨hc _ _ a0, ?_, ?_, hbs⟩, hn, hle⟩
  · have := hc _ _ a1; rwa [← Nat.add_assoc] at this
  · have := hc _ _ a2; rwa [← Nat.add_assoc] at this
theorem own_far_own {w : World} {B B' e e' size size' n n' : Nat} {v v' : Value} {xs xs' : List Value} (h : w.ownsRow B e size v n xs) (h' : w.ownsRow B' e' size' v' n' xs') (he : e ≠ e') {g : Nat} (hg : v.ownBlock = some g) : v'.ownBlock ≠ some g := by
  rcases h.2 with ⟨rfl, _⟩ | ⟨k, cap, cur, rfl, _, hh, _⟩
  · simp [Value.ownBlock] at hg
  · have : k = g := by simpa [Value.ownBlock] using hg
    subst this
    rcases h'.2 with ⟨rfl, _⟩ | ⟨k', cap', cur', rfl, _, hh', _⟩
    · simp [Value.ownBlock]
    · intro e2
      have : k' = k := by simpa [Value.ownBlock] using e2
      subst this
      rw [hh] at hh'
      injection hh' with hh'
      injection hh' with _ hh'
      exact he hh'
/-- One more. -/
theorem TkOwn.snoc {w w' : World} {B : Nat} {v v' u : Value} {T : List Tk} {vs : List Value} {t : Tk} (h1 : w.ownsRow B 33 3 v T.length vs) (h2 : TkV w vs T) (hu : Own w 0 u t.1)
    (k1 : w'.ownsRow B 33 3 v' (T.length + 1) (vs ++ [u, .int .i64 t.2.1, .int .i64 t.2.2])) (k2 : w.grownBy w' v.ownBlock) : TkOwn w' B v' (T ++ [t]) := by
  have hko : ∀ x z, Own w 0 x z → Own w' 0 x z := fun x z ho => own_ks ho (Ks.of_grown (S := fun k => v.ownBlock = some k) k2 fun k e => e) fun g hg e => own_far_own h1 ho (by decide) e hg
  refine ⟨_, by rw [List.length_append]; exact k1, ?_, fun i hi => ?_⟩
  · rw [List.length_append, List.length_append, h2.1]; simp; omega
  · rw [List.length_append, List.length_singleton] at hi
    rcases Nat.lt_succ_iff_lt_or_eq.1 hi with h | rfl
    · obtain ⟨x, a0, a1, a2, ho⟩ := h2.2 i h
      have : (T ++ [t]).getD i tk0 = T.getD i tk0 := by rw [List.getD_eq_getElem?_getD, List.getElem?_append_left h, ← List.getD_eq_getElem?_getD]
      rw [this]
      have hl := h2.1
      exact ⟨x, by rw [List.getElem?_append_left (by omega)]; exact a0, by rw [List.getElem?_append_left (by omega)]; exact a1, by rw [List.getElem?_append_left (by omega)]; exact a2, hko _ _ ho⟩
    · have : (T ++ [t]).getD T.length tk0 = t := by rw [List.getD_eq_getElem?_getD, List.getElem?_append_right (Nat.le_refl _)]; simp
      rw [this]
      have hl := h2.1
      refine ⟨u, ?_, ?_, ?_, hko _ _ hu⟩
      · rw [List.getElem?_append_right (by omega), hl, Nat.sub_self]; rfl
      · rw [List.getElem?_append_right (by omega), hl, Nat.add_sub_cancel_left]; rfl
      · rw [List.getElem?_append_right (by omega), hl, Nat.add_sub_cancel_left]; rfl
end Go.Proofs.Ytmflnnfgkcmlhaa.Cur

namespace Go.Proofs.Ytmflnnfgkcmlhaa.Cur
open Go.RowKit Mem
set_option linter.unusedVariables false

theorem tgo_stop {z : List Int} {k : Nat} {p : Int} {acc : List Tk} (h : (z.length : Int) ≤ p) : tgo z k p acc = (acc, p, 0, 0) := by
  cases k with
  | zero => rfl
  | succ k => show (if (z.length : Int) ≤ p then _ else _) = _; rw [if_pos h]
theorem tgv_end {z : List Int} {k : Nat} {p : Int} {acc : List Tk} (e : tg z = tgo z k p acc) (h : (z.length : Int) ≤ p) : (acc, (0 : Int), (0 : Int)) = tgv z := by
  unfold tgv; rw [e, tgo_stop h]; rfl
theorem tgo_step {z : List Int} {k : Nat} {p : Int} {acc : List Tk} (h : p < z.length) : tgo z (k + 1) p acc = (tr z p).bind [] fun t p1 => tgo z k p1 (acc ++ [t]) := by
  show (if (z.length : Int) ≤ p then _ else _) = _; rw [if_neg (by omega)]
theorem tgv_bad {z : List Int} {k n : Nat} {p : Int} {acc : List Tk} {t : Tk} {p' c' q' : Int} (e : tg z = tgo z (k + 1) p acc) (h : p < z.length) (hs : St tk0 n (tr z p) p 0 0 t p' c' q') (hc : c' ≠ 0) : (([] : List Tk), c', q') = tgv z := by
  obtain ⟨_, _, ⟨h0, _⟩ | ⟨_, _, _, _, h0, _⟩ | ⟨_, h1, _, h2, h3⟩⟩ := hs
  · exact absurd rfl h0
  · exact absurd h0 hc
  · unfold tgv
    rw [e, tgo_step h]
    unfold Rs.bind
    rw [if_pos h1, h2, h3]
    show _ = if (tr z p).2.2.1 = 0 then _ else _
    rw [if_neg h1]
theorem tg_more {z : List Int} {k n : Nat} {p : Int} {acc : List Tk} {t : Tk} {p' q' : Int} (hby : ∀ x ∈ z, 0 ≤ x ∧ x < 256) (h0 : 0 ≤ p) (e : tg z = tgo z (k + 1) p acc) (h : p < z.length) (hs : St tk0 n (tr z p) p 0 0 t p' 0 q') :
    q' = 0 ∧ p + 1 ≤ p' ∧ tg z = tgo z k p' (acc ++ [t]) := by
  obtain ⟨_, g0, gv, gp, gq⟩ := hs.good
  obtain ⟨k1, k2, k3, _⟩ := tr_once hby h0 (by omega) g0
  subst gv
  subst gp
  exact ⟨gq, k1, by rw [e, tgo_step h, Rs.bind_of k3]⟩

/-- What Get hands back. -/
def TGPost (z : List Int) (w : World) (e : Ending) (w' : World) : Prop :=
  ∃ v T c q, e = .returned (.tuple #[v, .agg #[.int .i64 c, .int .i64 q]]) ∧ TkOwn w' w.heap.size v T ∧ Below w.heap.size w w' ∧ (T, c, q) = tgv z

theorem tok_made (w1 : World) (v x y : Value) :
    ∃ w2, w1.alloc (.cells #[v, x, y] 33) = w2 ∧ Blk w2 w1.heap.size #[v, x, y] 33 ∧ Below w1.heap.size w1 w2 := ⟨_, rfl, Blk.new _ _ _, below_one _ _⟩

def LG (n : Nat) (a : Option Addr) (z : List Int) (w : World) (gk : Nat) (v : Value) (wr : World) : Prop :=
  ∃ (k : Nat) (pk : Int) (acc : List Tk), TkOwn wr (w.heap.size + 2) v acc ∧ IsRd wr (w.heap.size + 1) (.slice a n n) pk 0 0 ∧ Blk wr w.heap.size #[.int .i64 0, .int .i64 0] 40 ∧ Below w.heap.size w wr ∧ 0 ≤ pk ∧ pk ≤ n ∧
    gk = (n - pk).toNat + 1 ∧ (acc.length : Int) ≤ pk ∧ Hid ((n : Int) - pk < k ∧ tg z = tgo z k pk acc)

end Go.Proofs.Ytmflnnfgkcmlhaa.Cur

namespace Go.Proofs.Ytmflnnfgkcmlhaa.Cur
open Go.RowKit Mem
set_option linter.unusedVariables false

def LR (n m : Nat) (a : Option Addr) (z : List Int) (w : World) (gk : Nat) (v : Value) (wr : World) : Prop :=
  ∃ (k : Nat) (pk : Int) (acc : List Tk), TkOwn wr (w.heap.size + 2) v acc ∧ Blk wr (w.heap.size + 1) (cvs (.slice a n m) pk 0 0) 61 ∧ Blk wr w.heap.size #[.int .i64 0, .int .i64 0] 40 ∧ Below w.heap.size w wr ∧ 0 ≤ pk ∧ pk ≤ n ∧
    gk = (n - pk).toNat + 1 ∧ (acc.length : Int) ≤ pk ∧ Hid ((n : Int) - pk < k ∧ tg z = tgo z k pk acc)

end Go.Proofs.Ytmflnnfgkcmlhaa.Cur

namespace Go.Proofs.Ytmflnnfgkcmlhaa.Cur
open Go.RowKit Mem
set_option linter.unusedVariables false

theorem tgo_stop' {z : List Int} {k : Nat} {p : Int} {acc : List Tk} (h : (z.length : Int) ≤ p) : tgo z k p acc = (acc, p, 0, 0) := by
  cases k with
  | zero => rfl
  | succ k => show (if (z.length : Int) ≤ p then _ else _) = _; rw [if_pos h]
theorem tgo_step' {z : List Int} {k : Nat} {p : Int} {acc : List Tk} (h : p < z.length) : tgo z (k + 1) p acc = (tr z p).bind [] fun t p1 => tgo z k p1 (acc ++ [t]) := by
  show (if (z.length : Int) ≤ p then _ else _) = _; rw [if_neg (by omega)]
def tcat (T : List Tk) : List Int := (T.map tby).flatten
theorem tbs_tcat (T : List Tk) : tbs T T.length = tcat T := by
  unfold tbs flat tcat
  rw [List.take_of_length_le (by simp)]
theorem tcat_append (S T : List Tk) : tcat (S ++ T) = tcat S ++ tcat T := by unfold tcat; rw [List.map_append, List.flatten_append]
theorem tcat_one (t : Tk) : tcat [t] = tby t := by simp [tcat]
theorem tby_pos (t : Tk) : 1 ≤ (tby t).length := by
  unfold tby
  split
  · rw [List.length_append, vz_length]; have := vsz_pos (2 * (t.1.length : Int) - 2); omega
  · rw [List.length_append, vz_length, vz_length]; have := vsz_pos (2 * t.2.2 - 7); omega
theorem tcat_len (T : List Tk) : T.length ≤ (tcat T).length := by
  induction T with
  | nil => simp
  | cons t T ih =>
    have : tcat (t :: T) = tby t ++ tcat T := by simp [tcat]
    rw [this, List.length_append, List.length_cons]
    have := tby_pos t
    omega
theorem tall_all {T : List Tk} (h : ∀ t ∈ T, tright t = true) : ∀ k, k ≤ T.length → tall T k = true := by
  intro k
  induction k with
  | zero => intro _; rfl
  | succ k ih =>
    intro hk
    have : tall T (k + 1) = (tall T k && tright (T.getD k tk0)) := rfl
    rw [this, ih (by omega), Bool.true_and]
    refine h _ ?_
    rw [List.getD_eq_getElem?_getD, List.getElem?_eq_getElem (by omega)]
    exact List.getElem_mem (by omega)
theorem tall_right {T : List Tk} {k : Nat} (h : tall T k = true) : ∀ j, j < k → tright (T.getD j tk0) = true := by
  induction k with
  | zero => intro j hj; omega
  | succ k ih =>
    have : tall T (k + 1) = (tall T k && tright (T.getD k tk0)) := rfl
    rw [this, Bool.and_eq_true] at h
    intro j hj
    rcases Nat.lt_succ_iff_lt_or_eq.1 hj with h1 | rfl
    · exact ih h.1 j h1
    · exact h.2

/-- Tokens that are read: they are some, and are put so again. -/
theorem tgo_once {z : List Int} (hby : ∀ x ∈ z, 0 ≤ x ∧ x < 256) : ∀ (k : Nat) (p : Int) (acc : List Tk), 0 ≤ p → p ≤ z.length → (z.length : Int) - p ≤ k → (∀ t ∈ acc, tright t = true ∧ tkok t) → tcat acc = z.take p.toNat → (tgo z k p acc).2.2.1 = 0 →
    (∀ t ∈ (tgo z k p acc).1, tright t = true ∧ tkok t) ∧ tcat (tgo z k p acc).1 = z := by
  intro k
  induction k with
  | zero =>
    intro p acc h0 h1 hk ha hc _
    refine ⟨ha, ?_⟩
    show tcat acc = z
    rw [hc, List.take_of_length_le (by omega)]
  | succ k ih =>
    intro p acc h0 h1 hk ha hc h
    by_cases hp : (z.length : Int) ≤ p
    · rw [tgo_stop' hp]
      refine ⟨ha, ?_⟩
      show tcat acc = z
      rw [hc, List.take_of_length_le (by omega)]
    · rw [tgo_step' (by omega)] at h ⊢
      obtain ⟨g1, g2⟩ := Rs.bind_ok h
      obtain ⟨k1, k2, k3, k4, k5, k6⟩ := tr_once hby h0 h1 g1
      rw [Rs.bind_of k3] at h ⊢
      refine ih _ _ (by omega) k2 (by omega) (fun t ht => ?_) ?_ h
      · rcases List.mem_append.1 ht with ht | ht
        · exact ha t ht
        · rw [List.mem_singleton] at ht; subst ht; exact ⟨k4, k5⟩
      · rw [tcat_append, tcat_one, hc, k6]
        have e : z.take p.toNat = piece z 0 p.toNat := by unfold piece; simp
        rw [e, piece_add (by omega) (by omega)]
        unfold piece
        simp
theorem tgv_once {z : List Int} (hby : ∀ x ∈ z, 0 ≤ x ∧ x < 256) {T : List Tk} {q : Int} (h : (T, (0 : Int), q) = tgv z) : (∀ t ∈ T, tright t = true ∧ tkok t) ∧ tcat T = z := by
  unfold tgv at h
  by_cases h0 : (tg z).2.2.1 = 0
  · rw [if_pos h0] at h
    have e : T = (tg z).1 := congrArg (fun x => x.1) h
    rw [e]
    exact tgo_once hby _ _ _ (by omega) (by omega) (by omega) (by simp) (by simp [tcat]) h0
  · rw [if_neg h0] at h
    have e : (0 : Int) = (tg z).2.2.1 := congrArg (fun x => x.2.1) h
    exact absurd e.symm h0
theorem tgv_nil {z : List Int} {T : List Tk} {c q : Int} (h : (T, c, q) = tgv z) (hc : c ≠ 0) : T = [] := by
  unfold tgv at h
  by_cases h0 : (tg z).2.2.1 = 0
  · rw [if_pos h0] at h
    exact absurd (congrArg (fun x => x.2.1) h : c = 0) hc
  · rw [if_neg h0] at h
    exact congrArg (fun x => x.1) h

/-- A token that is put is read. -/
theorem tr_put {z pre rest : List Int} {t : Tk} (hz : z = pre ++ tby t ++ rest) (ht : tright t = true) : tr z pre.length = (t, ((pre.length + (tby t).length : Nat) : Int), 0, 0) := by
  obtain ⟨l, o, n⟩ := t
  unfold tright at ht
  simp only at ht
  by_cases hr : trun l.length o n = true
  · have hby : tby (l, o, n) = vz (2 * (l.length : Int) - 2) ++ l := by unfold tby; simp only; rw [if_pos hr]
    have hd : o = 0 ∧ n = 0 ∧ 1 ≤ l.length ∧ l.length ≤ 1048576 := by unfold trun at hr; exact of_decide_eq_true hr
    obtain ⟨rfl, rfl, h1, h2⟩ := hd
    rw [hby] at hz ⊢
    have hv := vg_put (z := z) (pre := pre) (x := 2 * (l.length : Int) - 2) (rest := l ++ rest) (by rw [hz]; simp [List.append_assoc]) (by omega) (by omega)
    have hh : hd z pre.length = ((false, (l.length : Int)), ((pre.length + vsz (2 * (l.length : Int) - 2) : Nat) : Int), 0, 0) := by
      unfold hd
      rw [Rs.bind_of hv]
      have e : hdv (2 * (l.length : Int) - 2) = (false, (l.length : Int)) := by unfold hdv; rw [if_neg (by omega)]; congr 1; omega
      rw [e, if_neg (by show ¬ 1048576 < (l.length : Int); omega)]
    unfold tr
    rw [Rs.bind_of hh, trb_run]
    have hk := tk_put (z := z) (pre := pre ++ vz (2 * (l.length : Int) - 2)) (y := l) (rest := rest) (by rw [hz]; simp [List.append_assoc])
    rw [List.length_append, vz_length] at hk
    rw [Rs.bind_of hk, List.length_append, vz_length, Nat.add_assoc]
  · have hc : tcpy l.length o n = true := by simpa [hr] using ht
    have hby : tby (l, o, n) = vz (2 * n - 7) ++ vz (o - 1) := by unfold tby; simp only; rw [if_neg hr]
    have hd : l.length = 0 ∧ 1 ≤ o ∧ o ≤ 65536 ∧ 4 ≤ n ∧ n ≤ 1048576 := by unfold tcpy at hc; exact of_decide_eq_true hc
    obtain ⟨h0, h1, h2, h3, h4⟩ := hd
    obtain rfl := List.length_eq_zero_iff.1 h0
    rw [hby] at hz ⊢
    have hv := vg_put (z := z) (pre := pre) (x := 2 * n - 7) (rest := vz (o - 1) ++ rest) (by rw [hz]; simp [List.append_assoc]) (by omega) (by omega)
    have hh : hd z pre.length = ((true, n), ((pre.length + vsz (2 * n - 7) : Nat) : Int), 0, 0) := by
      unfold hd
      rw [Rs.bind_of hv]
      have e : hdv (2 * n - 7) = (true, n) := by unfold hdv; rw [if_pos (by omega)]; congr 1; omega
      rw [e, if_neg (by show ¬ 1048576 < n; omega)]
    unfold tr
    rw [Rs.bind_of hh, trb_cpy]
    have hk := vg_put (z := z) (pre := pre ++ vz (2 * n - 7)) (x := o - 1) (rest := rest) (by rw [hz]; simp [List.append_assoc]) (by omega) (by omega)
    rw [List.length_append, vz_length] at hk
    have ho : ofs z ((pre.length + vsz (2 * n - 7) : Nat) : Int) = (o, ((pre.length + vsz (2 * n - 7) + vsz (o - 1) : Nat) : Int), 0, 0) := by
      unfold ofs
      rw [Rs.bind_of hk, if_neg (by omega)]
      congr 1
      omega
    rw [Rs.bind_of ho, List.length_append, vz_length, vz_length, Nat.add_assoc]
theorem tgo_put {z : List Int} : ∀ (U acc : List Tk) (k : Nat), (∀ t ∈ U, tright t = true) → z = tcat acc ++ tcat U → U.length ≤ k → tgo z k (tcat acc).length acc = (acc ++ U, (z.length : Int), 0, 0) := by
  intro U
  induction U with
  | nil =>
    intro acc k _ hz _
    rw [tgo_stop' (by rw [hz]; simp [tcat]), hz]
    simp [tcat]
  | cons t U ih =>
    intro acc k hU hz hk
    obtain ⟨k, rfl⟩ : ∃ j, k = j + 1 := ⟨k - 1, by simp at hk; omega⟩
    have e : tcat (t :: U) = tby t ++ tcat U := by simp [tcat]
    have h1 := tby_pos t
    have hz2 : z = tcat acc ++ tby t ++ tcat U := by rw [hz, e, List.append_assoc]
    rw [tgo_step' (by rw [hz2]; simp only [List.length_append]; push_cast; omega), Rs.bind_of (tr_put hz2 (hU t (by simp)))]
    have := ih (acc ++ [t]) k (fun x hx => hU x (by simp [hx])) (by rw [tcat_append, tcat_one, hz2]) (by simpa using hk)
    rw [tcat_append, tcat_one, List.length_append] at this
    rw [this, List.append_assoc]
    rfl
theorem tgv_put {T : List Tk} (h : ∀ t ∈ T, tright t = true) : tgv (tcat T) = (T, 0, 0) := by
  have := tgo_put (z := tcat T) T [] ((tcat T).length + 1) h (by simp [tcat]) (by have := tcat_len T; omega)
  have e : tg (tcat T) = (T, ((tcat T).length : Int), 0, 0) := by
    unfold tg
    have e0 : ((tcat []).length : Int) = 0 := by simp [tcat]
    rw [e0] at this
    rw [this]
    rfl
  unfold tgv
  rw [e]
  rfl
theorem tby_byte {t : Tk} (h : tkok t) (hr : tright t = true) : ∀ x ∈ tby t, 0 ≤ x ∧ x < 256 := by
  intro x hx
  unfold tby at hx
  split at hx
  · rename_i h1
    have hd : t.2.1 = 0 ∧ t.2.2 = 0 ∧ 1 ≤ t.1.length ∧ t.1.length ≤ 1048576 := by unfold trun at h1; exact of_decide_eq_true h1
    rcases List.mem_append.1 hx with hx | hx
    · exact vz_byte _ (by omega) (by omega) x hx
    · exact h.1 x hx
  · rename_i h1
    have hc : tcpy t.1.length t.2.1 t.2.2 = true := by unfold tright at hr; simpa [h1] using hr
    have hd : t.1.length = 0 ∧ 1 ≤ t.2.1 ∧ t.2.1 ≤ 65536 ∧ 4 ≤ t.2.2 ∧ t.2.2 ≤ 1048576 := by unfold tcpy at hc; exact of_decide_eq_true hc
    rcases List.mem_append.1 hx with hx | hx
    · exact vz_byte _ (by omega) (by omega) x hx
    · exact vz_byte _ (by omega) (by omega) x hx
theorem tcat_byte {T : List Tk} (h : ∀ t ∈ T, tkok t) (hr : ∀ t ∈ T, tright t = true) : ∀ x ∈ tcat T, 0 ≤ x ∧ x < 256 := by
  intro x hx
  obtain ⟨l, hl, hx⟩ := List.mem_flatten.1 hx
  obtain ⟨t, ht, rfl⟩ := List.mem_map.1 hl
  exact tby_byte (h t ht) (hr t ht) x hx
end Go.Proofs.Ytmflnnfgkcmlhaa.Cur

namespace Go.Proofs.Ytmflnnfgkcmlhaa.Cur
open Go.RowKit Mem
set_option linter.unusedVariables false

def T11 : List Tk := [([7, 8], 0, 0), ([], 1, 4)]
theorem t11_all : tall T11 T11.length = true := by decide +kernel
theorem t11_bs : tbs T11 T11.length = [2, 7, 8, 1, 0] := by decide +kernel
theorem t11_bs2 : (tbs T11 2).length = 5 := by decide +kernel
theorem t11_lit (i : Nat) : (T11.getD i tk0).1.length ≤ 100000 := by
  match i with
  | 0 => exact (by decide : 2 ≤ 100000)
  | 1 => exact Nat.zero_le _
  | i + 2 => exact Nat.zero_le _
theorem t11_at (w : World) (g : Nat) (hg : Bs w (some ⟨g, 0, none⟩) 2 [7, 8]) :
    TksL (w.alloc (.cells #[.slice (some ⟨g, 0, none⟩) 2 2, .int .i64 0, .int .i64 0, .slice none 0 0, .int .i64 1, .int .i64 4] 33)) (some ⟨w.heap.size, 0, none⟩) 2 T11 := by
  have hX := Blk.new w #[.slice (some ⟨g, 0, none⟩) 2 2, .int .i64 0, .int .i64 0, .slice none 0 0, .int .i64 1, .int .i64 4] 33
  have hb2 := below_one w (.cells #[.slice (some ⟨g, 0, none⟩) 2 2, .int .i64 0, .int .i64 0, .slice none 0 0, .int .i64 1, .int .i64 4] 33)
  have hbs1 := hg.below hb2
  generalize w.alloc (.cells #[.slice (some ⟨g, 0, none⟩) 2 2, .int .i64 0, .int .i64 0, .slice none 0 0, .int .i64 1, .int .i64 4] 33) = w2 at *
  refine ⟨rfl, fun i hi => ?_⟩
  rcases (show i = 0 ∨ i = 1 by omega) with h | h
  · subst h
    exact ⟨w.heap.size, 0, some ⟨g, 0, none⟩, 2, 2, rfl, ⟨hX.cell 0 rfl, hX.cell 1 rfl, hX.cell 2 rfl, hbs1⟩, fun h => (by cases h), Nat.le_refl _⟩
  · subst h
    exact ⟨w.heap.size, 0, none, 0, 0, rfl, ⟨hX.cell 3 rfl, hX.cell 4 rfl, hX.cell 5 rfl, Bs.none _⟩, fun _ => rfl, Nat.le_refl _⟩

end Go.Proofs.Ytmflnnfgkcmlhaa.Cur

namespace Go.Proofs.Ytmflnnfgkcmlhaa.Cur
open Go.RowKit Mem
set_option linter.unusedVariables false

theorem hd_rng {z : List Int} {p : Int} (hby : ∀ x ∈ z, 0 ≤ x ∧ x < 256) (h : (hd z p).2.2.1 = 0) : 1 ≤ (hd z p).1.2 ∧ (hd z p).1.2 ≤ 1048576 := by
  obtain ⟨v1, v2, e1⟩ := hd_ok' h
  rw [e1]
  refine ⟨?_, v2⟩
  have := vg_bd z p hby
  show 1 ≤ (hdv (vg z p).1).2
  unfold hdv
  split
  · show 1 ≤ (vg z p).1 / 2 + 4; omega
  · show 1 ≤ (vg z p).1 / 2 + 1; omega
theorem St.flt {α : Type} {d : α} {n : Nat} {g : Rs α} {p p' c' q' : Int} {u : α} (h : St d n g p 0 0 u p' c' q') (hc : c' ≠ 0) : g.2.2.1 ≠ 0 ∧ c' = g.2.2.1 ∧ q' = g.2.2.2 := by
  obtain ⟨_, _, ⟨h0, _⟩ | ⟨_, _, _, _, h0, _⟩ | ⟨_, h1, _, h2, h3⟩⟩ := h
  · exact absurd rfl h0
  · exact absurd h0 hc
  · exact ⟨h1, h2, h3⟩
theorem St.shape {α : Type} {d : α} {n : Nat} {g : Rs α} {p p' q' : Int} {u : α} (hg : g.2.2.1 = 0 → g.2.2.2 = 0) (h : St d n g p 0 0 u p' 0 q') : g = (u, p', 0, 0) ∧ q' = 0 := by
  obtain ⟨_, h0, h1, h2, h3⟩ := h.good
  refine ⟨?_, h3⟩
  subst h1
  subst h2
  exact Prod.ext rfl (Prod.ext rfl (Prod.ext h0 (hg h0)))
theorem St.stays {α : Type} {d : α} {n : Nat} {g : Rs α} {p c q p' c' q' : Int} {u : α} (h : St d n g p c q u p' c' q') (hc : c ≠ 0) : u = d ∧ c' = c ∧ q' = q := by
  obtain ⟨_, _, ⟨_, h1, h2, h3⟩ | ⟨h0, _⟩ | ⟨h0, _⟩⟩ := h
  · exact ⟨h1, h2, h3⟩
  · exact absurd h0 hc
  · exact absurd h0 hc
theorem vg_q {z : List Int} {p : Int} (h : (vg z p).2.2.1 = 0) : (vg z p).2.2.2 = 0 := if_pos h
theorem hd_q {z : List Int} {p : Int} (h : (hd z p).2.2.1 = 0) : (hd z p).2.2.2 = 0 := by
  obtain ⟨_, _, e⟩ := hd_ok' h; rw [e]
theorem ofs_q {z : List Int} {p : Int} (h : (ofs z p).2.2.1 = 0) : (ofs z p).2.2.2 = 0 := by
  obtain ⟨_, _, e⟩ := ofs_ok h; rw [e]
theorem tk_q {z : List Int} {x p : Int} (h0 : 0 ≤ p) (h1 : p ≤ z.length) (h : (tk z x p).2.2.1 = 0) : (tk z x p).2.2.2 = 0 := by
  obtain ⟨_, _, e⟩ := tk_once h0 h1 h; rw [e]
theorem Rs.bind_bad {α β : Type} {g : Rs α} {d : β} {f : α → Int → Rs β} (h : g.2.2.1 ≠ 0) : g.bind d f = (d, 0, g.2.2.1, g.2.2.2) := if_pos h

theorem hd_pl {z : List Int} {p : Int} (hby : ∀ x ∈ z, 0 ≤ x ∧ x < 256) (h0 : 0 ≤ p) (h1 : p ≤ z.length) (h : (hd z p).2.2.1 = 0) : p + 1 ≤ (hd z p).2.1 ∧ (hd z p).2.1 ≤ z.length := by
  obtain ⟨v1, v2, e1⟩ := hd_ok' h
  obtain ⟨o1, o2, o3, o4, o5⟩ := vg_once hby h0 h1 v1
  rw [e1]
  exact ⟨by show p + 1 ≤ (vg z p).2.1; omega, o5⟩
/-- How many bytes a token makes that is read behind its head. -/
theorem trb_len {z : List Int} {cp : Bool} {k p1 : Int} (h0 : 0 ≤ p1) (h1 : p1 ≤ z.length) (hk : 0 ≤ k) (h : (trb z (cp, k) p1).2.2.1 = 0) :
    ((trb z (cp, k) p1).1.1.length : Int) + ((trb z (cp, k) p1).1.2.2.toNat : Int) = k := by
  cases cp
  · rw [trb_run] at h ⊢
    obtain ⟨q1, q2⟩ := Rs.bind_ok h
    obtain ⟨k1, k2, f1⟩ := tk_once h0 h1 q1
    rw [q2, f1]
    have hl : (piece z p1.toNat (p1 + k).toNat).length = k.toNat := by rw [length_piece rfl (by omega)]; omega
    show ((piece z p1.toNat (p1 + k).toNat).length : Int) + (((0 : Int).toNat : Nat) : Int) = k
    rw [hl]
    simp
    omega
  · rw [trb_cpy] at h ⊢
    obtain ⟨q1, q2⟩ := Rs.bind_ok h
    rw [q2]
    show ((([] : List Int).length : Nat) : Int) + (k.toNat : Int) = k
    simp
    omega
theorem tr_hd {z : List Int} {p : Int} (h : (hd z p).2.2.1 = 0) : tr z p = trb z (hd z p).1 (hd z p).2.1 := by
  obtain ⟨v1, v2, e1⟩ := hd_ok' h
  unfold tr
  rw [Rs.bind_of (v := (hd z p).1) (p' := (hd z p).2.1) (by rw [e1])]
theorem St.pl {α : Type} {d : α} {n : Nat} {g : Rs α} {p p' c' q' : Int} {u : α} (h : St d n g p 0 0 u p' c' q') (hc : g.2.2.1 = 0) : p' = g.2.1 := by
  obtain ⟨_, _, ⟨h0, _⟩ | ⟨_, _, _, h1, _⟩ | ⟨_, h1, _⟩⟩ := h
  · exact absurd rfl h0
  · exact h1
  · exact absurd hc h1
end Go.Proofs.Ytmflnnfgkcmlhaa.Cur
