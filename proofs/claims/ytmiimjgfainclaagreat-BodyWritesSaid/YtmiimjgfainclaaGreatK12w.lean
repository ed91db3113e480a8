/- As the seat's text, without what nothing here names. -/
import Derived.Test.YtmiimjgfainclaaGreatK1w
import Derived.WalkKit
import Derived.WalkSpells
import Derived.WalkLawsBesides
import Derived.Lib.Hide
import Derived.Test.YtmiimjgfainclaaGreatK4w
import Derived.Test.YtmiimjgfainclaaGreatK6w
import Derived.Deep.Slices
import Derived.Test.YtmiimjgfainclaaGreatK3w
import Derived.Deep.Cut
import Derived.Deep.LoopGhost
namespace Go.Proofs.YtmiimjgfainclaaGreat.Cur
open Go.RowKit Mem
set_option linter.unusedVariables false
abbrev tv (A : Option Addr) (n m : Nat) (o l : Int) : Value := .agg #[.slice A n m, .int .i64 o, .int .i64 l]
def trun (n : Nat) (o l : Int) : Bool := decide (o = 0 ∧ l = 0 ∧ 1 ≤ n ∧ n ≤ 1048576)
def tcpy (n : Nat) (o l : Int) : Bool := decide (n = 0 ∧ 1 ≤ o ∧ o ≤ 65536 ∧ 4 ≤ l ∧ l ≤ 1048576)
def tsz (n : Nat) (o l : Int) : Int := if trun n o l then n else if tcpy n o l then l else 0
theorem tsz_run {n : Nat} {o l : Int} (h : trun n o l = true) : tsz n o l = n := by unfold tsz; rw [if_pos h]
theorem tsz_cpy {n : Nat} {o l : Int} (h : tcpy n o l = true) : tsz n o l = l := by
  have hr : ¬ trun n o l = true := by unfold trun tcpy at *; simp only [decide_eq_true_eq] at *; omega
  unfold tsz; rw [if_neg hr, if_pos h]
theorem tsz_no {n : Nat} {o l : Int} (h : trun n o l = false) (h2 : tcpy n o l = false) : tsz n o l = 0 := by unfold tsz; rw [h, h2]; rfl
theorem tbox (w : World) (v0 v1 v2 : Value) (t : Nat) : Blk (w.alloc (.cells #[v0, v1, v2] t)) w.heap.size #[v0, v1, v2] t ∧ Below w.heap.size w (w.alloc (.cells #[v0, v1, v2] t)) :=
  ⟨Blk.new _ _ _, below_one _ _⟩
set_option maxHeartbeats 400000 in
theorem limits_any (b : Bool) (w : World) : Calls Tryz.prog 245 #[.bool b] w fun e w' => e = .returned (.tuple #[.int .i64 (if b then 4 else 1), .int .i64 1048576]) ∧ w = w' := by
  cases b
  · go_enter Tryz.func245, Tryz.ntmps245
    go_wp2
    go_ret2
    exact ⟨rfl, rfl⟩
  · go_enter Tryz.func245, Tryz.ntmps245
    go_wp2
    go_ret2
    exact ⟨rfl, rfl⟩
set_option maxHeartbeats 1000000 in
theorem rrun_any (A : Option Addr) (n m : Nat) (o l : Int) (w : World) : Calls Tryz.prog 201 #[tv A n m o l] w (BPost (.bool (trun n o l)) w) := by
  unfold BPost
  by_cases h0 : o = 0
  · subst h0
    by_cases h1 : l = 0
    · subst h1
      by_cases h2 : 1 ≤ n
      · by_cases h3 : n ≤ 1048576
        · have E : Hid (trun n 0 0 = true) := Lib.hid (by unfold trun; rw [decide_eq_true_eq]; omega)
          obtain ⟨hX, hB⟩ := tbox w (.slice A n m) (.int .i64 0) (.int .i64 0) 201
          go_enter Tryz.func201, Tryz.ntmps201
          obtain ⟨x0, x1, x2⟩ := hX.c3
          go_wp2
          go_ret
          exact ⟨by rw [E.out]; first | rfl | (simp <;> omega), hB⟩
        · have E : Hid (trun n 0 0 = false) := Lib.hid (by unfold trun; rw [decide_eq_false_iff_not]; omega)
          obtain ⟨hX, hB⟩ := tbox w (.slice A n m) (.int .i64 0) (.int .i64 0) 201
          go_enter Tryz.func201, Tryz.ntmps201
          obtain ⟨x0, x1, x2⟩ := hX.c3
          go_wp2
          go_ret
          exact ⟨by rw [E.out]; first | rfl | (simp <;> omega), hB⟩
      · have E : Hid (trun n 0 0 = false) := Lib.hid (by unfold trun; rw [decide_eq_false_iff_not]; omega)
        obtain rfl : n = 0 := by omega
        obtain ⟨hX, hB⟩ := tbox w (.slice A 0 m) (.int .i64 0) (.int .i64 0) 201
        go_enter Tryz.func201, Tryz.ntmps201
        obtain ⟨x0, x1, x2⟩ := hX.c3
        go_wp2
        go_ret
        exact ⟨by rw [E.out]; first | rfl | (simp <;> omega), hB⟩
    · have E : Hid (trun n 0 l = false) := Lib.hid (by unfold trun; rw [decide_eq_false_iff_not]; omega)
      have hb : (l == 0) = false := by simpa using h1
      clear h1
      obtain ⟨hX, hB⟩ := tbox w (.slice A n m) (.int .i64 0) (.int .i64 l) 201
      go_enter Tryz.func201, Tryz.ntmps201
      obtain ⟨x0, x1, x2⟩ := hX.c3
      go_wp2
      go_ret
      exact ⟨by rw [E.out]; first | rfl | (simp <;> omega), hB⟩
  · have E : Hid (trun n o l = false) := Lib.hid (by unfold trun; rw [decide_eq_false_iff_not]; omega)
    have hb : (o == 0) = false := by simpa using h0
    clear h0
    obtain ⟨hX, hB⟩ := tbox w (.slice A n m) (.int .i64 o) (.int .i64 l) 201
    go_enter Tryz.func201, Tryz.ntmps201
    obtain ⟨x0, x1, x2⟩ := hX.c3
    go_wp2
    go_ret
    exact ⟨by rw [E.out]; first | rfl | (simp <;> omega), hB⟩
set_option maxHeartbeats 2000000 in
theorem tlen_any (A : Option Addr) (n m : Nat) (o l : Int) (w : World) : Calls Tryz.prog 242 #[tv A n m o l] w (BPost (.int .i64 (tsz n o l)) w) := by
  unfold BPost
  by_cases h0 : o = 0
  · subst h0
    by_cases h1 : l = 0
    · subst h1
      have hc : tcpy n 0 0 = false := by unfold tcpy; rw [decide_eq_false_iff_not]; omega
      by_cases h2 : 1 ≤ n
      · by_cases h3 : n ≤ 1048576
        · have E : Hid (tsz n 0 0 = n) := Lib.hid (tsz_run (by unfold trun; rw [decide_eq_true_eq]; omega))
          clear hc
          obtain ⟨hX, hB⟩ := tbox w (.slice A n m) (.int .i64 0) (.int .i64 0) 201
          go_enter Tryz.func242, Tryz.ntmps242
          obtain ⟨x0, x1, x2⟩ := hX.c3
          go_wp2_with fail
          refine (limits_any _ _).mono ?_
          rintro e w1 ⟨rfl, rfl⟩
          go_wp2
          go_ret
          exact ⟨by rw [E.out]; rfl, hB⟩
        · have E : Hid (tsz n 0 0 = 0) := Lib.hid (tsz_no (by unfold trun; rw [decide_eq_false_iff_not]; omega) hc)
          clear hc
          obtain ⟨hX, hB⟩ := tbox w (.slice A n m) (.int .i64 0) (.int .i64 0) 201
          go_enter Tryz.func242, Tryz.ntmps242
          obtain ⟨x0, x1, x2⟩ := hX.c3
          go_wp2_with fail
          refine (limits_any _ _).mono ?_
          rintro e w1 ⟨rfl, rfl⟩
          go_wp2
          go_ret
          exact ⟨by rw [E.out]; rfl, hB⟩
      · have E : Hid (tsz n 0 0 = 0) := Lib.hid (tsz_no (by unfold trun; rw [decide_eq_false_iff_not]; omega) hc)
        obtain rfl : n = 0 := by omega
        clear hc
        obtain ⟨hX, hB⟩ := tbox w (.slice A 0 m) (.int .i64 0) (.int .i64 0) 201
        go_enter Tryz.func242, Tryz.ntmps242
        obtain ⟨x0, x1, x2⟩ := hX.c3
        go_wp2_with fail
        refine (limits_any _ _).mono ?_
        rintro e w1 ⟨rfl, rfl⟩
        go_wp2
        go_ret
        exact ⟨by rw [E.out]; rfl, hB⟩
    · have E : Hid (tsz n 0 l = 0) := Lib.hid (tsz_no (by unfold trun; rw [decide_eq_false_iff_not]; omega) (by unfold tcpy; rw [decide_eq_false_iff_not]; omega))
      have hb : (l == 0) = false := by simpa using h1
      clear h1
      obtain ⟨hX, hB⟩ := tbox w (.slice A n m) (.int .i64 0) (.int .i64 l) 201
      go_enter Tryz.func242, Tryz.ntmps242
      obtain ⟨x0, x1, x2⟩ := hX.c3
      go_wp2
      go_ret
      exact ⟨by rw [E.out]; rfl, hB⟩
  · have hb : (o == 0) = false := by simpa using h0
    have hr : trun n o l = false := by unfold trun; rw [decide_eq_false_iff_not]; omega
    by_cases h1 : 1 ≤ o
    · by_cases h2 : o ≤ 65536
      · by_cases h3 : n = 0
        · subst h3
          have hg : 0 < o := by omega
          by_cases h4 : 4 ≤ l
          · by_cases h5 : l ≤ 1048576
            · have E : Hid (tsz 0 o l = l) := Lib.hid (tsz_cpy (by unfold tcpy; rw [decide_eq_true_eq]; omega))
              clear hr h0
              obtain ⟨hX, hB⟩ := tbox w (.slice A 0 m) (.int .i64 o) (.int .i64 l) 201
              go_enter Tryz.func242, Tryz.ntmps242
              obtain ⟨x0, x1, x2⟩ := hX.c3
              go_wp2_with fail
              refine (limits_any _ _).mono ?_
              rintro e w1 ⟨rfl, rfl⟩
              go_wp2
              go_ret
              exact ⟨by rw [E.out]; rfl, hB⟩
            · have E : Hid (tsz 0 o l = 0) := Lib.hid (tsz_no hr (by unfold tcpy; rw [decide_eq_false_iff_not]; omega))
              clear hr h0
              obtain ⟨hX, hB⟩ := tbox w (.slice A 0 m) (.int .i64 o) (.int .i64 l) 201
              go_enter Tryz.func242, Tryz.ntmps242
              obtain ⟨x0, x1, x2⟩ := hX.c3
              go_wp2_with fail
              refine (limits_any _ _).mono ?_
              rintro e w1 ⟨rfl, rfl⟩
              go_wp2
              go_ret
              exact ⟨by rw [E.out]; rfl, hB⟩
          · have E : Hid (tsz 0 o l = 0) := Lib.hid (tsz_no hr (by unfold tcpy; rw [decide_eq_false_iff_not]; omega))
            clear hr h0
            obtain ⟨hX, hB⟩ := tbox w (.slice A 0 m) (.int .i64 o) (.int .i64 l) 201
            go_enter Tryz.func242, Tryz.ntmps242
            obtain ⟨x0, x1, x2⟩ := hX.c3
            go_wp2_with fail
            refine (limits_any _ _).mono ?_
            rintro e w1 ⟨rfl, rfl⟩
            go_wp2
            go_ret
            exact ⟨by rw [E.out]; rfl, hB⟩
        · have E : Hid (tsz n o l = 0) := Lib.hid (tsz_no hr (by unfold tcpy; rw [decide_eq_false_iff_not]; omega))
          have hb2 : ((n : Int) == 0) = false := by simpa using h3
          clear hr h0 h3
          obtain ⟨hX, hB⟩ := tbox w (.slice A n m) (.int .i64 o) (.int .i64 l) 201
          go_enter Tryz.func242, Tryz.ntmps242
          obtain ⟨x0, x1, x2⟩ := hX.c3
          go_wp2
          go_ret
          exact ⟨by rw [E.out]; rfl, hB⟩
      · have E : Hid (tsz n o l = 0) := Lib.hid (tsz_no hr (by unfold tcpy; rw [decide_eq_false_iff_not]; omega))
        clear hr h0
        obtain ⟨hX, hB⟩ := tbox w (.slice A n m) (.int .i64 o) (.int .i64 l) 201
        go_enter Tryz.func242, Tryz.ntmps242
        obtain ⟨x0, x1, x2⟩ := hX.c3
        go_wp2
        go_ret
        exact ⟨by rw [E.out]; rfl, hB⟩
    · have E : Hid (tsz n o l = 0) := Lib.hid (tsz_no hr (by unfold tcpy; rw [decide_eq_false_iff_not]; omega))
      clear hr h0
      obtain ⟨hX, hB⟩ := tbox w (.slice A n m) (.int .i64 o) (.int .i64 l) 201
      go_enter Tryz.func242, Tryz.ntmps242
      obtain ⟨x0, x1, x2⟩ := hX.c3
      go_wp2
      go_ret
      exact ⟨by rw [E.out]; rfl, hB⟩
end Go.Proofs.YtmiimjgfainclaaGreat.Cur
namespace Go.Proofs.YtmiimjgfainclaaGreat.Cur
open Go.RowKit Mem Go.ChangeShapes Go.WideShapes
set_option linter.unusedVariables false
set_option maxRecDepth 100000
abbrev Tk := List Int × Int × Int
def tk0 : Tk := ([], 0, 0)
def TkC (w : World) (b q : Nat) (Ar : Option Addr) (Lr Cr : Nat) (t : Tk) : Prop :=
  w.cell? ⟨b, q, none⟩ = some (.slice Ar Lr Cr) ∧ w.cell? ⟨b, q + 1, none⟩ = some (.int .i64 t.2.1) ∧ w.cell? ⟨b, q + 2, none⟩ = some (.int .i64 t.2.2) ∧ Bs w Ar Lr t.1
theorem TkC.below {w w' : World} {b q : Nat} {Ar : Option Addr} {Lr Cr : Nat} {t : Tk} {B : Nat} (h : TkC w b q Ar Lr Cr t) (hb : Below B w w') (hB : w.heap.size ≤ B) : TkC w' b q Ar Lr Cr t := by
  obtain ⟨h0, h1, h2, h3⟩ := h
  have hb := hb.mono hB
  exact ⟨(hb.cell (lt_of_cell h0)).trans h0, (hb.cell (lt_of_cell h1)).trans h1, (hb.cell (lt_of_cell h2)).trans h2, h3.below hb⟩
def TkAt (w : World) (A : Option Addr) (i : Nat) (t : Tk) : Prop :=
  ∃ b o Ar Lr Cr, A = some ⟨b, o, none⟩ ∧ TkC w b (o + i * 3) Ar Lr Cr t ∧ (Ar = none → Cr = 0) ∧ Lr ≤ Cr
def TksL (w : World) (A : Option Addr) (n : Nat) (T : List Tk) : Prop := T.length = n ∧ ∀ i, i < n → TkAt w A i (T.getD i tk0)
theorem TkAt.below {w w' : World} {A : Option Addr} {i : Nat} {t : Tk} (h : TkAt w A i t) (hb : Below w.heap.size w w') : TkAt w' A i t := by
  obtain ⟨b, o, Ar, Lr, Cr, e, h0, r⟩ := h
  exact ⟨b, o, Ar, Lr, Cr, e, h0.below hb (Nat.le_refl _), r⟩
theorem TksL.below {w w' : World} {A : Option Addr} {n : Nat} {T : List Tk} (h : TksL w A n T) (hb : Below w.heap.size w w') : TksL w' A n T := ⟨h.1, fun i hi => (h.2 i hi).below hb⟩
def tkok (t : Tk) : Prop := (∀ x ∈ t.1, 0 ≤ x ∧ x < 256) ∧ (-9223372036854775808 ≤ t.2.1 ∧ t.2.1 ≤ 9223372036854775807) ∧ (-9223372036854775808 ≤ t.2.2 ∧ t.2.2 ≤ 9223372036854775807)
section
variable {H : Type} {enc : TypeId × Value → H} {w : World} {base : Nat} {v : Value} {d : DataW H} {p : List MemPlace}
end
def tby (t : Tk) : List Int := if trun t.1.length t.2.1 t.2.2 then vz (2 * (t.1.length : Int) - 2) ++ t.1 else vz (2 * t.2.2 - 7) ++ vz (t.2.1 - 1)
def tright (t : Tk) : Bool := trun t.1.length t.2.1 t.2.2 || tcpy t.1.length t.2.1 t.2.2
def tbs (T : List Tk) (k : Nat) : List Int := flat (T.map tby) k
theorem getD_map_tby {T : List Tk} {k : Nat} (h : k < T.length) : (T.map tby).getD k [] = tby (T.getD k tk0) := by
  simp [List.getD_eq_getElem?_getD, List.getElem?_eq_getElem h]
theorem tbs_succ {T : List Tk} {k : Nat} (h : k < T.length) : tbs T (k + 1) = tbs T k ++ tby (T.getD k tk0) := by
  unfold tbs
  rw [flat_succ (by simpa using h), getD_map_tby h]
theorem tbs_zero (T : List Tk) : tbs T 0 = [] := by simp [tbs, flat]
theorem tby_le {t : Tk} : (tby t).length ≤ t.1.length + 20 := by
  unfold tby
  have h1 := vsz_le (2 * (t.1.length : Int) - 2)
  have h2 := vsz_le (2 * t.2.2 - 7)
  have h3 := vsz_le (t.2.1 - 1)
  split <;> simp only [List.length_append, vz_length] <;> omega
theorem tbs_mono {T : List Tk} : ∀ {k j : Nat}, k ≤ j → j ≤ T.length → (tbs T k).length ≤ (tbs T j).length := by
  intro k j hkj
  induction j with
  | zero =>
    intro _
    obtain rfl : k = 0 := by omega
    exact Nat.le_refl _
  | succ j ih =>
    intro hj
    rcases Nat.lt_or_ge k (j + 1) with h | h
    · rw [tbs_succ (by omega), List.length_append]; have := ih (by omega) (by omega); omega
    · obtain rfl : k = j + 1 := by omega
      exact Nat.le_refl _
def tall (T : List Tk) : Nat → Bool
  | 0 => true
  | k + 1 => tall T k && tright (T.getD k tk0)
end Go.Proofs.YtmiimjgfainclaaGreat.Cur
namespace Go.Proofs.YtmiimjgfainclaaGreat.Cur
open Go.RowKit Mem
set_option linter.unusedVariables false
set_option maxRecDepth 100000 in
set_option maxHeartbeats 2000000 in
theorem rtbytes_any (A : Option Addr) (n m : Nat) (T : List Tk) (w : World) (h : TksL w A n T) (hr : ∀ i, i < n → tright (T.getD i tk0) = true) (hn : n ≤ 10000) (hsz : (tbs T n).length ≤ 700000) :
    Calls Tryz.prog 174 #[.slice A n m] w (RowPost (tbs T n) w) := by
  have HT := Lib.hid h
  have HR := Lib.hid hr
  have HSZ := Lib.hid hsz
  clear h hr hsz
  go_enter Tryz.func174, Tryz.ntmps174
  go_wp2
  go_loopw [3, 4] (fun v i wr => ∃ k : Nat, k ≤ n ∧ i = .int .i64 k ∧ Own wr w.heap.size v (tbs T k) ∧ Below w.heap.size w wr) (fun _ i _ => n - (intOf i).toNat)
  case atStart => exact ⟨0, by omega, rfl, by rw [tbs_zero]; exact Own.nil _ _, Below.refl _ _⟩
  case round =>
    obtain ⟨k, hk, rfl, ho, hb⟩ := hrel
    by_cases hlt : k < n
    · obtain ⟨b, o, Ar, Lr, Cr, rfl, hF, hnil, hle⟩ := HT.out.2 k hlt
      have hl1 := tbs_mono (T := T) (k := k) (j := k + 1) (by omega) (by rw [HT.out.1]; exact hlt)
      have hl2 := tbs_mono (T := T) (k := k + 1) (j := n) (by omega) (by rw [HT.out.1]; exact Nat.le_refl _)
      have HLN : Hid ((tbs T (k + 1)).length ≤ 700000) := Lib.hid (Nat.le_trans hl2 HSZ.out)
      have HS := Lib.hid (tbs_succ (T := T) (k := k) (by rw [HT.out.1]; exact hlt))
      have hrt := HR.out k hlt
      have hzl := hF.2.2.2.1
      have HF := Lib.hid hF
      have ho' := ho
      obtain ⟨A0, m0, rfl⟩ := ho'.slice
      clear hl1 hl2 hF ho'
      cases hrn : trun (T.getD k tk0).1.length (T.getD k tk0).2.1 (T.getD k tk0).2.2
      ·
        have hcp : tcpy (T.getD k tk0).1.length (T.getD k tk0).2.1 (T.getD k tk0).2.2 = true := by
          unfold tright at hrt; rw [hrn, Bool.false_or] at hrt; exact hrt
        have HE : Hid (tby (T.getD k tk0) = vz (2 * (T.getD k tk0).2.2 - 7) ++ vz ((T.getD k tk0).2.1 - 1)) := Lib.hid (by unfold tby; rw [hrn]; rfl)
        have H1 := rrun_any Ar Lr Cr (T.getD k tk0).2.1 (T.getD k tk0).2.2
        have hlen : (tbs T (k + 1)).length = (tbs T k).length + (vz (2 * (T.getD k tk0).2.2 - 7)).length + (vz ((T.getD k tk0).2.1 - 1)).length := by rw [HS.out, HE.out]; simp; omega
        have HL3 : Hid ((tbs T k).length + (vz (2 * (T.getD k tk0).2.2 - 7)).length + (vz ((T.getD k tk0).2.1 - 1)).length ≤ 700000) := Lib.hid (by rw [← hlen]; exact HLN.out)
        have hq : 1 ≤ (T.getD k tk0).2.1 ∧ (T.getD k tk0).2.1 ≤ 65536 ∧ 4 ≤ (T.getD k tk0).2.2 ∧ (T.getD k tk0).2.2 ≤ 1048576 := by unfold tcpy at hcp; rw [decide_eq_true_eq] at hcp; omega
        rw [← hzl, hrn] at H1
        clear hcp hrn hrt hlen
        rw [hzl] at H1
        generalize T.getD k tk0 = t at *
        obtain ⟨lit, o', l'⟩ := t
        simp only at *
        obtain ⟨q1, q2, q3, q4⟩ := hq
        have e1 : IntKind.i64.wrap (2 * l') = 2 * l' := IntWalk.i64_in _ (by omega)
        have e2 : IntKind.i64.wrap (2 * l' - 7) = 2 * l' - 7 := IntWalk.i64_in _ (by omega)
        have e3 : IntKind.u64.wrap (2 * l' - 7) = 2 * l' - 7 := IntWalk.u64_in _ (by omega)
        have e4 : IntKind.i64.wrap (o' - 1) = o' - 1 := IntWalk.i64_in _ (by omega)
        have e5 : IntKind.u64.wrap (o' - 1) = o' - 1 := IntWalk.u64_in _ (by omega)
        obtain ⟨c0, c1, c2, _⟩ := HF.out.below hb (Nat.le_refl _)
        go_wp2_with fail
        refine (H1 _).mono ?_
        rintro e w1 ⟨rfl, hb1⟩
        have ho1 := ho.below hb1
        have hbd1 := hb.trans (hb1.mono hb.size)
        clear c0 c1 c2 ho hb hb1 H1
        obtain ⟨c0, c1, c2, _⟩ := HF.out.below hbd1 (Nat.le_refl _)
        go_wp2_with fail
        refine (rbytes_any 10 (2 * l' - 7) _ (vsz_le _) (by omega) (by omega)).mono ?_
        rintro e w2 ⟨A2, m2, rfl, hb2, hbs2, hnil2, _⟩
        have ho2 := ho1.below hb2
        have hbd2 := hbd1.trans (hb2.mono hbd1.size)
        have hB2 := hbd2.size
        clear ho1 hbd1 hb2 c0 c1 c2
        go_wp2_with (at_builtin; go_must (refine list_append_gr rfl (.tmp 35) (.tmp 44) rfl w.heap.size _ _ rfl ho2 _ _ _ _ rfl hbs2 hnil2 (by have := HL3.out; omega) hB2 ?_; intro v3 w3 ho3 hg3 hgr3; have hbd3 := Own.belowOf hbd2 hB2 ho2 hg3; obtain ⟨A3, m3, hv3⟩ := ho3.slice; rw [List.length_append] at hv3; subst hv3; obtain ⟨c0, c1, c2, _⟩ := HF.out.below hbd3 (Nat.le_refl _); clear hg3 hgr3 hbs2 hbd2 hB2 ho2))
        refine (rbytes_any 10 (o' - 1) _ (vsz_le _) (by omega) (by omega)).mono ?_
        rintro e w4 ⟨A4, m4, rfl, hb4, hbs4, hnil4, _⟩
        have ho4 := ho3.below hb4
        have hbd4 := hbd3.trans (hb4.mono hbd3.size)
        have hB4 := hbd4.size
        clear ho3 hbd3 hb4 c0 c1 c2
        go_wp2_with (at_builtin; go_must (refine list_append_gr rfl (.tmp 46) (.tmp 54) rfl w.heap.size _ _ rfl ho4 _ _ _ _ rfl hbs4 hnil4 (by have := HL3.out; rw [List.length_append]; omega) hB4 ?_; intro v5 w5 ho5 hg5 hgr5; have hbd5 := Own.belowOf hbd4 hB4 ho4 hg5; clear hg5 hgr5 hbs4 hbd4 hB4 ho4))
        go_roundw
        case rel => exact ⟨k + 1, hlt, by go_num, by rw [HS.out, HE.out, ← List.append_assoc]; exact ho5, hbd5⟩
        case measure => simp [intOf]; omega
      ·
        have HE : Hid (tby (T.getD k tk0) = vz (2 * ((T.getD k tk0).1.length : Int) - 2) ++ (T.getD k tk0).1) := Lib.hid (by unfold tby; rw [hrn]; rfl)
        have H1 := rrun_any Ar Lr Cr (T.getD k tk0).2.1 (T.getD k tk0).2.2
        have hlen : (tbs T (k + 1)).length = (tbs T k).length + (vz (2 * ((T.getD k tk0).1.length : Int) - 2)).length + (T.getD k tk0).1.length := by rw [HS.out, HE.out]; simp; omega
        have HL3 : Hid ((tbs T k).length + (vz (2 * ((T.getD k tk0).1.length : Int) - 2)).length + (T.getD k tk0).1.length ≤ 700000) := Lib.hid (by rw [← hlen]; exact HLN.out)
        have hq : 1 ≤ Lr ∧ Lr ≤ 1048576 := by unfold trun at hrn; rw [decide_eq_true_eq] at hrn; omega
        rw [← hzl, hrn] at H1
        clear hrn hrt hlen
        rw [hzl] at H1
        rw [hzl] at HL3 HE
        generalize T.getD k tk0 = t at *
        obtain ⟨lit, o', l'⟩ := t
        simp only at *
        obtain ⟨q1, q2⟩ := hq
        have HZL := Lib.hid hzl
        clear hzl
        have e1 : IntKind.i64.wrap (2 * (Lr : Int)) = 2 * Lr := IntWalk.i64_in _ (by omega)
        have e2 : IntKind.i64.wrap (2 * (Lr : Int) - 2) = 2 * Lr - 2 := IntWalk.i64_in _ (by omega)
        have e3 : IntKind.u64.wrap (2 * (Lr : Int) - 2) = 2 * Lr - 2 := IntWalk.u64_in _ (by omega)
        obtain ⟨c0, c1, c2, _⟩ := HF.out.below hb (Nat.le_refl _)
        go_wp2_with fail
        refine (H1 _).mono ?_
        rintro e w1 ⟨rfl, hb1⟩
        have ho1 := ho.below hb1
        have hbd1 := hb.trans (hb1.mono hb.size)
        clear c0 c1 c2 ho hb hb1 H1
        obtain ⟨c0, c1, c2, _⟩ := HF.out.below hbd1 (Nat.le_refl _)
        go_wp2_with fail
        refine (rbytes_any 10 (2 * (Lr : Int) - 2) _ (vsz_le _) (by omega) (by omega)).mono ?_
        rintro e w2 ⟨A2, m2, rfl, hb2, hbs2, hnil2, _⟩
        have ho2 := ho1.below hb2
        have hbd2 := hbd1.trans (hb2.mono hbd1.size)
        have hB2 := hbd2.size
        clear ho1 hbd1 hb2 c0 c1 c2
        go_wp2_with (at_builtin; go_must (first | (refine list_append_gr rfl (.tmp 16) (.tmp 26) rfl w.heap.size _ _ rfl ho2 _ _ _ _ rfl hbs2 hnil2 (by have := HL3.out; omega) hB2 ?_; intro v3 w3 ho3 hg3 hgr3; have hbd3 := Own.belowOf hbd2 hB2 ho2 hg3; obtain ⟨A3, m3, hv3⟩ := ho3.slice; rw [List.length_append] at hv3; subst hv3; obtain ⟨c0, c1, c2, hlit⟩ := HF.out.below hbd3 (Nat.le_refl _); have hB3 := hbd3.size; clear hg3 hgr3 hbs2 hbd2 hB2 ho2) | (refine list_append_gr rfl (.tmp 28) (.tmp 33) rfl w.heap.size _ _ rfl ho3 _ _ _ _ rfl hlit hnil (by have := HL3.out; rw [List.length_append]; omega) hB3 ?_; intro v5 w5 ho5 hg5 hgr5; have hbd5 := Own.belowOf hbd3 hB3 ho3 hg5; clear hg5 hgr5 hlit hbd3 hB3 ho3)))
        go_roundw
        case rel => exact ⟨k + 1, hlt, by go_num, by rw [HS.out, HE.out, ← List.append_assoc]; exact ho5, hbd5⟩
        case measure => simp [intOf]; omega
    · obtain rfl : k = n := by omega
      obtain ⟨A3, c3, rfl⟩ := ho.slice
      go_wp2
      go_ret
      exact Own.rowPost (B := 0) ho hb
end Go.Proofs.YtmiimjgfainclaaGreat.Cur
namespace Go.Proofs.YtmiimjgfainclaaGreat.Cur
open Go.RowKit Mem
set_option linter.unusedVariables false
set_option maxHeartbeats 1000000 in
theorem thead_put {w : World} {B b : Nat} {r : Option Nat} {z : List Int} {M c : Int} (cp : Bool) (k : Int) (h : Wr w B b r z M c) (h0 : (if cp then 4 else 1) ≤ k) (h1 : k ≤ 1048576) (hsz : z.length ≤ 900000) (hBw : B ≤ w.heap.size) :
    Calls Tryz.prog 243 #[.pointer (some ⟨b, 0, none⟩), .bool cp, .int .i64 k] w (VPutPost B b r z M c (if cp then 2 * k - 7 else 2 * k - 2) w) := by
  cases cp
  · have h0' : 1 ≤ k := h0
    have e1 : IntKind.i64.wrap (k - 1) = k - 1 := IntWalk.i64_in _ (by omega)
    have e2 : IntKind.u64.wrap (k - 1) = k - 1 := IntWalk.u64_in _ (by omega)
    have e3 : IntKind.u64.wrap (2 * (k - 1)) = 2 * k - 2 := by rw [IntWalk.u64_in _ (by omega)]; omega
    go_enter Tryz.func243, Tryz.ntmps243
    go_wp2_with fail
    refine (limits_any _ _).mono ?_
    rintro e w1 ⟨rfl, rfl⟩
    rw [if_neg (by simp)]
    go_wp2_with fail
    refine (vput_any _ h (by omega) (by omega) hsz hBw).mono ?_
    rintro e w1 ⟨r1, rfl, hk1, hg1, hw1⟩
    go_wp2
    go_end0
    exact ⟨r1, rfl, hk1, hg1, hw1⟩
  · have h0' : 4 ≤ k := h0
    have e1 : IntKind.i64.wrap (k - 4) = k - 4 := IntWalk.i64_in _ (by omega)
    have e2 : IntKind.u64.wrap (k - 4) = k - 4 := IntWalk.u64_in _ (by omega)
    have e3 : IntKind.u64.wrap (2 * (k - 4)) = 2 * k - 8 := by rw [IntWalk.u64_in _ (by omega)]; omega
    have e4 : IntKind.u64.wrap (2 * k - 8 + 1) = 2 * k - 7 := by rw [IntWalk.u64_in _ (by omega)]; omega
    go_enter Tryz.func243, Tryz.ntmps243
    go_wp2_with fail
    refine (limits_any _ _).mono ?_
    rintro e w1 ⟨rfl, rfl⟩
    rw [if_pos rfl]
    go_wp2_with fail
    refine (vput_any _ h (by omega) (by omega) hsz hBw).mono ?_
    rintro e w1 ⟨r1, rfl, hk1, hg1, hw1⟩
    go_wp2
    go_end0
    exact ⟨r1, rfl, hk1, hg1, hw1⟩
def titems (t : Tk) : List (List Int) := if trun t.1.length t.2.1 t.2.2 then [vz (2 * (t.1.length : Int) - 2), t.1] else [vz (2 * t.2.2 - 7), vz (t.2.1 - 1)]
def tput (t : Tk) (z : List Int) (M c : Int) : List Int × Int := if tright t then puts (titems t) z M c else (z, if c = 0 then 3 else c)
theorem titems_flat (t : Tk) : (titems t).flatten = tby t := by unfold titems tby; split <;> simp
def WTokPost (B b : Nat) (r : Option Nat) (z : List Int) (t : Tk) (M c : Int) (w : World) (e : Ending) (w' : World) : Prop :=
  ∃ r', e = .returned (.tuple #[]) ∧ Ks (WS b r) w w' ∧ Gr r r' w ∧ Wr w' B b r' (tput t z M c).1 M (tput t z M c).2
theorem tput_le (t : Tk) (z : List Int) (M c : Int) : (tput t z M c).1.length ≤ z.length + (tby t).length := by
  unfold tput
  split
  · have := puts_le (titems t) z M c; rw [titems_flat] at this; exact this
  · show z.length ≤ _; omega
set_option maxHeartbeats 2000000 in
theorem tput_any {w : World} {B b : Nat} {r : Option Nat} {z : List Int} {M c : Int} (A : Option Addr) (n m : Nat) (t : Tk) (h : Wr w B b r z M c) (hy : Bs w A n t.1) (hA : A = none → m = 0) (hoff : 0 < n → ∀ a, A = some a → ¬ WS b r a.block)
    (hsz : z.length + n ≤ 800000) (hBw : B ≤ w.heap.size) :
    Calls Tryz.prog 231 #[.pointer (some ⟨b, 0, none⟩), tv A n m t.2.1 t.2.2] w (WTokPost B b r z t M c w) := by
  obtain ⟨y, o, l⟩ := t
  simp only at hy ⊢
  have hzl := hy.1
  have hlt : 0 < n → ∀ a, A = some a → a.block < w.heap.size := fun h0 => hy.lt h0
  obtain ⟨hX, hB⟩ := tbox w (.slice A n m) (.int .i64 o) (.int .i64 l) 201
  have hbl := hX.lt
  have HOFF := Lib.hid hoff
  have HLT := Lib.hid hlt
  clear hoff hlt
  cases hrn : trun n o l
  · cases hcp : tcpy n o l
    ·
      have E := tsz_no hrn hcp
      have HP : Hid (tput (y, o, l) z M c = (z, if c = 0 then 3 else c)) := Lib.hid (by unfold tput tright; simp only; rw [hzl, hrn, hcp]; rfl)
      have HT := tlen_any A n m o l
      rw [E] at HT
      clear E hrn hcp hzl
      have h1 := h.below hB
      go_enter Tryz.func231, Tryz.ntmps231
      obtain ⟨x0, x1, x2⟩ := hX.c3
      go_wp2_with fail
      refine (HT _).mono ?_
      rintro e w1 ⟨rfl, hb1⟩
      replace h1 := h1.below hb1
      replace hB := hB.trans (hb1.mono hB.size)
      clear hb1 x0 x1 x2 HT
      go_wp2_with fail
      refine (wfail_any _ h1).mono ?_
      rintro e w2 ⟨rfl, hk2, hw2⟩
      go_wp2
      go_end0
      exact ⟨r, rfl, (Ks.of_below hB).trans hk2, Gr.refl _ _, by rw [HP.out]; exact hw2⟩
    ·
      have E := tsz_cpy hcp
      have HP : Hid (tput (y, o, l) z M c = puts [vz (2 * l - 7), vz (o - 1)] z M c) := Lib.hid (by unfold tput tright titems; simp only; rw [hzl, hrn, hcp]; rfl)
      have HT := tlen_any A n m o l
      rw [E] at HT
      have hq : 1 ≤ o ∧ o ≤ 65536 ∧ 4 ≤ l ∧ l ≤ 1048576 := by unfold tcpy at hcp; rw [decide_eq_true_eq] at hcp; omega
      clear E hrn hcp hzl
      obtain ⟨q1, q2, q3, q4⟩ := hq
      have hle := putZ_le z (vz (2 * l - 7)) M c
      rw [vz_length] at hle
      have hv := vsz_le (2 * l - 7)
      have HLE : Hid ((putZ z (vz (2 * l - 7)) M c).length ≤ 900000) := Lib.hid (by omega)
      clear hle hv
      have hbl0 : (l == 0) = false := by simp; omega
      have hbo : (o == 0) = false := by simp; omega
      have e4 : IntKind.i64.wrap (o - 1) = o - 1 := IntWalk.i64_in _ (by omega)
      have e5 : IntKind.u64.wrap (o - 1) = o - 1 := IntWalk.u64_in _ (by omega)
      have h1 := h.below hB
      go_enter Tryz.func231, Tryz.ntmps231
      obtain ⟨x0, x1, x2⟩ := hX.c3
      go_wp2_with fail
      refine (HT _).mono ?_
      rintro e w1 ⟨rfl, hb1⟩
      replace h1 := h1.below hb1
      replace hX := hX.below hb1
      replace hB := hB.trans (hb1.mono hB.size)
      clear hb1 x0 x1 x2 HT
      obtain ⟨x0, x1, x2⟩ := hX.c3
      go_wp2_with fail
      refine (thead_put true l h1 q3 q4 (by omega) (Nat.le_trans hBw hB.size)).mono ?_
      rintro e w2 ⟨r2, rfl, hk2, hg2, hw2⟩
      rw [if_pos rfl] at hw2
      have hX2 := hX.ks hk2 (h.off (Nat.le_refl _))
      clear x0 x1 x2
      obtain ⟨x0, x1, x2⟩ := hX2.c3
      go_wp2_with fail
      refine (vput_any _ hw2 (by omega) (by omega) HLE.out (Nat.le_trans (Nat.le_trans hBw hB.size) hk2.size)).mono ?_
      rintro e w3 ⟨r3, rfl, hk3, hg3, hw3⟩
      go_wp2
      go_end0
      exact ⟨r3, rfl, (Ks.of_below hB).trans (Ks.wr hk2 hg2 hk3), ((Gr.refl _ _).trans hg2 hB.size).trans hg3 (Nat.le_trans hB.size hk2.size), by rw [HP.out]; exact hw3⟩
  ·
    have E := tsz_run hrn
    have HP : Hid (tput (y, o, l) z M c = puts [vz (2 * (n : Int) - 2), y] z M c) := Lib.hid (by unfold tput tright titems; simp only; rw [hzl, hrn]; rfl)
    have HT := tlen_any A n m o l
    rw [E] at HT
    have hq : o = 0 ∧ l = 0 ∧ 1 ≤ n ∧ n ≤ 1048576 := by unfold trun at hrn; rw [decide_eq_true_eq] at hrn; exact hrn
    clear E hrn hzl
    obtain ⟨rfl, rfl, q3, q4⟩ := hq
    have hle := putZ_le z (vz (2 * (n : Int) - 2)) M c
    rw [vz_length] at hle
    have hv := vsz_le (2 * (n : Int) - 2)
    have HLE : Hid ((putZ z (vz (2 * (n : Int) - 2)) M c).length + n ≤ 1000000) := Lib.hid (by omega)
    clear hle hv
    have hbn : ((n : Int) == 0) = false := by simp; omega
    have h1 := h.below hB
    go_enter Tryz.func231, Tryz.ntmps231
    obtain ⟨x0, x1, x2⟩ := hX.c3
    go_wp2_with fail
    refine (HT _).mono ?_
    rintro e w1 ⟨rfl, hb1⟩
    replace h1 := h1.below hb1
    replace hX := hX.below hb1
    replace hB := hB.trans (hb1.mono hB.size)
    have hy1 := hy.below ⟨hB.os, hB.tape, hB.output, hB.size, hB.block⟩
    clear hb1 x0 x1 x2 HT
    obtain ⟨x0, x1, x2⟩ := hX.c3
    go_wp2_with fail
    refine (thead_put false n h1 (by simp; omega) (by omega) (by omega) (Nat.le_trans hBw hB.size)).mono ?_
    rintro e w2 ⟨r2, rfl, hk2, hg2, hw2⟩
    rw [if_neg (by simp)] at hw2
    have hX2 := hX.ks hk2 (h.off (Nat.le_refl _))
    have hy2 := hy1.ks hk2 (fun h0 a ha => HOFF.out h0 a ha)
    clear x0 x1 x2
    obtain ⟨x0, x1, x2⟩ := hX2.c3
    go_wp2_with fail
    refine (wput_any _ _ _ hw2 hy2 hA (off_gr (w := w) HLT.out HOFF.out ((Gr.refl _ _).trans hg2 hB.size)) HLE.out (Nat.le_trans (Nat.le_trans hBw hB.size) hk2.size)).mono ?_
    rintro e w3 ⟨r3, rfl, hk3, hg3, hw3⟩
    go_wp2
    go_end0
    exact ⟨r3, rfl, (Ks.of_below hB).trans (Ks.wr hk2 hg2 hk3), ((Gr.refl _ _).trans hg2 hB.size).trans hg3 (Nat.le_trans hB.size hk2.size), by rw [HP.out]; exact hw3⟩
def tkw (T : List Tk) (M : Int) : Nat → List Int × Int
  | 0 => ([], 0)
  | k + 1 => tput (T.getD k tk0) (tkw T M k).1 M (tkw T M k).2
theorem tkw_le (T : List Tk) (M : Int) : ∀ k, k ≤ T.length → (tkw T M k).1.length ≤ (tbs T k).length := by
  intro k
  induction k with
  | zero => intro _; show 0 ≤ _; omega
  | succ k ih =>
    intro hk
    rw [tbs_succ (by omega), List.length_append]
    have h1 := ih (by omega)
    have h2 := tput_le (T.getD k tk0) (tkw T M k).1 M (tkw T M k).2
    show (tput (T.getD k tk0) (tkw T M k).1 M (tkw T M k).2).1.length ≤ _
    omega
theorem tw_all {T : List Tk} {M : Int} (hM : ((tbs T T.length).length : Int) ≤ M) : ∀ k, k ≤ T.length → (tall T k = true → tkw T M k = (tbs T k, 0)) ∧ (tall T k = false → (tkw T M k).2 = 3) := by
  intro k
  induction k with
  | zero => intro _; exact ⟨fun _ => by rw [tbs_zero]; rfl, fun h => by simp [tall] at h⟩
  | succ k ih =>
    intro hk
    obtain ⟨h1, h2⟩ := ih (by omega)
    have hm := tbs_mono (T := T) (k := k + 1) (j := T.length) hk (Nat.le_refl _)
    rw [tbs_succ (by omega), List.length_append] at hm
    show (_ → tput (T.getD k tk0) (tkw T M k).1 M (tkw T M k).2 = _) ∧ (_ → (tput (T.getD k tk0) (tkw T M k).1 M (tkw T M k).2).2 = 3)
    unfold tall tput
    cases ha : tall T k
    · rw [h2 ha]
      refine ⟨fun h => by simp at h, fun _ => ?_⟩
      split
      · rw [puts_bad _ (by decide)]
      · rfl
    · rw [h1 ha]
      cases hr : tright (T.getD k tk0)
      · exact ⟨fun h => by simp at h, fun _ => rfl⟩
      · refine ⟨fun _ => ?_, fun h => by simp at h⟩
        rw [if_pos rfl]
        show puts (titems (T.getD k tk0)) (tbs T k) M 0 = _
        rw [puts_fits (by rw [titems_flat]; omega), titems_flat, tbs_succ (by omega)]
def TBPost (T : List Tk) (w : World) (e : Ending) (w' : World) : Prop :=
  ∃ A n m, e = .returned (.tuple #[.slice A n m, .int .i64 (if tall T T.length then 0 else 3)]) ∧ Below w.heap.size w w' ∧ Bs w' A n (if tall T T.length then tbs T T.length else []) ∧ (0 < n → ∀ a, A = some a → w.heap.size ≤ a.block) ∧ n ≤ m ∧ (A = none → m = 0)
set_option maxRecDepth 100000 in
set_option maxHeartbeats 2000000 in
theorem tbytes_any (A : Option Addr) (n m : Nat) (T : List Tk) (w : World) (h : TksL w A n T) (hn : n ≤ 10000) (hsz : (tbs T n).length ≤ 600000) (hlit : ∀ i, (T.getD i tk0).1.length ≤ 100000) :
    Calls Tryz.prog 218 #[.slice A n m] w (TBPost T w) := by
  have HT := Lib.hid h
  have HSZ := Lib.hid hsz
  have HLT := Lib.hid hlit
  clear h hsz hlit
  go_enter Tryz.func218, Tryz.ntmps218
  go_wp2_with fail
  refine (wnew_any _ _ (by omega)).mono ?_
  rintro e w1 ⟨b, rfl, hbb, hb1, hw1⟩
  rw [if_neg (by omega)] at hw1
  go_wp2
  go_loopw [10] (fun i wr => ∃ (k : Nat) (r : Option Nat), k ≤ n ∧ i = .int .i64 k ∧ Below w.heap.size w wr ∧ Wr wr w.heap.size b r (tkw T 9223372036854775807 k).1 9223372036854775807 (tkw T 9223372036854775807 k).2) (fun i _ => n - (intOf i).toNat)
  case atStart => exact ⟨0, none, by omega, rfl, hb1, hw1⟩
  case round =>
    obtain ⟨k, r, hk, rfl, hb, hw⟩ := hrel
    by_cases hlt : k < n
    · obtain ⟨g, o, Ar, Lr, Cr, rfl, hF, hnil, hle⟩ := HT.out.2 k hlt
      have hl1 := tkw_le T 9223372036854775807 k (by rw [HT.out.1]; omega)
      have hl2 := tbs_mono (T := T) (k := k) (j := n) (by omega) (by rw [HT.out.1]; exact Nat.le_refl _)
      have hl3 := HLT.out k
      have hzl := hF.2.2.2.1
      have HLE : Hid ((tkw T 9223372036854775807 k).1.length + Lr ≤ 800000) := Lib.hid (by have := HSZ.out; omega)
      have HN : Hid (tkw T 9223372036854775807 (k + 1) = tput (T.getD k tk0) (tkw T 9223372036854775807 k).1 9223372036854775807 (tkw T 9223372036854775807 k).2) := Lib.hid rfl
      have hoff : 0 < Lr → ∀ a, Ar = some a → a.block < w.heap.size := fun h0 => hF.2.2.2.lt h0
      obtain ⟨c0, c1, c2, _⟩ := hF.below hb (Nat.le_refl _)
      have hX := Blk.new wr #[.slice Ar Lr Cr, .int .i64 (T.getD k tk0).2.1, .int .i64 (T.getD k tk0).2.2] 201
      have hbX := hb.alloc hb.size (.cells #[.slice Ar Lr Cr, .int .i64 (T.getD k tk0).2.1, .int .i64 (T.getD k tk0).2.2] 201)
      have hwX := hw.below (below_one wr (.cells #[.slice Ar Lr Cr, .int .i64 (T.getD k tk0).2.1, .int .i64 (T.getD k tk0).2.2] 201))
      obtain ⟨_, _, _, hlitX⟩ := hF.below hbX (Nat.le_refl _)
      obtain ⟨x0, x1, x2⟩ := hX.c3
      have HOFF := Lib.hid hoff
      clear hX hl1 hl2 hl3 hzl hoff hF hw hb
      generalize T.getD k tk0 = t at *
      go_wp2_with fail
      refine (tput_any Ar Lr Cr t hwX hlitX hnil (fun h0 a ha => hwX.off_lt (HOFF.out h0 a ha)) HLE.out hbX.size).mono ?_
      rintro e w2 ⟨r2, rfl, hk2, hg2, hw2⟩
      have hb2 := hwX.belowOf hbX (Nat.le_refl _) hk2 (Nat.le_refl _)
      clear hwX hlitX hbX hk2 hg2 x0 x1 x2 c0 c1 c2
      go_wp2
      go_roundw
      case rel => exact ⟨k + 1, r2, hlt, by go_num, hb2, by rw [HN.out]; exact hw2⟩
      case measure => simp [intOf]; omega
    · obtain rfl : k = n := by omega
      have hl1 := tkw_le T 9223372036854775807 k (by rw [HT.out.1]; exact Nat.le_refl _)
      obtain ⟨ha1, ha2⟩ := tw_all (T := T) (M := 9223372036854775807) (by rw [HT.out.1]; have := HSZ.out; omega) k (by rw [HT.out.1]; exact Nat.le_refl _)
      have hTl := HT.out.1
      cases ha : tall T k
      · have hc := ha2 ha
        rw [hc] at hw
        have HA : Hid (tall T T.length = false) := Lib.hid (by rw [hTl]; exact ha)
        clear ha1 ha2 ha hc
        go_wp2_with fail
        refine (wbytes_bad hw rfl).mono ?_
        rintro e w2 ⟨rfl, rfl⟩
        go_wp2
        go_ret2
        exact ⟨none, 0, 0, by rw [HA.out]; rfl, hb, by rw [HA.out]; exact Bs.none _, fun h => absurd h (by omega), by omega, fun _ => rfl⟩
      · have hc := ha1 ha
        rw [hc] at hw
        have HA : Hid (tall T T.length = true) := Lib.hid (by rw [hTl]; exact ha)
        have HL := Lib.hid hTl
        clear ha1 ha2 ha hc
        go_wp2_with fail
        refine (wbytes_good hw (by have := HSZ.out; omega)).mono ?_
        rintro e w2 ⟨g, rfl, hg, hb2, hblk⟩
        go_wp2
        go_ret2
        exact ⟨some ⟨g, 0, none⟩, _, _, by rw [HA.out]; rfl, hb.trans (hb2.mono hb.size), by rw [HA.out, HL.out]; exact Bs.of_block hblk, fun _ a ha => by injection ha with ha; subst ha; exact Nat.le_trans hb.size hg, Nat.le_refl _, fun h => by cases h⟩
end Go.Proofs.YtmiimjgfainclaaGreat.Cur
namespace Go.Proofs.YtmiimjgfainclaaGreat.Cur
open Go.RowKit Mem
set_option linter.unusedVariables false
end Go.Proofs.YtmiimjgfainclaaGreat.Cur
namespace Go.Proofs.YtmiimjgfainclaaGreat.Cur
open Go.RowKit Mem
set_option linter.unusedVariables false
def hdv (x : Int) : Bool × Int := if x % 2 = 1 then (true, x / 2 + 4) else (false, x / 2 + 1)
def hd (z : List Int) (p : Int) : Rs (Bool × Int) := (vg z p).bind (false, 0) fun x p1 => if 1048576 < (hdv x).2 then ((false, 0), 0, 2, p) else (hdv x, p1, 0, 0)
def tkofs (z : List Int) (p : Int) : Rs Int := (vg z p).bind 0 fun x p1 => if 65535 < x then (0, 0, 10, p) else (x + 1, p1, 0, 0)
def trb (z : List Int) (h : Bool × Int) (p1 : Int) : Rs Tk := if h.1 then (tkofs z p1).bind tk0 fun o p2 => (([], o, h.2), p2, 0, 0) else (tk z h.2 p1).bind tk0 fun y p2 => ((y, 0, 0), p2, 0, 0)
def tr (z : List Int) (p : Int) : Rs Tk := (hd z p).bind tk0 (trb z)
theorem St.fin {α β : Type} {d1 : α} {d : β} {n : Nat} {g : Rs α} {r : α → β} {p c q : Int} {v : α} {p1 c1 q1 : Int} (h : St d1 n g p c q v p1 c1 q1) :
    St d n (g.bind d fun x p2 => (r x, p2, 0, 0)) p c q (if c1 = 0 then r v else d) p1 c1 q1 := by
  have hp := h.place
  refine h.bind ?_
  by_cases hc : c1 = 0
  · subst hc
    rw [if_pos rfl]
    exact St.done rfl hp.1 hp.2
  · rw [if_neg hc]
    exact St.stay hp.1 hp.2 hc
end Go.Proofs.YtmiimjgfainclaaGreat.Cur
namespace Go.Proofs.YtmiimjgfainclaaGreat.Cur
open Go.RowKit Mem
set_option linter.unusedVariables false
end Go.Proofs.YtmiimjgfainclaaGreat.Cur
namespace Go.Proofs.YtmiimjgfainclaaGreat.Cur
open Go.RowKit Mem
set_option linter.unusedVariables false
theorem piece_add {z : List Int} {a b c : Nat} (h1 : a ≤ b) (h2 : b ≤ c) : piece z a b ++ piece z b c = piece z a c := by
  unfold piece
  have : z.drop b = (z.drop a).drop (b - a) := by rw [List.drop_drop]; congr 1; omega
  rw [this, ← List.take_add]
  congr 1
  omega
def TkV (w : World) (vs : List Value) (T : List Tk) : Prop :=
  vs.length = T.length * 3 ∧ ∀ i, i < T.length → ∃ v, vs[i * 3]? = some v ∧ vs[i * 3 + 1]? = some (.int .i64 (T.getD i tk0).2.1) ∧ vs[i * 3 + 2]? = some (.int .i64 (T.getD i tk0).2.2) ∧ Own w 0 v (T.getD i tk0).1
def TkOwn (w : World) (B : Nat) (v : Value) (T : List Tk) : Prop := ∃ vs, w.ownsRow B 201 3 v T.length vs ∧ TkV w vs T
theorem kindK : Kind 186 201 (.agg #[.slice none 0 0, .int .i64 0, .int .i64 0]) 3 40 := ⟨Tryz.underlying186, by kernel_rfl, rfl, by decide⟩
theorem TkOwn.nil (w : World) (B : Nat) : TkOwn w B (.slice none 0 0) [] := ⟨[], World.ownsRow_nil w B 201 3, rfl, fun i hi => absurd hi (by simp)⟩
theorem TkV.keep {w w' : World} {vs : List Value} {T : List Tk} (h : TkV w vs T) (hk : ∀ v z, Own w 0 v z → Own w' 0 v z) : TkV w' vs T :=
  ⟨h.1, fun i hi => by obtain ⟨v, a, b, c, d⟩ := h.2 i hi; exact ⟨v, a, b, c, hk _ _ d⟩⟩
theorem TkOwn.below {w w' : World} {B : Nat} {v : Value} {T : List Tk} (h : TkOwn w B v T) (hb : Below w.heap.size w w') : TkOwn w' B v T := by
  obtain ⟨vs, h1, h2⟩ := h
  exact ⟨vs, own_below h1 hb, h2.keep fun v z ho => ho.below hb⟩
theorem TkOwn.kp_blk {w w' : World} {B b : Nat} {v : Value} {T : List Tk} {cs : Array Value} {t : Nat} (h : TkOwn w B v T) (hr : Blk w b cs t) (h1 : t ≠ 5) (h2 : t ≠ 201 ∨ v.ownBlock ≠ some b) (hb : Kp b w w') : TkOwn w' B v T := by
  obtain ⟨vs, k1, k2⟩ := h
  refine ⟨vs, own_kp k1 hb ?_, k2.keep fun v z ho => own_kp ho hb (ho.ne_blk hr h1)⟩
  rcases h2 with h2 | h2
  · exact own_ne_blk k1 hr h2
  · exact h2
theorem TkOwn.base {w : World} {B B' : Nat} {v : Value} {T : List Tk} (h : TkOwn w B v T) (hB : ∀ g, v.ownBlock = some g → B' ≤ g) : TkOwn w B' v T := by
  obtain ⟨vs, k1, k2⟩ := h
  exact ⟨vs, own_base k1 hB, k2⟩
theorem TkOwn.ge {w : World} {B : Nat} {v : Value} {T : List Tk} (h : TkOwn w B v T) : ∀ g, v.ownBlock = some g → B ≤ g := by
  obtain ⟨vs, k1, _⟩ := h
  exact own_ge k1
theorem TkOwn.lt {w : World} {B : Nat} {v : Value} {T : List Tk} (h : TkOwn w B v T) : ∀ g, v.ownBlock = some g → g < w.heap.size := by
  obtain ⟨vs, k1, _⟩ := h
  exact fun g hg => (World.ownsRow.lt k1 g hg).2
theorem TkOwn.slice {w : World} {B : Nat} {v : Value} {T : List Tk} (h : TkOwn w B v T) : ∃ A c, v = .slice A T.length c := by
  obtain ⟨vs, k1, _⟩ := h
  obtain ⟨A, c, e, _⟩ := own_slice k1
  exact ⟨A, c, e⟩
theorem Own.parts {w : World} {B : Nat} {v : Value} {z : List Int} (h : Own w B v z) : ∃ A c, v = .slice A z.length c ∧ Bs w A z.length z ∧ (A = none → c = 0) ∧ z.length ≤ c := by
  obtain ⟨A, c, rfl⟩ := h.slice
  refine ⟨A, c, rfl, h.bs.2, ?_, h.cap⟩
  intro e
  subst e
  rcases h.2 with ⟨e, _⟩ | ⟨g, cap, cur, e, _⟩
  · injection e
  · injection e with e; cases e
theorem TkOwn.tks {w : World} {B n c : Nat} {A : Option Addr} {T : List Tk} (h : TkOwn w B (.slice A n c) T) : n = T.length ∧ n ≤ c ∧ (A = none → c = 0) ∧ TksL w A n T := by
  obtain ⟨vs, k1, k2⟩ := h
  obtain ⟨h1, h2, h3, h4⟩ := own_rw k1 rfl
  refine ⟨h1, by omega, h3, h1.symm, fun i hi => ?_⟩
  obtain ⟨b, o, e, hc⟩ := h4 (by rw [k2.1]; omega)
  obtain ⟨v, a0, a1, a2, ho⟩ := k2.2 i (by omega)
  obtain ⟨Ar, Cr, rfl, hbs, hn, hle⟩ := ho.parts
  refine ⟨b, o, Ar, _, Cr, e, ⟨hc _ _ a0, ?_, ?_, hbs⟩, hn, hle⟩
  · have := hc _ _ a1; rwa [← Nat.add_assoc] at this
  · have := hc _ _ a2; rwa [← Nat.add_assoc] at this
theorem own_far_own {w : World} {B B' e e' size size' n n' : Nat} {v v' : Value} {xs xs' : List Value} (h : w.ownsRow B e size v n xs) (h' : w.ownsRow B' e' size' v' n' xs') (he : e ≠ e') {g : Nat} (hg : v.ownBlock = some g) : v'.ownBlock ≠ some g := by
  rcases h.2 with ⟨rfl, _⟩ | ⟨k, cap, cur, rfl, _, hh, _⟩
  · simp [Value.ownBlock] at hg
  · have : k = g := by simpa [Value.ownBlock] using hg
    subst this
    rcases h'.2 with ⟨rfl, _⟩ | ⟨k', cap', cur', rfl, _, hh', _⟩
    · simp [Value.ownBlock]
    · intro e2
      have : k' = k := by simpa [Value.ownBlock] using e2
      subst this
      rw [hh] at hh'
      injection hh' with hh'
      injection hh' with _ hh'
      exact he hh'
theorem TkOwn.snoc {w w' : World} {B : Nat} {v v' u : Value} {T : List Tk} {vs : List Value} {t : Tk} (h1 : w.ownsRow B 201 3 v T.length vs) (h2 : TkV w vs T) (hu : Own w 0 u t.1)
    (k1 : w'.ownsRow B 201 3 v' (T.length + 1) (vs ++ [u, .int .i64 t.2.1, .int .i64 t.2.2])) (k2 : w.grownBy w' v.ownBlock) : TkOwn w' B v' (T ++ [t]) := by
  have hko : ∀ x z, Own w 0 x z → Own w' 0 x z := fun x z ho => own_ks ho (Ks.of_grown (S := fun k => v.ownBlock = some k) k2 fun k e => e) fun g hg e => own_far_own h1 ho (by decide) e hg
  refine ⟨_, by rw [List.length_append]; exact k1, ?_, fun i hi => ?_⟩
  · rw [List.length_append, List.length_append, h2.1]; simp; omega
  · rw [List.length_append, List.length_singleton] at hi
    rcases Nat.lt_succ_iff_lt_or_eq.1 hi with h | rfl
    · obtain ⟨x, a0, a1, a2, ho⟩ := h2.2 i h
      have : (T ++ [t]).getD i tk0 = T.getD i tk0 := by rw [List.getD_eq_getElem?_getD, List.getElem?_append_left h, ← List.getD_eq_getElem?_getD]
      rw [this]
      have hl := h2.1
      exact ⟨x, by rw [List.getElem?_append_left (by omega)]; exact a0, by rw [List.getElem?_append_left (by omega)]; exact a1, by rw [List.getElem?_append_left (by omega)]; exact a2, hko _ _ ho⟩
    · have : (T ++ [t]).getD T.length tk0 = t := by rw [List.getD_eq_getElem?_getD, List.getElem?_append_right (Nat.le_refl _)]; simp
      rw [this]
      have hl := h2.1
      refine ⟨u, ?_, ?_, ?_, hko _ _ hu⟩
      · rw [List.getElem?_append_right (by omega), hl, Nat.sub_self]; rfl
      · rw [List.getElem?_append_right (by omega), hl, Nat.add_sub_cancel_left]; rfl
      · rw [List.getElem?_append_right (by omega), hl, Nat.add_sub_cancel_left]; rfl
end Go.Proofs.YtmiimjgfainclaaGreat.Cur
namespace Go.Proofs.YtmiimjgfainclaaGreat.Cur
open Go.RowKit Mem
set_option linter.unusedVariables false
end Go.Proofs.YtmiimjgfainclaaGreat.Cur
namespace Go.Proofs.YtmiimjgfainclaaGreat.Cur
open Go.RowKit Mem
set_option linter.unusedVariables false
end Go.Proofs.YtmiimjgfainclaaGreat.Cur
namespace Go.Proofs.YtmiimjgfainclaaGreat.Cur
open Go.RowKit Mem
set_option linter.unusedVariables false
def tcat (T : List Tk) : List Int := (T.map tby).flatten
theorem tbs_tcat (T : List Tk) : tbs T T.length = tcat T := by
  unfold tbs flat tcat
  rw [List.take_of_length_le (by simp)]
theorem tall_all {T : List Tk} (h : ∀ t ∈ T, tright t = true) : ∀ k, k ≤ T.length → tall T k = true := by
  intro k
  induction k with
  | zero => intro _; rfl
  | succ k ih =>
    intro hk
    have : tall T (k + 1) = (tall T k && tright (T.getD k tk0)) := rfl
    rw [this, ih (by omega), Bool.true_and]
    refine h _ ?_
    rw [List.getD_eq_getElem?_getD, List.getElem?_eq_getElem (by omega)]
    exact List.getElem_mem (by omega)
end Go.Proofs.YtmiimjgfainclaaGreat.Cur
namespace Go.Proofs.YtmiimjgfainclaaGreat.Cur
open Go.RowKit Mem
set_option linter.unusedVariables false
end Go.Proofs.YtmiimjgfainclaaGreat.Cur
namespace Go.Proofs.YtmiimjgfainclaaGreat.Cur
open Go.RowKit Mem
set_option linter.unusedVariables false
end Go.Proofs.YtmiimjgfainclaaGreat.Cur
