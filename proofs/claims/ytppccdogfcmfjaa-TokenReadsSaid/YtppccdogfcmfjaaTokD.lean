/- Tokens written by the program: putHead, Put, Bytes. -/
import Derived.Test.YtppccdogfcmfjaaTokC
import Derived.Test.YtppccdogfcmfjaaK3
import Derived.Test.YtppccdogfcmfjaaK6
namespace Go.Proofs.Ytppccdogfcmfjaa.Cur
open Go.RowKit Mem
set_option linter.unusedVariables false

set_option maxHeartbeats 1000000 in
theorem thead_put {w : World} {B b : Nat} {r : Option Nat} {z : List Int} {M c : Int} (cp : Bool) (k : Int) (h : Wr w B b r z M c) (h0 : (if cp then 4 else 1) ≤ k) (h1 : k ≤ 1048576) (hsz : z.length ≤ 900000) (hBw : B ≤ w.heap.size) :
    Calls Try.prog 36 #[.pointer (some ⟨b, 0, none⟩), .bool cp, .int .i64 k] w (VPutPost B b r z M c (if cp then 2 * k - 7 else 2 * k - 2) w) := by
  cases cp
  · have h0' : 1 ≤ k := h0
    have e1 : IntKind.i64.wrap (k - 1) = k - 1 := IntWalk.i64_in _ (by omega)
    have e2 : IntKind.u64.wrap (k - 1) = k - 1 := IntWalk.u64_in _ (by omega)
    have e3 : IntKind.u64.wrap (2 * (k - 1)) = 2 * k - 2 := by rw [IntWalk.u64_in _ (by omega)]; omega
    go_enter Try.func36, Try.ntmps36
    go_wp2_with fail
    refine (limits_any _ _).mono ?_
    rintro e w1 ⟨rfl, rfl⟩
    rw [if_neg (by simp)]
    go_wp2_with fail
    refine (vput_any _ h (by omega) (by omega) hsz hBw).mono ?_
    rintro e w1 ⟨r1, rfl, hk1, hg1, hw1⟩
    go_wp2
    go_end0
    exact ⟨r1, rfl, hk1, hg1, hw1⟩
  · have h0' : 4 ≤ k := h0
    have e1 : IntKind.i64.wrap (k - 4) = k - 4 := IntWalk.i64_in _ (by omega)
    have e2 : IntKind.u64.wrap (k - 4) = k - 4 := IntWalk.u64_in _ (by omega)
    have e3 : IntKind.u64.wrap (2 * (k - 4)) = 2 * k - 8 := by rw [IntWalk.u64_in _ (by omega)]; omega
    have e4 : IntKind.u64.wrap (2 * k - 8 + 1) = 2 * k - 7 := by rw [IntWalk.u64_in _ (by omega)]; omega
    go_enter Try.func36, Try.ntmps36
    go_wp2_with fail
    refine (limits_any _ _).mono ?_
    rintro e w1 ⟨rfl, rfl⟩
    rw [if_pos rfl]
    go_wp2_with fail
    refine (vput_any _ h (by omega) (by omega) hsz hBw).mono ?_
    rintro e w1 ⟨r1, rfl, hk1, hg1, hw1⟩
    go_wp2
    go_end0
    exact ⟨r1, rfl, hk1, hg1, hw1⟩

/-- What a writer has behind a token, and its code. -/
def titems (t : Tk) : List (List Int) := if trun t.1.length t.2.1 t.2.2 then [vz (2 * (t.1.length : Int) - 2), t.1] else [vz (2 * t.2.2 - 7), vz (t.2.1 - 1)]
def tput (t : Tk) (z : List Int) (M c : Int) : List Int × Int := if tright t then puts (titems t) z M c else (z, if c = 0 then 3 else c)
theorem titems_flat (t : Tk) : (titems t).flatten = tby t := by unfold titems tby; split <;> simp
def WTokPost (B b : Nat) (r : Option Nat) (z : List Int) (t : Tk) (M c : Int) (w : World) (e : Ending) (w' : World) : Prop :=
  ∃ r', e = .returned (.tuple #[]) ∧ Ks (WS b r) w w' ∧ Gr r r' w ∧ Wr w' B b r' (tput t z M c).1 M (tput t z M c).2
theorem tput_le (t : Tk) (z : List Int) (M c : Int) : (tput t z M c).1.length ≤ z.length + (tby t).length := by
  unfold tput
  split
  · have := puts_le (titems t) z M c; rw [titems_flat] at this; exact this
  · show z.length ≤ _; omega

set_option maxHeartbeats 2000000 in
theorem tput_any {w : World} {B b : Nat} {r : Option Nat} {z : List Int} {M c : Int} (A : Option Addr) (n m : Nat) (t : Tk) (h : Wr w B b r z M c) (hy : Bs w A n t.1) (hA : A = none → m = 0) (hoff : 0 < n → ∀ a, A = some a → ¬ WS b r a.block)
    (hsz : z.length + n ≤ 800000) (hBw : B ≤ w.heap.size) :
    Calls Try.prog 14 #[.pointer (some ⟨b, 0, none⟩), tv A n m t.2.1 t.2.2] w (WTokPost B b r z t M c w) := by
  obtain ⟨y, o, l⟩ := t
  simp only at hy ⊢
  have hzl := hy.1
  have hlt : 0 < n → ∀ a, A = some a → a.block < w.heap.size := fun h0 => hy.lt h0
  obtain ⟨hX, hB⟩ := tbox w (.slice A n m) (.int .i64 o) (.int .i64 l) 28
  have hbl := hX.lt
  have HOFF := Lib.hid hoff
  have HLT := Lib.hid hlt
  clear hoff hlt
  cases hrn : trun n o l
  · cases hcp : tcpy n o l
    · -- none
      have E := tsz_no hrn hcp
      have HP : Hid (tput (y, o, l) z M c = (z, if c = 0 then 3 else c)) := Lib.hid (by unfold tput tright; simp only; rw [hzl, hrn, hcp]; rfl)
      have HT := tlen_any A n m o l
      rw [E] at HT
      clear E hrn hcp hzl
      have h1 := h.below hB
      go_enter Try.func14, Try.ntmps14
      obtain ⟨x0, x1, x2⟩ := hX.c3
      go_wp2_with fail
      refine (HT _).mono ?_
      rintro e w1 ⟨rfl, hb1⟩
      replace h1 := h1.below hb1
      replace hB := hB.trans (hb1.mono hB.size)
      clear hb1 x0 x1 x2 HT
      go_wp2_with fail
      refine (wfail_any _ h1).mono ?_
      rintro e w2 ⟨rfl, hk2, hw2⟩
      go_wp2
      go_end0
      exact ⟨r, rfl, (Ks.of_below hB).trans hk2, Gr.refl _ _, by rw [HP.out]; exact hw2⟩
    · -- a copy
      have E := tsz_cpy hcp
      have HP : Hid (tput (y, o, l) z M c = puts [vz (2 * l - 7), vz (o - 1)] z M c) := Lib.hid (by unfold tput tright titems; simp only; rw [hzl, hrn, hcp]; rfl)
      have HT := tlen_any A n m o l
      rw [E] at HT
      have hq : 1 ≤ o ∧ o ≤ 65536 ∧ 4 ≤ l ∧ l ≤ 1048576 := by unfold tcpy at hcp; rw [decide_eq_true_eq] at hcp; omega
      clear E hrn hcp hzl
      obtain ⟨q1, q2, q3, q4⟩ := hq
      have hle := putZ_le z (vz (2 * l - 7)) M c
      rw [vz_length] at hle
      have hv := vsz_le (2 * l - 7)
      have HLE : Hid ((putZ z (vz (2 * l - 7)) M c).length ≤ 900000) := Lib.hid (by omega)
      clear hle hv
      have hbl0 : (l == 0) = false := by simp; omega
      have hbo : (o == 0) = false := by simp; omega
      have e4 : IntKind.i64.wrap (o - 1) = o - 1 := IntWalk.i64_in _ (by omega)
      have e5 : IntKind.u64.wrap (o - 1) = o - 1 := IntWalk.u64_in _ (by omega)
      have h1 := h.below hB
      go_enter Try.func14, Try.ntmps14
      obtain ⟨x0, x1, x2⟩ := hX.c3
      go_wp2_with fail
      refine (HT _).mono ?_
      rintro e w1 ⟨rfl, hb1⟩
      replace h1 := h1.below hb1
      replace hX := hX.below hb1
      replace hB := hB.trans (hb1.mono hB.size)
      clear hb1 x0 x1 x2 HT
      obtain ⟨x0, x1, x2⟩ := hX.c3
      go_wp2_with fail
      refine (thead_put true l h1 q3 q4 (by omega) (Nat.le_trans hBw hB.size)).mono ?_
      rintro e w2 ⟨r2, rfl, hk2, hg2, hw2⟩
      rw [if_pos rfl] at hw2
      have hX2 := hX.ks hk2 (h.off (Nat.le_refl _))
      clear x0 x1 x2
      obtain ⟨x0, x1, x2⟩ := hX2.c3
      go_wp2_with fail
      refine (vput_any _ hw2 (by omega) (by omega) HLE.out (Nat.le_trans (Nat.le_trans hBw hB.size) hk2.size)).mono ?_
      rintro e w3 ⟨r3, rfl, hk3, hg3, hw3⟩
      go_wp2
      go_end0
      exact ⟨r3, rfl, (Ks.of_below hB).trans (Ks.wr hk2 hg2 hk3), ((Gr.refl _ _).trans hg2 hB.size).trans hg3 (Nat.le_trans hB.size hk2.size), by rw [HP.out]; exact hw3⟩
  · -- a run
    have E := tsz_run hrn
    have HP : Hid (tput (y, o, l) z M c = puts [vz (2 * (n : Int) - 2), y] z M c) := Lib.hid (by unfold tput tright titems; simp only; rw [hzl, hrn]; rfl)
    have HT := tlen_any A n m o l
    rw [E] at HT
    have hq : o = 0 ∧ l = 0 ∧ 1 ≤ n ∧ n ≤ 1048576 := by unfold trun at hrn; rw [decide_eq_true_eq] at hrn; exact hrn
    clear E hrn hzl
    obtain ⟨rfl, rfl, q3, q4⟩ := hq
    have hle := putZ_le z (vz (2 * (n : Int) - 2)) M c
    rw [vz_length] at hle
    have hv := vsz_le (2 * (n : Int) - 2)
    have HLE : Hid ((putZ z (vz (2 * (n : Int) - 2)) M c).length + n ≤ 1000000) := Lib.hid (by omega)
    clear hle hv
    have hbn : ((n : Int) == 0) = false := by simp; omega
    have h1 := h.below hB
    go_enter Try.func14, Try.ntmps14
    obtain ⟨x0, x1, x2⟩ := hX.c3
    go_wp2_with fail
    refine (HT _).mono ?_
    rintro e w1 ⟨rfl, hb1⟩
    replace h1 := h1.below hb1
    replace hX := hX.below hb1
    replace hB := hB.trans (hb1.mono hB.size)
    have hy1 := hy.below ⟨hB.os, hB.tape, hB.output, hB.size, hB.block⟩
    clear hb1 x0 x1 x2 HT
    obtain ⟨x0, x1, x2⟩ := hX.c3
    go_wp2_with fail
    refine (thead_put false n h1 (by simp; omega) (by omega) (by omega) (Nat.le_trans hBw hB.size)).mono ?_
    rintro e w2 ⟨r2, rfl, hk2, hg2, hw2⟩
    rw [if_neg (by simp)] at hw2
    have hX2 := hX.ks hk2 (h.off (Nat.le_refl _))
    have hy2 := hy1.ks hk2 (fun h0 a ha => HOFF.out h0 a ha)
    clear x0 x1 x2
    obtain ⟨x0, x1, x2⟩ := hX2.c3
    go_wp2_with fail
    refine (wput_any _ _ _ hw2 hy2 hA (off_gr (w := w) HLT.out HOFF.out ((Gr.refl _ _).trans hg2 hB.size)) HLE.out (Nat.le_trans (Nat.le_trans hBw hB.size) hk2.size)).mono ?_
    rintro e w3 ⟨r3, rfl, hk3, hg3, hw3⟩
    go_wp2
    go_end0
    exact ⟨r3, rfl, (Ks.of_below hB).trans (Ks.wr hk2 hg2 hk3), ((Gr.refl _ _).trans hg2 hB.size).trans hg3 (Nat.le_trans hB.size hk2.size), by rw [HP.out]; exact hw3⟩

/-- What a writer has behind the first k, and its code. -/
def tw (T : List Tk) (M : Int) : Nat → List Int × Int
  | 0 => ([], 0)
  | k + 1 => tput (T.getD k tk0) (tw T M k).1 M (tw T M k).2
theorem tw_le (T : List Tk) (M : Int) : ∀ k, k ≤ T.length → (tw T M k).1.length ≤ (tbs T k).length := by
  intro k
  induction k with
  | zero => intro _; show 0 ≤ _; omega
  | succ k ih =>
    intro hk
    rw [tbs_succ (by omega), List.length_append]
    have h1 := ih (by omega)
    have h2 := tput_le (T.getD k tk0) (tw T M k).1 M (tw T M k).2
    show (tput (T.getD k tk0) (tw T M k).1 M (tw T M k).2).1.length ≤ _
    omega
theorem tw_all {T : List Tk} {M : Int} (hM : ((tbs T T.length).length : Int) ≤ M) : ∀ k, k ≤ T.length → (tall T k = true → tw T M k = (tbs T k, 0)) ∧ (tall T k = false → (tw T M k).2 = 3) := by
  intro k
  induction k with
  | zero => intro _; exact ⟨fun _ => by rw [tbs_zero]; rfl, fun h => by simp [tall] at h⟩
  | succ k ih =>
    intro hk
    obtain ⟨h1, h2⟩ := ih (by omega)
    have hm := tbs_mono (T := T) (k := k + 1) (j := T.length) hk (Nat.le_refl _)
    rw [tbs_succ (by omega), List.length_append] at hm
    show (_ → tput (T.getD k tk0) (tw T M k).1 M (tw T M k).2 = _) ∧ (_ → (tput (T.getD k tk0) (tw T M k).1 M (tw T M k).2).2 = 3)
    unfold tall tput
    cases ha : tall T k
    · rw [h2 ha]
      refine ⟨fun h => by simp at h, fun _ => ?_⟩
      split
      · rw [puts_bad _ (by decide)]
      · rfl
    · rw [h1 ha]
      cases hr : tright (T.getD k tk0)
      · exact ⟨fun h => by simp at h, fun _ => rfl⟩
      · refine ⟨fun _ => ?_, fun h => by simp at h⟩
        rw [if_pos rfl]
        show puts (titems (T.getD k tk0)) (tbs T k) M 0 = _
        rw [puts_fits (by rw [titems_flat]; omega), titems_flat, tbs_succ (by omega)]

/-- What comes of tokens that are written. -/
def TBPost (T : List Tk) (w : World) (e : Ending) (w' : World) : Prop :=
  ∃ A n m, e = .returned (.tuple #[.slice A n m, .int .i64 (if tall T T.length then 0 else 3)]) ∧ Below w.heap.size w w' ∧ Bs w' A n (if tall T T.length then tbs T T.length else []) ∧ (0 < n → ∀ a, A = some a → w.heap.size ≤ a.block) ∧ n ≤ m ∧ (A = none → m = 0)

set_option maxRecDepth 100000 in
set_option maxHeartbeats 2000000 in
theorem tbytes_any (A : Option Addr) (n m : Nat) (T : List Tk) (w : World) (h : TksL w A n T) (hn : n ≤ 10000) (hsz : (tbs T n).length ≤ 600000) (hlit : ∀ i, (T.getD i tk0).1.length ≤ 100000) :
    Calls Try.prog 18 #[.slice A n m] w (TBPost T w) := by
  have HT := Lib.hid h
  have HSZ := Lib.hid hsz
  have HLT := Lib.hid hlit
  clear h hsz hlit
  go_enter Try.func18, Try.ntmps18
  go_wp2_with fail
  refine (wnew_any _ _ (by omega)).mono ?_
  rintro e w1 ⟨b, rfl, hbb, hb1, hw1⟩
  rw [if_neg (by omega)] at hw1
  go_wp2
  go_loopw [10] (fun i wr => ∃ (k : Nat) (r : Option Nat), k ≤ n ∧ i = .int .i64 k ∧ Below w.heap.size w wr ∧ Wr wr w.heap.size b r (tw T 9223372036854775807 k).1 9223372036854775807 (tw T 9223372036854775807 k).2) (fun i _ => n - (intOf i).toNat)
  case atStart => exact ⟨0, none, by omega, rfl, hb1, hw1⟩
  case round =>
    obtain ⟨k, r, hk, rfl, hb, hw⟩ := hrel
    by_cases hlt : k < n
    · obtain ⟨g, o, Ar, Lr, Cr, rfl, hF, hnil, hle⟩ := HT.out.2 k hlt
      have hl1 := tw_le T 9223372036854775807 k (by rw [HT.out.1]; omega)
      have hl2 := tbs_mono (T := T) (k := k) (j := n) (by omega) (by rw [HT.out.1]; exact Nat.le_refl _)
      have hl3 := HLT.out k
      have hzl := hF.2.2.2.1
      have HLE : Hid ((tw T 9223372036854775807 k).1.length + Lr ≤ 800000) := Lib.hid (by have := HSZ.out; omega)
      have HN : Hid (tw T 9223372036854775807 (k + 1) = tput (T.getD k tk0) (tw T 9223372036854775807 k).1 9223372036854775807 (tw T 9223372036854775807 k).2) := Lib.hid rfl
      have hoff : 0 < Lr → ∀ a, Ar = some a → a.block < w.heap.size := fun h0 => hF.2.2.2.lt h0
      obtain ⟨c0, c1, c2, _⟩ := hF.below hb (Nat.le_refl _)
      have hX := Blk.new wr #[.slice Ar Lr Cr, .int .i64 (T.getD k tk0).2.1, .int .i64 (T.getD k tk0).2.2] 28
      have hbX := hb.alloc hb.size (.cells #[.slice Ar Lr Cr, .int .i64 (T.getD k tk0).2.1, .int .i64 (T.getD k tk0).2.2] 28)
      have hwX := hw.below (below_one wr (.cells #[.slice Ar Lr Cr, .int .i64 (T.getD k tk0).2.1, .int .i64 (T.getD k tk0).2.2] 28))
      obtain ⟨_, _, _, hlitX⟩ := hF.below hbX (Nat.le_refl _)
      obtain ⟨x0, x1, x2⟩ := hX.c3
      have HOFF := Lib.hid hoff
      clear hX hl1 hl2 hl3 hzl hoff hF hw hb
      generalize T.getD k tk0 = t at *
      go_wp2_with fail
      refine (tput_any Ar Lr Cr t hwX hlitX hnil (fun h0 a ha => hwX.off_lt (HOFF.out h0 a ha)) HLE.out hbX.size).mono ?_
      rintro e w2 ⟨r2, rfl, hk2, hg2, hw2⟩
      have hb2 := hwX.belowOf hbX (Nat.le_refl _) hk2 (Nat.le_refl _)
      clear hwX hlitX hbX hk2 hg2 x0 x1 x2 c0 c1 c2
      go_wp2
      go_roundw
      case rel => exact ⟨k + 1, r2, hlt, by go_num, hb2, by rw [HN.out]; exact hw2⟩
      case measure => simp [intOf]; omega
    · obtain rfl : k = n := by omega
      have hl1 := tw_le T 9223372036854775807 k (by rw [HT.out.1]; exact Nat.le_refl _)
      obtain ⟨ha1, ha2⟩ := tw_all (T := T) (M := 9223372036854775807) (by rw [HT.out.1]; have := HSZ.out; omega) k (by rw [HT.out.1]; exact Nat.le_refl _)
      have hTl := HT.out.1
      cases ha : tall T k
      · have hc := ha2 ha
        rw [hc] at hw
        have HA : Hid (tall T T.length = false) := Lib.hid (by rw [hTl]; exact ha)
        clear ha1 ha2 ha hc
        go_wp2_with fail
        refine (wbytes_bad hw rfl).mono ?_
        rintro e w2 ⟨rfl, rfl⟩
        go_wp2
        go_ret2
        exact ⟨none, 0, 0, by rw [HA.out]; rfl, hb, by rw [HA.out]; exact Bs.none _, fun h => absurd h (by omega), by omega, fun _ => rfl⟩
      · have hc := ha1 ha
        rw [hc] at hw
        have HA : Hid (tall T T.length = true) := Lib.hid (by rw [hTl]; exact ha)
        have HL := Lib.hid hTl
        clear ha1 ha2 ha hc
        go_wp2_with fail
        refine (wbytes_good hw (by have := HSZ.out; omega)).mono ?_
        rintro e w2 ⟨g, rfl, hg, hb2, hblk⟩
        go_wp2
        go_ret2
        exact ⟨some ⟨g, 0, none⟩, _, _, by rw [HA.out]; rfl, hb.trans (hb2.mono hb.size), by rw [HA.out, HL.out]; exact Bs.of_block hblk, fun _ a ha => by injection ha with ha; subst ha; exact Nat.le_trans hb.size hg, Nat.le_refl _, fun h => by cases h⟩
end Go.Proofs.Ytppccdogfcmfjaa.Cur
