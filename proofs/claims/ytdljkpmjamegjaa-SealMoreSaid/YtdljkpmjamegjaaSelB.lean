/- Seals written: Put, Bytes, and the document's Bytes. -/
import Derived.Test.YtdljkpmjamegjaaSelA
import Derived.Test.YtdljkpmjamegjaaEpoC
import Derived.Test.YtdljkpmjamegjaaK6
namespace Go.Proofs.Ytdljkpmjamegjaa.Cur
open Go.RowKit Mem
set_option linter.unusedVariables false
set_option maxRecDepth 100000

/-- A seal's encoding. -/
def sits (s : Sl3) : List (List Int) := [vz s.1, vz s.2.1, vz s.2.2]
def sby (s : Sl3) : List Int := (sits s).flatten
theorem sby_eq (s : Sl3) : sby s = vz s.1 ++ vz s.2.1 ++ vz s.2.2 := by unfold sby sits; simp
theorem sby_len (s : Sl3) : (sby s).length ≤ 30 := by
  rw [sby_eq, List.length_append, List.length_append, vz_length, vz_length, vz_length]
  have := vsz_le s.1
  have := vsz_le s.2.1
  have := vsz_le s.2.2
  omega
theorem slok_epk {s : Sl3} (h : slok s = true) : epk s.1 = true := by
  unfold slok at h
  rw [Bool.and_eq_true, Bool.and_eq_true] at h
  exact h.1.1

set_option maxHeartbeats 1000000 in
theorem sput_yes {w : World} {B b : Nat} {r : Option Nat} {z : List Int} {M c : Int} (s : Sl3) (hok : slok s = true) (hs : sbd s) (h : Wr w B b r z M c) (hsz : z.length ≤ 800000) (hBw : B ≤ w.heap.size) :
    Calls Try.prog 10 #[.pointer (some ⟨b, 0, none⟩), sagg s] w (WPutsPost B b r z (sits s) M c w) := by
  have HE := Lib.hid (slok_epk hok)
  have hX := Blk.new w #[.int .u64 s.1, .int .u64 s.2.1, .int .u64 s.2.2] 24
  have hb := below_one w (.cells #[.int .u64 s.1, .int .u64 s.2.1, .int .u64 s.2.2] 24)
  have HR := fun w' => sright_any s w'
  rw [hok] at HR
  have HP : Hid (puts (sits s) z M c = (putZ (putZ (putZ z (vz s.1) M c) (vz s.2.1) M (putC z (vz s.1) M c)) (vz s.2.2) M (putC (putZ z (vz s.1) M c) (vz s.2.1) M (putC z (vz s.1) M c)),
    putC (putZ (putZ z (vz s.1) M c) (vz s.2.1) M (putC z (vz s.1) M c)) (vz s.2.2) M (putC (putZ z (vz s.1) M c) (vz s.2.1) M (putC z (vz s.1) M c)))) := Lib.hid rfl
  have l1 := putZ_le z (vz s.1) M c
  have l2 := putZ_le (putZ z (vz s.1) M c) (vz s.2.1) M (putC z (vz s.1) M c)
  rw [vz_length] at l1 l2
  have v1 := vsz_le s.1
  have v2 := vsz_le s.2.1
  have HL1 : Hid ((putZ z (vz s.1) M c).length ≤ 900000) := Lib.hid (by omega)
  have HL2 : Hid ((putZ (putZ z (vz s.1) M c) (vz s.2.1) M (putC z (vz s.1) M c)).length ≤ 900000) := Lib.hid (by omega)
  clear l1 l2 v1 v2 hok
  obtain ⟨⟨a0, a1⟩, ⟨b0, b1⟩, ⟨c0, c1⟩⟩ := hs
  have h1 := h.below hb
  obtain ⟨x0, x1, x2⟩ := hX.c3
  go_enter Try.func10, Try.ntmps10
  go_wp2_with fail
  refine (HR _).mono ?_
  rintro e w1 ⟨rfl, hb1⟩
  replace h1 := h1.below hb1
  replace hX := hX.below hb1
  replace hb := hb.trans (hb1.mono hb.size)
  clear hb1 x0 x1 x2 HR
  obtain ⟨x0, x1, x2⟩ := hX.c3
  go_wp2_with fail
  refine (eput_any s.1 h1 a0 a1 (by omega) (Nat.le_trans hBw hb.size)).mono ?_
  rintro e w2 (⟨_, r2, rfl, hk2, hg2, hw2⟩ | ⟨hf, _⟩)
  · have hX2 := hX.ks hk2 (h.off (Nat.le_refl _))
    clear x0 x1 x2
    obtain ⟨x0, x1, x2⟩ := hX2.c3
    have hB2 := Nat.le_trans (Nat.le_trans hBw hb.size) hk2.size
    go_wp2_with fail
    refine (vput_any _ hw2 b0 b1 HL1.out hB2).mono ?_
    rintro e w3 ⟨r3, rfl, hk3, hg3, hw3⟩
    have hG3 := ((Gr.refl _ _).trans hg2 hb.size).trans hg3 (Nat.le_trans hb.size hk2.size)
    have hX3 := hX2.ks hk3 (fun hh => by
      rcases hh with hh | hh
      · have := h.lt; omega
      · rcases (Gr.refl _ _).trans hg2 hb.size with rfl | ⟨g, rfl, hg⟩
        · exact h.off (Nat.le_refl _) (.inr hh)
        · rcases hg2 with e | ⟨g', e, hg'⟩
          · exact h.off (Nat.le_refl _) (.inr (by rw [← e]; exact hh))
          · injection hh with hh; injection e with e; have := hX.lt; omega)
    have hk23 := (Ks.of_below hb).trans (Ks.wr hk2 hg2 hk3)
    clear x0 x1 x2
    obtain ⟨x0, x1, x2⟩ := hX3.c3
    have hB3 := Nat.le_trans hB2 hk3.size
    go_wp2_with fail
    refine (vput_any _ hw3 c0 c1 HL2.out hB3).mono ?_
    rintro e w4 ⟨r4, rfl, hk4, hg4, hw4⟩
    go_wp2
    go_end0
    exact ⟨r4, rfl, Ks.wr hk23 hG3 hk4, hG3.trans hg4 hk23.size, by rw [HP.out]; exact hw4⟩
  · rw [HE.out] at hf; cases hf
theorem sput_no {w : World} {B b : Nat} {r : Option Nat} {z : List Int} {M c : Int} (s : Sl3) (hok : slok s = false) (h : Wr w B b r z M c) :
    Calls Try.prog 10 #[.pointer (some ⟨b, 0, none⟩), sagg s] w (WFailPost B b r z M c 3 w) := by
  have hX := Blk.new w #[.int .u64 s.1, .int .u64 s.2.1, .int .u64 s.2.2] 24
  have hb := below_one w (.cells #[.int .u64 s.1, .int .u64 s.2.1, .int .u64 s.2.2] 24)
  have HR := fun w' => sright_any s w'
  rw [hok] at HR
  have h1 := h.below hb
  obtain ⟨x0, x1, x2⟩ := hX.c3
  go_enter Try.func10, Try.ntmps10
  go_wp2_with fail
  refine (HR _).mono ?_
  rintro e w1 ⟨rfl, hb1⟩
  replace h1 := h1.below hb1
  replace hb := hb.trans (hb1.mono hb.size)
  clear hb1 x0 x1 x2 HR
  go_wp2_with fail
  refine (wfail_any 3 h1).mono ?_
  rintro e w' ⟨rfl, hk, hw⟩
  have HW := Lib.hid hw
  clear hw
  go_wp2
  go_end0
  exact ⟨rfl, (Ks.of_below hb).trans hk, HW.out⟩

/-- A seal's bytes, or none. -/
def SByPost (s : Sl3) (w : World) (e : Ending) (w' : World) : Prop :=
  Below w.heap.size w w' ∧ ((slok s = true ∧ ∃ g, e = .returned (.tuple #[.slice (some ⟨g, 0, none⟩) (sby s).length (sby s).length, .int .i64 0]) ∧ Bs w' (some ⟨g, 0, none⟩) (sby s).length (sby s)) ∨
    (slok s = false ∧ e = .returned (.tuple #[.slice none 0 0, .int .i64 3])))
set_option maxHeartbeats 1000000 in
theorem sbytes_any (s : Sl3) (hs : sbd s) (w : World) : Calls Try.prog 8 #[sagg s] w (SByPost s w) := by
  have hX := Blk.new w #[.int .u64 s.1, .int .u64 s.2.1, .int .u64 s.2.2] 24
  have hb := below_one w (.cells #[.int .u64 s.1, .int .u64 s.2.1, .int .u64 s.2.2] 24)
  have hlen := sby_len s
  have HLE := Lib.hid hlen
  have hfit := puts_fits (xs := sits s) (z := []) (M := 9223372036854775807) (by show _ ≤ _; have : (sits s).flatten.length ≤ 30 := hlen; simp only [List.length_nil]; omega)
  rw [List.nil_append] at hfit
  have HF := Lib.hid hfit
  clear hfit hlen
  obtain ⟨x0, x1, x2⟩ := hX.c3
  go_enter Try.func8, Try.ntmps8
  go_wp2_with fail
  refine (wnew_any _ _ (by omega)).mono ?_
  rintro e w1 ⟨b, rfl, hg1, hb1, hw1⟩
  rw [if_neg (by omega)] at hw1
  replace hX := hX.below hb1
  have hbd := hb.trans (hb1.mono hb.size)
  have hBX := hb1.size
  clear x0 x1 x2 hb1
  obtain ⟨x0, x1, x2⟩ := hX.c3
  cases hok : slok s
  · go_wp2_with fail
    refine (sput_no s hok hw1).mono ?_
    rintro e w2 ⟨rfl, hk, hw2⟩
    rw [if_pos rfl] at hw2
    have hbd2 := hw1.belowOf hbd (Nat.le_refl _) hk hb.size
    clear x0 x1 x2
    go_wp2_with fail
    refine (wbytes_bad hw2 (by decide)).mono ?_
    rintro e w3 ⟨rfl, rfl⟩
    go_wp2
    go_ret2
    exact ⟨hbd2, .inr ⟨hok, rfl⟩⟩
  · have HOK := Lib.hid hok
    go_wp2_with fail
    refine (sput_yes s hok hs hw1 (by simp) hBX).mono ?_
    rintro e w2 ⟨r2, rfl, hk, _, hw2⟩
    rw [HF.out] at hw2
    have hbd2 := hw1.belowOf hbd (Nat.le_refl _) hk hb.size
    clear x0 x1 x2 hok
    go_wp2_with fail
    refine (wbytes_good (z := sby s) hw2 (by have := HLE.out; omega)).mono ?_
    rintro e w3 ⟨g, rfl, hg, hb3, hblk⟩
    have hs3 := Bs.of_block hblk
    have hbd3 := hbd2.trans (hb3.mono hbd2.size)
    go_wp2
    go_ret2
    exact ⟨hbd3, .inl ⟨HOK.out, g, rfl, hs3⟩⟩
end Go.Proofs.Ytdljkpmjamegjaa.Cur
