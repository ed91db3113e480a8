/- A fault as a text, by the program and by the document; the first fault; the document's example (live). -/
import Derived.Test.YtjlolmachfbffaaDoorFaB
import Derived.Test.YtjlolmachfbffaaDoorShelf
import Derived.Lib.SmallJoins
import Derived.Deep.RegionHeld3
namespace Go.Proofs.YtjlolmachfbffaaDoor.Fa
open Go.RowKit Mem
set_option linter.unusedVariables false

/-- The table of the powers of ten is laid. -/
abbrev Tab (w : World) : Prop := Lib.TabIs Tryd.prog w "internal/strconv.uint64pow10" .u64 Lib.pow10Tab
theorem gPow : Tryd.prog.globalNamed "internal/strconv.uint64pow10" = some 3 := by kernel_rfl
theorem tab_keep {w w' : World} (h : Tab w) (hb : Below w.heap.size w w') : Tab w' := Go.Joins.tab_stays gPow h hb (Nat.le_refl _)

theorem below_grow (w : World) (os : Array Obj) : Below w.heap.size w (Go.Sort.grow w os) :=
  ⟨rfl, rfl, rfl, by simp [Go.Sort.grow], fun k hk => by simp [Go.Sort.grow, Array.getElem?_append, hk]⟩

theorem itoa_any (n : Int) (w : World) (h0 : -9223372036854775808 ≤ n) (h1 : n ≤ 9223372036854775807) (ht : Tab w) : Calls Tryd.prog 14 #[.int .i64 n] w (DigPost (Lib.itoa n) w) := by
  refine (Tryd.strconv_Itoa n h0 h1 w ht).mono ?_
  rintro e w' ⟨rfl, k, os, rfl⟩
  exact ⟨rfl, (below_drewN (Below.refl _ _) k).trans (below_grow (w.drewN k) os)⟩

theorem dec_len2 : ∀ (k u : Nat), u < 10 ^ k → (Lib.decDigits u).length ≤ k + 1 := by
  intro k
  induction k with
  | zero => intro u hu; rw [dig_small (by omega)]; simp
  | succ k ih =>
    intro u hu
    by_cases h : u < 10
    · rw [dig_small h]; simp
    · rw [dig_big h, List.length_append]
      have := ih (u / 10) (by rw [Nat.pow_succ] at hu; omega)
      simp
      omega
theorem itoa_small (q : Int) (h : q.natAbs ≤ 9223372036854775808) : ByteArray.size (⟨(Lib.itoa q).toArray⟩ : ByteArray) ≤ 30 := by
  show (Lib.itoa q).toArray.size ≤ 30
  by_cases hn : q < 0
  · rw [itoa_neg hn]; have := dec_len2 19 q.natAbs (by omega); simp; omega
  · rw [itoa_pos hn]; have := dec_len2 19 q.toNat (by omega); simp; omega

/-- A fault as a text. -/
def textB (c q : Int) : ByteArray := if c = 0 ∨ wordB c = ⟨#[]⟩ then wordB c else (wordB c ++ ⟨#[32]⟩) ++ ⟨(Lib.itoa q).toArray⟩

theorem word_size (c : Int) : (wordB c).size ≤ 13 := by
  by_cases h : 0 ≤ c ∧ c < 21
  · obtain ⟨k, rfl⟩ := Int.eq_ofNat_of_zero_le h.1
    have hk : k < 21 := by omega
    rw [wordB_in]
    rcases cases21n hk with rfl | rfl | rfl | rfl | rfl | rfl | rfl | rfl | rfl | rfl | rfl | rfl | rfl | rfl | rfl | rfl | rfl | rfl | rfl | rfl | rfl <;> decide
  · rw [wordB_out (by omega)]; decide

theorem good_any (c q : Int) (w : World) :
    Calls Tryd.prog 13 #[.agg #[.int .i64 c, .int .i64 q]] w fun e w' => e = .returned (.bool (c == 0)) ∧ Below w.heap.size w w' := by
  go_enter Tryd.func13, Tryd.ntmps13
  go_wp2
  go_ret
  exact ⟨rfl, (Below.refl _ _).alloc (Nat.le_refl _) _⟩

def TextPost (c q : Int) (w : World) (e : Ending) (w' : World) : Prop := e = .returned (.string (textB c q)) ∧ Below w.heap.size w w'

theorem empty_toList {s : ByteArray} (h : ¬ s = ⟨#[]⟩) : (s.toList == []) = false := by
  rw [beq_eq_false_iff_ne]
  intro e
  apply h
  apply str_inj
  rw [e, ByteArray.toList_eq]

set_option maxHeartbeats 1000000 in
theorem text_any (c q : Int) (w : World) (h0 : -9223372036854775808 ≤ q) (h1 : q ≤ 9223372036854775807) (ht : Tab w) :
    Calls Tryd.prog 7 #[.agg #[.int .i64 c, .int .i64 q]] w (TextPost c q w) := by
  by_cases hc : c = 0
  · have hfin : textB c q = wordB c := by rw [textB, if_pos (.inl hc)]
    have HF := Lib.hid hfin
    subst hc
    clear hfin
    go_enter Tryd.func7, Tryd.ntmps7
    go_wp2_with fail
    refine (word_any _ _).mono ?_
    rintro e w1 ⟨rfl, hb⟩
    obtain ⟨hB, hb⟩ := one_new hb
    obtain ⟨c0, c1⟩ := hB.c2
    go_wp2_with fail
    refine (good_any _ _ _).mono ?_
    rintro e w2 ⟨rfl, hb2⟩
    go_wp2
    go_ret
    exact ⟨congrArg (fun s => Ending.returned (Value.string s)) HF.out.symm, hb.trans (hb2.mono hb.size)⟩
  · have hcb : (c == 0) = false := by simpa using hc
    by_cases hw : wordB c = ⟨#[]⟩
    · have hfin : textB c q = wordB c := by rw [textB, if_pos (.inr hw)]
      have HF := Lib.hid hfin
      clear hfin hc
      rw [hw] at HF
      have HW := Lib.hid hw
      clear hw
      go_enter Tryd.func7, Tryd.ntmps7
      go_wp2_with fail
      refine (word_any _ _).mono ?_
      rintro e w1 ⟨rfl, hb⟩
      rw [HW.out]
      obtain ⟨hB, hb⟩ := one_new hb
      obtain ⟨c0, c1⟩ := hB.c2
      go_wp2_with fail
      refine (good_any _ _ _).mono ?_
      rintro e w2 ⟨rfl, hb2⟩
      go_wp2
      go_ret
      exact ⟨congrArg (fun s => Ending.returned (Value.string s)) HF.out.symm, hb.trans (hb2.mono hb.size)⟩
    · have hfin : textB c q = (wordB c ++ ⟨#[32]⟩) ++ ⟨(Lib.itoa q).toArray⟩ := by rw [textB, if_neg (by rintro (h | h); exact hc h; exact hw h)]
      have HF := Lib.hid hfin
      have hne := empty_toList hw
      have hs1 := word_size c
      have hl := itoa_len q
      clear hfin hc hw
      have hts : ByteArray.size (⟨(Lib.itoa q).toArray⟩ : ByteArray) ≤ q.natAbs + 2 := by show (Lib.itoa q).toArray.size ≤ _; simpa using hl
      have hsz0 : ¬ ((wordB c).size + ByteArray.size ⟨#[32]⟩ > 9223372036854775807) := by show ¬ (_ + 1 > _); omega
      have hqs : q.natAbs ≤ 9223372036854775808 := by omega
      have hlt := itoa_small q hqs
      have hsz : ¬ (((wordB c) ++ (⟨#[32]⟩ : ByteArray)).size + ByteArray.size (⟨(Lib.itoa q).toArray⟩ : ByteArray) > 9223372036854775807) := by
        rw [ByteArray.size_append]
        have e1 : ByteArray.size (⟨#[32]⟩ : ByteArray) = 1 := rfl
        omega
      clear hl hts hlt hqs
      obtain ⟨s, hs⟩ : ∃ s, s = wordB c := ⟨_, rfl⟩
      rw [← hs] at HF hne hsz0 hsz
      have HW := Lib.hid hs.symm
      clear hs hs1
      go_enter Tryd.func7, Tryd.ntmps7
      go_wp2_with fail
      refine (word_any _ _).mono ?_
      rintro e w1 ⟨rfl, hb⟩
      rw [HW.out]
      obtain ⟨hB, hb⟩ := one_new hb
      obtain ⟨c0, c1⟩ := hB.c2
      have ht1 := tab_keep ht hb
      go_wp2_with fail
      refine (good_any _ _ _).mono ?_
      rintro e w2 ⟨rfl, hb2⟩
      have ht2 := tab_keep ht1 hb2
      have hB2 := hB.below hb2
      obtain ⟨d0, d1⟩ := hB2.c2
      go_wp2_with fail
      refine (itoa_any _ _ h0 h1 ht2).mono ?_
      rintro e w3 ⟨rfl, hb3⟩
      generalize (⟨(Lib.itoa q).toArray⟩ : ByteArray) = t at *
      go_wp2
      go_ret
      exact ⟨congrArg (fun s => Ending.returned (Value.string s)) HF.out.symm, (hb.trans (hb2.mono hb.size)).trans (hb3.mono (hb.trans (hb2.mono hb.size)).size)⟩

set_option maxHeartbeats 1000000 in
theorem refText_any (c q : Int) (w : World) (h0 : -9223372036854775808 ≤ q) (h1 : q ≤ 9223372036854775807) :
    Calls Tryd.prog 8 #[.agg #[.int .i64 c, .int .i64 q]] w (TextPost c q w) := by
  by_cases hc : c = 0
  · have hfin : textB c q = wordB c := by rw [textB, if_pos (.inl hc)]
    have HF := Lib.hid hfin
    subst hc
    clear hfin
    go_enter Tryd.func8, Tryd.ntmps8
    go_wp2_with fail
    refine (refWord_any _ _).mono ?_
    rintro e w1 ⟨rfl, hb⟩
    obtain ⟨hB, hb⟩ := one_new hb
    go_wp2
    go_ret
    exact ⟨congrArg (fun s => Ending.returned (Value.string s)) HF.out.symm, hb⟩
  · have hcb : (c == 0) = false := by simpa using hc
    by_cases hw : wordB c = ⟨#[]⟩
    · have hfin : textB c q = wordB c := by rw [textB, if_pos (.inr hw)]
      have HF := Lib.hid hfin
      clear hfin hc
      rw [hw] at HF
      have HW := Lib.hid hw
      clear hw
      go_enter Tryd.func8, Tryd.ntmps8
      go_wp2_with fail
      refine (refWord_any _ _).mono ?_
      rintro e w1 ⟨rfl, hb⟩
      rw [HW.out]
      obtain ⟨hB, hb⟩ := one_new hb
      obtain ⟨c0, c1⟩ := hB.c2
      go_wp2_with fail
      refine (refWord_any _ _).mono ?_
      rintro e w2 ⟨rfl, hb2⟩
      go_wp2
      go_ret
      exact ⟨congrArg (fun s => Ending.returned (Value.string s)) ((HW.out).trans HF.out.symm), hb.trans (hb2.mono hb.size)⟩
    · have hfin : textB c q = (wordB c ++ ⟨#[32]⟩) ++ ⟨(Lib.itoa q).toArray⟩ := by rw [textB, if_neg (by rintro (h | h); exact hc h; exact hw h)]
      have HF := Lib.hid hfin
      have hne := empty_toList hw
      have hs1 := word_size c
      have hl := itoa_len q
      clear hfin hc hw
      have hsz0 : ¬ ((wordB c).size + ByteArray.size ⟨#[32]⟩ > 9223372036854775807) := by show ¬ (_ + 1 > _); omega
      have hlt := itoa_small q (by omega)
      have hsz : ¬ (((wordB c) ++ (⟨#[32]⟩ : ByteArray)).size + ByteArray.size (⟨(Lib.itoa q).toArray⟩ : ByteArray) > 9223372036854775807) := by
        rw [ByteArray.size_append]
        have e1 : ByteArray.size (⟨#[32]⟩ : ByteArray) = 1 := rfl
        omega
      clear hl hlt
      obtain ⟨s, hs⟩ : ∃ s, s = wordB c := ⟨_, rfl⟩
      rw [← hs] at HF hne hsz0 hsz
      have HW := Lib.hid hs.symm
      clear hs hs1
      obtain ⟨t, ht⟩ : ∃ t, t = (⟨(Lib.itoa q).toArray⟩ : ByteArray) := ⟨_, rfl⟩
      rw [← ht] at HF hsz
      have HT := Lib.hid ht.symm
      clear ht
      have ha0 := fun w => run_string_add_sum (P := Tryd.prog) (w := w) s ⟨#[32]⟩ (by omega)
      have ha1 := fun w => run_string_add_sum (P := Tryd.prog) (w := w) (s ++ ⟨#[32]⟩) t (by omega)
      clear hsz0 hsz
      go_enter Tryd.func8, Tryd.ntmps8
      go_wp2_with fail
      refine (refWord_any _ _).mono ?_
      rintro e w1 ⟨rfl, hb⟩
      rw [HW.out]
      obtain ⟨hB, hb⟩ := one_new hb
      obtain ⟨c0, c1⟩ := hB.c2
      go_wp2_with fail
      go_region_held3 (fun w' => w'.cell? ⟨w.heap.size, 0, none⟩ = some (.int .i64 c) ∧ w'.cell? ⟨w.heap.size, 1, none⟩ = some (.int .i64 q))
        (first
          | go_keep
          | exact sB
          | exact sC)
        (first
          | (go_at_call 6; go_must (refine (refWord_any _ _).mono ?_; rintro e w2 ⟨rfl, hb2⟩; rw [HW.out]; have hB2 := Blk.below (show Blk _ w.heap.size _ _ by exact hB) hb2; have sB := hB2.c2))
          | (go_at_call 15; go_must (refine (digits_any _ _ h0 h1).mono ?_; rintro e w3 ⟨rfl, hb3⟩; rw [HT.out]; have hB3 := Blk.below (show Blk _ w.heap.size _ _ by exact hB2) hb3; have sC := hB3.c2))
          | fail)
      go_wp2
      go_ret
      have b2 := hb.trans ((below_of_drew hb2).mono hb.size)
      exact ⟨congrArg (fun s => Ending.returned (Value.string s)) HF.out.symm, b2.trans (hb3.mono b2.size)⟩

/-! ### The law's other callees -/
set_option maxHeartbeats 400000 in
theorem at_ne (c q : Int) (hc : ¬ c = 0) (w : World) :
    Calls Tryd.prog 16 #[.int .i64 c, .int .i64 q] w fun e w' => e = .returned (.agg #[.int .i64 c, .int .i64 q]) ∧ Below w.heap.size w w' := by
  have hb : (c == 0) = false := by simp [hc]
  go_enter Tryd.func16, Tryd.ntmps16
  go_wp2
  exact bodyPost_ret (v := .agg #[.int .i64 c, .int .i64 q]) (by simp [results, Tryd.results16, go_sem]) rfl ⟨rfl, (Below.refl _ _).alloc (Nat.le_refl _) _⟩

set_option maxHeartbeats 1000000 in
theorem first_live (b : Nat) (w : World) (h : Blk w b #[.int .i64 0, .int .i64 0, .int .i64 7, .int .i64 3, .int .i64 6, .int .i64 1] 24) :
    Calls Tryd.prog 17 #[.slice (some ⟨b, 0, none⟩) 3 3] w fun e w' => e = .returned (.agg #[.int .i64 7, .int .i64 3]) ∧ Below w.heap.size w w' := by
  go_enter Tryd.func17, Tryd.ntmps17
  go_wp2_with fail
  go_loopw [7] (fun i wr => ∃ k : Nat, k ≤ 1 ∧ i = .int .i64 k ∧ Below w.heap.size w wr ∧ Blk wr b #[.int .i64 0, .int .i64 0, .int .i64 7, .int .i64 3, .int .i64 6, .int .i64 1] 24 ∧ Blk wr w.heap.size #[.int .i64 0, .int .i64 0] 24) (fun i _ => 1 - (intOf i).toNat)
  case atStart => exact ⟨0, by omega, rfl, below_one _ _, h.alloc _, Blk.new _ _ _⟩
  case round =>
    obtain ⟨k, hk, rfl, hb, hB, hR⟩ := hrel
    obtain ⟨r0, r1⟩ := hR.c2
    have f0 := hR.free 0
    have f1 := hR.free 1
    have x0 := hB.cell 0 rfl
    have x1 := hB.cell 1 rfl
    have x2 := hB.cell 2 rfl
    have x3 := hB.cell 3 rfl
    have n1 : wr.heap.size ≠ w.heap.size := by have := hR.lt; omega
    have hkk : k = 0 ∨ k = 1 := by omega
    rcases hkk with rfl | rfl
    · go_wp2_with fail
      refine (good_any _ _ _).mono ?_
      rintro e w2 ⟨rfl, hb2⟩
      obtain ⟨hX, hb3⟩ := one_new hb2
      go_wp2
      go_roundw
      case rel => exact ⟨1, by omega, rfl, hb.trans (hb3.mono hb.size), hB.below hb3, hR.below hb3⟩
      case measure => simp [intOf]
    · go_wp2_with fail
      refine (good_any _ _ _).mono ?_
      rintro e w2 ⟨rfl, hb2⟩
      obtain ⟨hX, hb3⟩ := one_new hb2
      obtain ⟨y0, y1⟩ := hX.c2
      have hR2 := hR.below hb3
      obtain ⟨z0, z1⟩ := hR2.c2
      have g0 := hR2.free 0
      have g1 := hR2.free 1
      have b3 := hb.trans (hb3.mono hb.size)
      go_wp2
      refine bodyPost_ret (v := .agg #[.int .i64 7, .int .i64 3]) (by simp [results, Tryd.results17, go_sem, z0, z1]) rfl ⟨rfl, ?_⟩
      iterate 2 (refine Below.setCell ?_ (by simp) _)
      exact b3

theorem text67 : textB 6 7 = ⟨#[115, 117, 109, 32, 55]⟩ := by
  rw [textB, if_neg (by decide), itoa_pos (by decide), dig_small (by decide)]
  rfl

set_option maxRecDepth 100000 in
set_option maxHeartbeats 1000000 in
theorem live_any (w : World) (ht : Tab w) : Calls Tryd.prog 10 #[] w fun e w' => e = .returned (.bool true) ∧ Below w.heap.size w w' := by
  go_enter Tryd.func10, Tryd.ntmps10
  go_wp2_with fail
  refine (at_ne _ _ (by decide) _).mono ?_
  rintro e w1 ⟨rfl, hb⟩
  go_wp2_with fail
  refine (text_any _ _ _ (by omega) (by omega) (tab_keep ht hb)).mono ?_
  rintro e w2 ⟨rfl, hb2⟩
  rw [text67]
  go_wp2_with fail
  refine (first_live _ _ (Blk.new _ _ _)).mono ?_
  rintro e w3 ⟨rfl, hb3⟩
  go_wp2
  go_ret
  exact ⟨rfl, (hb.trans (hb2.mono hb.size)).trans (((below_one _ _).trans (hb3.mono (by simp))).mono (hb.trans (hb2.mono hb.size)).size)⟩
end Go.Proofs.YtjlolmachfbffaaDoor.Fa
