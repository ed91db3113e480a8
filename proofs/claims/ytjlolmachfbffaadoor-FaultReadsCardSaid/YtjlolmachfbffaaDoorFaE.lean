/- Parse of any text, and the walk of the law FaultReads. -/
import Derived.Test.YtjlolmachfbffaaDoorFaC
import Derived.Lib.AtoiAllCases
namespace Go.Proofs.YtjlolmachfbffaaDoor.Fa
open Go.RowKit Mem
set_option linter.unusedVariables false

/-- What the library's functions read of package-level variables. -/
structure Env (w : World) : Prop where
  tab : Tab w
  max : ∃ m : Int, w.cell? ⟨0, 0, none⟩ = some (.int .i64 m)
  syn : ∃ ev, w.cell? ⟨1, 0, none⟩ = some ev ∧ (ev = .nilIface ∨ ∃ te pe, ev = .iface te pe)
  ran : ∃ ev, w.cell? ⟨2, 0, none⟩ = some ev ∧ (ev = .nilIface ∨ ∃ te pe, ev = .iface te pe)
theorem cell_keep {w w' : World} {g : Nat} {v : Value} (h : w.cell? ⟨g, 0, none⟩ = some v) (hb : Below w.heap.size w w') : w'.cell? ⟨g, 0, none⟩ = some v := by
  have hl : g < w.heap.size := by
    rcases Nat.lt_or_ge g w.heap.size with h' | h'
    · exact h'
    · simp [World.cell?, Array.getElem?_eq_none h'] at h
  exact (hb.cell (p := ⟨g, 0, none⟩) hl).trans h
theorem Env.keep {w w' : World} (h : Env w) (hb : Below w.heap.size w w') : Env w' :=
  ⟨tab_keep h.tab hb, let ⟨m, hm⟩ := h.max; ⟨m, cell_keep hm hb⟩, let ⟨e, he, hf⟩ := h.syn; ⟨e, cell_keep he hb, hf⟩, let ⟨e, he, hf⟩ := h.ran; ⟨e, cell_keep he hb, hf⟩⟩

theorem below_bytesWorld (w : World) (e : Nat) (t : ByteArray) : Below w.heap.size w (Lib.bytesWorld w e t) := by
  exact Go.Joins.below_bytesWorld _ w e t (Nat.le_refl _)

/-- Which end a parse has: 0 a number, 1 out of range, 2 no numeral. -/
def endOf (x : Lib.NumEnd Int) : Nat := match x with
  | .ok _ => 0
  | .range => 1
  | _ => 2
theorem atoi_no (s : ByteArray) (hlim : s.size ≤ 281474976710656) (h : endOf (Lib.atoiAll s.data.toList) = 2) (ev : Value) (w : World) (hv : w.cell? ⟨1, 0, none⟩ = some ev) (hev : ev = .nilIface ∨ ∃ te pe, ev = .iface te pe) :
    Calls Tryd.prog 19 #[.string s] w fun e w' => ∃ N, e = .returned (.tuple #[.int .i64 (0), .iface 55 (.pointer (some ⟨N, 0, none⟩))]) ∧ w.heap.size ≤ N ∧ w'.heap[N]? = some (.cells #[.string ⟨#[65, 116, 111, 105]⟩, .string s, ev] 71 (0, 0)) ∧ Below w.heap.size w w' := by
  rcases hh : Lib.atoiAll s.data.toList with v | _ | _
  · rw [hh] at h; cases h
  · exact Any.strconv_Atoi_syntax Tryd.laysC172 s hlim hh ev w hv hev
  · rw [hh] at h; cases h
theorem atoi_out (s : ByteArray) (hlim : s.size ≤ 281474976710656) (h : Lib.atoiAll s.data.toList = .range) (ev : Value) (w : World) (hv : w.cell? ⟨2, 0, none⟩ = some ev) (hev : ev = .nilIface ∨ ∃ te pe, ev = .iface te pe) :
    Calls Tryd.prog 19 #[.string s] w fun e w' => ∃ N, e = .returned (.tuple #[.int .i64 (Lib.atoiSat s.data.toList), .iface 55 (.pointer (some ⟨N, 0, none⟩))]) ∧ w.heap.size ≤ N ∧ w'.heap[N]? = some (.cells #[.string ⟨#[65, 116, 111, 105]⟩, .string s, ev] 71 (0, 0)) ∧ Below w.heap.size w w' :=
  Any.strconv_Atoi_range Tryd.laysC172 s hlim h ev w hv hev

def AtoiPost (w : World) (e : Ending) (w' : World) : Prop := ∃ (v : Int) (er : Value), e = .returned (.tuple #[.int .i64 v, er]) ∧ -9223372036854775808 ≤ v ∧ v ≤ 9223372036854775807 ∧ Below w.heap.size w w'

theorem atoi_any (s : ByteArray) (w : World) (hs : s.size ≤ 1000) (he : Env w) : Calls Tryd.prog 19 #[.string s] w (AtoiPost w) := by
  rcases hv : Lib.atoiAll s.data.toList with v | _ | _
  · refine (Tryd.strconv_Atoi_ok s (by omega) v hv w).mono ?_
    rintro e w' ⟨rfl, hw⟩
    have hb := Lib.atoiAll_bounds hv
    refine ⟨v, _, rfl, hb.1, hb.2, ?_⟩
    rcases hw with rfl | ⟨t, rfl⟩
    · exact Below.refl _ _
    · exact below_bytesWorld _ _ _
  · obtain ⟨ev, h1, h2⟩ := he.syn
    refine (atoi_no s (by omega) (by rw [hv]; rfl) ev w h1 h2).mono ?_
    rintro e w' ⟨N, rfl, _, _, hb⟩
    exact ⟨0, _, rfl, by omega, by omega, hb⟩
  · obtain ⟨ev, h1, h2⟩ := he.ran
    refine (atoi_out s (by omega) hv ev w h1 h2).mono ?_
    rintro e w' ⟨N, rfl, _, _, hb⟩
    refine ⟨Lib.atoiSat s.data.toList, _, rfl, ?_, ?_, hb⟩ <;> (unfold Lib.atoiSat; split <;> omega)

/-- The place of a fault with this code. -/
def fq (c q : Int) : Int := if c = 0 then 0 else q
set_option maxHeartbeats 400000 in
theorem at_any (c q : Int) (w : World) :
    Calls Tryd.prog 16 #[.int .i64 c, .int .i64 q] w fun e w' => e = .returned (.agg #[.int .i64 c, .int .i64 (fq c q)]) ∧ Below w.heap.size w w' := by
  by_cases hc : c = 0
  · obtain rfl := hc
    go_enter Tryd.func16, Tryd.ntmps16
    go_wp2
    exact bodyPost_ret (v := .agg #[.int .i64 0, .int .i64 0]) (by simp [results, Tryd.results16, go_sem]) rfl ⟨rfl, (Below.refl _ _).alloc (Nat.le_refl _) _⟩
  · have e : fq c q = q := by simp [fq, hc]
    rw [e]
    exact at_ne c q hc w

def ParsePost (s : ByteArray) (w : World) (e : Ending) (w' : World) : Prop :=
  ∃ (c q : Int) (ok : Bool), e = .returned (.tuple #[.agg #[.int .i64 c, .int .i64 q], .bool ok]) ∧ Below w.heap.size w w' ∧ -9223372036854775808 ≤ q ∧ q ≤ 9223372036854775807 ∧
    ((ok = true ∧ textB c q = s ∧ 0 ≤ c ∧ c < 21) ∨ (ok = false ∧ c = 0 ∧ q = 0))

theorem cut_len (l m : List UInt8) : (Lib.cut l m).2.1.length ≤ l.length := by
  unfold Lib.cut
  split
  · simp
  · simp

set_option maxRecDepth 100000 in
set_option maxHeartbeats 1000000 in
theorem parse_any (s : ByteArray) (w : World) (hs : s.size ≤ 1000) (he : Env w) : Calls Tryd.prog 11 #[.string s] w (ParsePost s w) := by
  have hcl := cut_len s.data.toList [32]
  have hss : s.data.toList.length = s.size := Array.length_toList
  have he0 := he.keep (below_one w (.cells #[.int .i64 0, .int .i64 0] 24))
  obtain ⟨m, hm⟩ := he0.max
  have HM := Lib.hid hm
  clear hm
  go_enter Tryd.func11, Tryd.ntmps11
  go_wp2_with fail
  refine (Tryd.strings_Cut s ⟨#[32]⟩ m _ (by omega) HM.out).mono ?_
  rintro e w1 ⟨rfl, n1, rfl⟩
  have hcl2 : ByteArray.size (⟨(Lib.cut s.data.toList (ByteArray.data ⟨#[32]⟩).toList).2.1.toArray⟩ : ByteArray) ≤ 1000 := by
    show (Lib.cut s.data.toList [32]).2.1.toArray.size ≤ 1000
    rw [List.size_toArray]
    omega
  generalize (⟨(Lib.cut s.data.toList (ByteArray.data ⟨#[32]⟩).toList).1.toArray⟩ : ByteArray) = A at *
  generalize (⟨(Lib.cut s.data.toList (ByteArray.data ⟨#[32]⟩).toList).2.1.toArray⟩ : ByteArray) = B at *
  generalize (Lib.cut s.data.toList (ByteArray.data ⟨#[32]⟩).toList).2.2 = f at *
  clear hcl hss
  have hN := Blk.new w #[Value.int .i64 0, .int .i64 0] 24
  have hb0 := below_one w (.cells #[Value.int .i64 0, .int .i64 0] 24)
  generalize w.alloc (.cells #[Value.int .i64 0, .int .i64 0] 24) = w0 at *
  go_wp2_with fail
  refine (find_any _ _).mono ?_
  rintro e w2 ⟨fc, fok, rfl, hb2, hf⟩
  have HF := Lib.hid hf
  clear hf
  have b2 := (below_drewN hb0 n1).trans (hb2.mono (below_drewN hb0 n1).size)
  have hN2 := Blk.below (show Blk _ w.heap.size _ _ by exact hN) hb2
  have he2 := (he0.keep (below_drewN (Below.refl _ _) n1)).keep hb2
  clear hN hb0 hb2 he0
  go_wp2_with fail
  refine (atoi_any _ _ hcl2 he2).mono ?_
  rintro e w3 ⟨v, er, rfl, v0, v1, hb3⟩
  have b3 := b2.trans (hb3.mono b2.size)
  have hN3 := hN2.below hb3
  have he3 := he2.keep hb3
  clear hN2 b2 he2 hb3
  go_wp2_with fail
  refine (at_any _ _ _).mono ?_
  rintro e w4 ⟨rfl, hb4⟩
  have b4 := b3.trans (hb4.mono b3.size)
  have hN4 := hN3.below hb4
  have he4 := he3.keep hb4
  clear hN3 b3 he3 hb4
  obtain ⟨q, hq⟩ : ∃ q, q = fq fc v := ⟨_, rfl⟩
  rw [← hq]
  have hq0 : -9223372036854775808 ≤ q ∧ q ≤ 9223372036854775807 ∧ (0 ≤ fc ∧ fc < 21) := by
    rw [hq]
    unfold fq
    rcases HF.out with ⟨_, h1, h2, _⟩ | ⟨_, rfl, _⟩
    · split <;> omega
    · simp
  clear hq v0 v1
  obtain ⟨q0, q1, q2, q3⟩ := hq0
  go_wp2_with fail
  have hX := Blk.new w4 #[Value.int .i64 fc, .int .i64 q] 24
  have b5 := b4.trans ((below_one w4 (.cells #[Value.int .i64 fc, .int .i64 q] 24)).mono b4.size)
  have hN5 := hN4.alloc (.cells #[Value.int .i64 fc, .int .i64 q] 24)
  have he5 := he4.keep (below_one w4 (.cells #[Value.int .i64 fc, .int .i64 q] 24))
  have n1 : w4.heap.size ≠ w.heap.size := by have := hN4.lt; omega
  clear hN4 he4 b4
  generalize w4.alloc (.cells #[Value.int .i64 fc, .int .i64 q] 24) = w5 at *
  refine (text_any _ _ _ q0 q1 he5.tab).mono ?_
  rintro e w6 ⟨rfl, hb6⟩
  have b6 := b5.trans (hb6.mono b5.size)
  have hN6 := hN5.below hb6
  have hX6 := hX.below hb6
  obtain ⟨x0, x1⟩ := hX6.c2
  obtain ⟨y0, y1⟩ := hN6.c2
  obtain ⟨f0, f1⟩ := hN6.f2
  clear hX hN5 he5 b5 hb6
  by_cases ht : textB fc q = s
  · have HT := Lib.hid ht
    rw [ht]
    clear ht
    have hbe : (s.toList != s.toList) = false := by simp
    go_wp2
    refine bodyPost_ret (v := .tuple #[.agg #[.int .i64 fc, .int .i64 q], .bool true]) (by simp [results, Tryd.results11, go_sem, y0, y1]) rfl ⟨fc, q, true, rfl, ?_, q0, q1, .inl ⟨rfl, HT.out, q2, q3⟩⟩
    iterate 2 (refine Below.setCell ?_ (by simp) _)
    exact b6
  · have hbe := str_ne ht
    clear ht
    generalize textB fc q = t at *
    go_wp2
    refine bodyPost_ret (v := .tuple #[.agg #[.int .i64 0, .int .i64 0], .bool false]) (by simp [results, Tryd.results11, go_sem, y0, y1]) rfl ⟨0, 0, false, rfl, ?_, by omega, by omega, .inr ⟨rfl, rfl, rfl⟩⟩
    iterate 2 (refine Below.setCell ?_ (by simp) _)
    exact b6

theorem text_ne {c q : Int} (h0 : 0 ≤ c) (h1 : c < 21) : ¬ textB c q = ⟨#[]⟩ := by
  obtain ⟨k, rfl⟩ := Int.eq_ofNat_of_zero_le h0
  have hk : k < 21 := by omega
  have hw : ¬ wordB k = ⟨#[]⟩ := by
    rw [wordB_in]
    rcases cases21n hk with rfl | rfl | rfl | rfl | rfl | rfl | rfl | rfl | rfl | rfl | rfl | rfl | rfl | rfl | rfl | rfl | rfl | rfl | rfl | rfl | rfl <;> (intro h; exact absurd (congrArg ByteArray.size h) (by decide))
  unfold textB
  split
  · exact hw
  · intro h
    have := congrArg ByteArray.size h
    rw [ByteArray.size_append, ByteArray.size_append] at this
    have e1 : ByteArray.size (⟨#[32]⟩ : ByteArray) = 1 := rfl
    have e2 : ByteArray.size (⟨#[]⟩ : ByteArray) = 0 := rfl
    omega

set_option maxRecDepth 100000 in
set_option maxHeartbeats 1000000 in
theorem faultReads_walk (s : ByteArray) (w : World) (hm : s.size ≤ 9223372036854775807) (he : Env w) :
    Calls Tryd.prog 4 #[.string s] w fun e w' => e = .returned (.bool true) ∧ Below w.heap.size w w' := by
  by_cases hs : 1000 < (s.size : Int)
  · go_enter Tryd.func4, Tryd.ntmps4
    go_wp2_with fail
    refine (live_any _ he.tab).mono ?_
    rintro e w8 ⟨rfl, hb8⟩
    go_wp2
    go_ret
    exact ⟨rfl, hb8⟩
  · go_enter Tryd.func4, Tryd.ntmps4
    go_wp2_with fail
    refine (parse_any _ _ (by omega) he).mono ?_
    rintro e w1 ⟨c, q, ok, rfl, hb1, q0, q1, ho⟩
    have hX := Blk.new w1 #[Value.int .i64 c, .int .i64 q] 24
    have b2 := hb1.trans ((below_one w1 (.cells #[Value.int .i64 c, .int .i64 q] 24)).mono hb1.size)
    have he2 := (he.keep hb1).keep (below_one w1 (.cells #[Value.int .i64 c, .int .i64 q] 24))
    rcases ho with ⟨rfl, ht, c0, c1⟩ | ⟨rfl, rfl, rfl⟩
    · have hne := empty_toList (text_ne (q := q) c0 c1)
      have hne2 : s.toList.isEmpty = false := by
        rw [ht] at hne
        cases hl : s.toList with
        | nil => rw [hl] at hne; simp at hne
        | cons => rfl
      have HT := Lib.hid ht
      have hbe : (s.toList == s.toList) = true := beq_self_eq_true _
      clear ht hne
      go_wp2_with fail
      refine (refText_any _ _ _ q0 q1).mono ?_
      rintro e w3 ⟨rfl, hb3⟩
      rw [HT.out]
      have b3 := b2.trans (hb3.mono b2.size)
      have he3 := he2.keep hb3
      go_wp2_with fail
      refine (live_any _ he3.tab).mono ?_
      rintro e w8 ⟨rfl, hb8⟩
      go_wp2
      go_ret
      exact ⟨rfl, b3.trans (hb8.mono b3.size)⟩
    · obtain ⟨x0, x1⟩ := hX.c2
      go_wp2_with fail
      refine (live_any _ he2.tab).mono ?_
      rintro e w8 ⟨rfl, hb8⟩
      go_wp2
      go_ret
      exact ⟨rfl, b2.trans (hb8.mono b2.size)⟩
end Go.Proofs.YtjlolmachfbffaaDoor.Fa
