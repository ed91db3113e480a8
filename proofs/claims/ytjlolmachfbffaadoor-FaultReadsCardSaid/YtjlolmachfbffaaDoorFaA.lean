/- The words of faults: what fault.words, fault.Word, fault.Find and the document's Word tell. -/
import Derived.Test.YtjlolmachfbffaaDoorMem
import Derived.LoopTactic
import Derived.Deep.WholeRow
import Derived.Great.BuildSlice
namespace Go.Proofs.YtjlolmachfbffaaDoor.Fa
open Go.RowKit Mem
set_option linter.unusedVariables false

theorem str_inj {a b : ByteArray} (h : a.toList = b.toList) : a = b := by
  rw [ByteArray.toList_eq, ByteArray.toList_eq] at h
  cases a; cases b
  simp only [ByteArray.mk.injEq]
  exact Array.toList_inj.1 h
theorem str_ne {a b : ByteArray} (h : ¬ a = b) : (a.toList == b.toList) = false := by
  rw [beq_eq_false_iff_ne]
  exact fun e => h (str_inj e)
/-- The words, in the order of their codes. -/
def wl : List ByteArray := [
  ⟨#[111, 107]⟩,
  ⟨#[115, 104, 111, 114, 116]⟩,
  ⟨#[108, 111, 110, 103]⟩,
  ⟨#[105, 110, 118, 97, 108, 105, 100]⟩,
  ⟨#[110, 111, 110, 45, 109, 105, 110, 105, 109, 97, 108]⟩,
  ⟨#[111, 118, 101, 114, 102, 108, 111, 119]⟩,
  ⟨#[115, 117, 109]⟩,
  ⟨#[107, 105, 110, 100]⟩,
  ⟨#[118, 101, 114, 115, 105, 111, 110]⟩,
  ⟨#[114, 101, 115, 116]⟩,
  ⟨#[116, 111, 107, 101, 110]⟩,
  ⟨#[98, 111, 117, 110, 100]⟩,
  ⟨#[110, 111, 110, 45, 99, 97, 110, 111, 110, 105, 99, 97, 108]⟩,
  ⟨#[111, 114, 100, 101, 114]⟩,
  ⟨#[109, 97, 103, 105, 99]⟩,
  ⟨#[116, 111, 111, 45, 108, 97, 114, 103, 101]⟩,
  ⟨#[110, 111, 110, 101]⟩,
  ⟨#[97, 114, 103]⟩,
  ⟨#[115, 116, 97, 116, 101]⟩,
  ⟨#[110, 105, 108]⟩,
  ⟨#[102, 111, 114, 109]⟩]
/-- The word of a code, or nothing. -/
def wordB (c : Int) : ByteArray := if 0 ≤ c then wl.getD c.toNat ⟨#[]⟩ else ⟨#[]⟩
theorem wl_len : wl.length = 21 := rfl
theorem wordB_out {c : Int} (h : c < 0 ∨ 21 ≤ c) : wordB c = ⟨#[]⟩ := by
  unfold wordB
  split
  · rw [List.getD_eq_getElem?_getD, List.getElem?_eq_none (by rw [wl_len]; omega)]; rfl
  · rfl
theorem cases21 {c : Int} (h0 : 0 ≤ c) (h1 : c < 21) : c = 0 ∨ c = 1 ∨ c = 2 ∨ c = 3 ∨ c = 4 ∨ c = 5 ∨ c = 6 ∨ c = 7 ∨ c = 8 ∨ c = 9 ∨ c = 10 ∨ c = 11 ∨ c = 12 ∨ c = 13 ∨ c = 14 ∨ c = 15 ∨ c = 16 ∨ c = 17 ∨ c = 18 ∨ c = 19 ∨ c = 20 := by omega
theorem cases21n {c : Nat} (h1 : c < 21) : c = 0 ∨ c = 1 ∨ c = 2 ∨ c = 3 ∨ c = 4 ∨ c = 5 ∨ c = 6 ∨ c = 7 ∨ c = 8 ∨ c = 9 ∨ c = 10 ∨ c = 11 ∨ c = 12 ∨ c = 13 ∨ c = 14 ∨ c = 15 ∨ c = 16 ∨ c = 17 ∨ c = 18 ∨ c = 19 ∨ c = 20 := by omega
/-- The array of the words. -/
def wv : Array Value := #[.string ⟨#[111, 107]⟩, .string ⟨#[115, 104, 111, 114, 116]⟩, .string ⟨#[108, 111, 110, 103]⟩, .string ⟨#[105, 110, 118, 97, 108, 105, 100]⟩, .string ⟨#[110, 111, 110, 45, 109, 105, 110, 105, 109, 97, 108]⟩, .string ⟨#[111, 118, 101, 114, 102, 108, 111, 119]⟩, .string ⟨#[115, 117, 109]⟩, .string ⟨#[107, 105, 110, 100]⟩, .string ⟨#[118, 101, 114, 115, 105, 111, 110]⟩, .string ⟨#[114, 101, 115, 116]⟩, .string ⟨#[116, 111, 107, 101, 110]⟩, .string ⟨#[98, 111, 117, 110, 100]⟩, .string ⟨#[110, 111, 110, 45, 99, 97, 110, 111, 110, 105, 99, 97, 108]⟩, .string ⟨#[111, 114, 100, 101, 114]⟩, .string ⟨#[109, 97, 103, 105, 99]⟩, .string ⟨#[116, 111, 111, 45, 108, 97, 114, 103, 101]⟩, .string ⟨#[110, 111, 110, 101]⟩, .string ⟨#[97, 114, 103]⟩, .string ⟨#[115, 116, 97, 116, 101]⟩, .string ⟨#[110, 105, 108]⟩, .string ⟨#[102, 111, 114, 109]⟩]
def wz : Array Value := #[.string ⟨#[]⟩, .string ⟨#[]⟩, .string ⟨#[]⟩, .string ⟨#[]⟩, .string ⟨#[]⟩, .string ⟨#[]⟩, .string ⟨#[]⟩, .string ⟨#[]⟩, .string ⟨#[]⟩, .string ⟨#[]⟩, .string ⟨#[]⟩, .string ⟨#[]⟩, .string ⟨#[]⟩, .string ⟨#[]⟩, .string ⟨#[]⟩, .string ⟨#[]⟩, .string ⟨#[]⟩, .string ⟨#[]⟩, .string ⟨#[]⟩, .string ⟨#[]⟩, .string ⟨#[]⟩]
theorem wv_get {k : Nat} (h : k < 21) : wv[k]? = some (.string (wl.getD k ⟨#[]⟩)) := by
  rcases cases21n h with rfl | rfl | rfl | rfl | rfl | rfl | rfl | rfl | rfl | rfl | rfl | rfl | rfl | rfl | rfl | rfl | rfl | rfl | rfl | rfl | rfl <;> rfl
theorem size34 : (Tryd.prog.info? 34).map (·.size) = some 21 := by kernel_rfl
theorem store_words (w : World) : (storeCells ⟨w.heap.size, 0, none⟩ wv.toList 0).run Tryd.prog (w.alloc (.cells wz 34)) = .ok () (w.alloc (.cells wv 34)) :=
  run_storeCells_new w 34 wz wv size34 rfl (by kernel_rfl)
theorem load_words (w : World) : (loadCellsFrom ⟨w.heap.size, 0, none⟩ 0 21 #[]).run Tryd.prog (w.alloc (.cells wv 34)) = .ok wv (w.alloc (.cells wv 34)) :=
  run_loadCellsFrom_new w 34 wv 21 rfl

set_option maxRecDepth 100000 in
set_option maxHeartbeats 400000 in
theorem words_any (w : World) : Calls Tryd.prog 12 #[] w fun e w' => e = .returned (.agg wv) ∧ Below w.heap.size w w' := by
  go_enter Tryd.func12, Tryd.ntmps12
  go_wp2_with (first
    | (refine wpList_buildTo rfl 34 _ rfl (some 1) rfl wv (by as_aux_lemma => kernel_rfl) ?_)
    | (refine wpList_store_rowTo rfl 34 (.tmp 0) (.tmp 1) rfl rfl w.heap.size wv rfl rfl 34 wz (heap_alloc_new _ _) size34 rfl (by as_aux_lemma => kernel_rfl) ?_; rw [World.setRow_alloc_new]))
  refine bodyPost_ret (v := .agg wv) (results_cell_row Tryd.results12 _ _ w.heap.size 34 wv (0, 0) _ rfl (heap_alloc_new _ _) Tryd.underlying34 rfl size34) rfl ⟨rfl, below_one _ _⟩

theorem wordB_in {k : Nat} : wordB (k : Int) = wl.getD k ⟨#[]⟩ := by
  unfold wordB
  rw [if_pos (by omega), Int.toNat_natCast]

set_option maxRecDepth 100000 in
set_option maxHeartbeats 4000000 in
theorem word_any (c : Int) (w : World) : Calls Tryd.prog 5 #[.int .i64 c] w fun e w' => e = .returned (.string (wordB c)) ∧ Below w.heap.size w w' := by
  have hs := store_words
  unfold wz at hs
  by_cases h0 : c < 0
  · rw [wordB_out (.inl h0)]
    go_enter Tryd.func5, Tryd.ntmps5
    go_wp2_with fail
    refine (words_any _).mono ?_
    rintro e w1 ⟨rfl, hb⟩
    go_wp2
    go_ret
    exact ⟨rfl, hb.trans ((below_one _ _).mono hb.size)⟩
  · by_cases h1 : 21 ≤ c
    · rw [wordB_out (.inr h1)]
      go_enter Tryd.func5, Tryd.ntmps5
      go_wp2_with fail
      refine (words_any _).mono ?_
      rintro e w1 ⟨rfl, hb⟩
      go_wp2
      go_ret
      exact ⟨rfl, hb.trans ((below_one _ _).mono hb.size)⟩
    · obtain ⟨k, rfl⟩ := Int.eq_ofNat_of_zero_le (show 0 ≤ c by omega)
      have hk : k < 21 := by omega
      have hg := wv_get hk
      have hkk : k < wv.size := hk
      rw [wordB_in]
      generalize wl.getD k ⟨#[]⟩ = s at *
      have k0 : (0 : Int) ≤ k := by omega
      have k1 : (k : Int) < 21 := by omega
      go_enter Tryd.func5, Tryd.ntmps5
      go_wp2_with fail
      refine (words_any _).mono ?_
      rintro e w1 ⟨rfl, hb⟩
      go_wp2
      go_ret
      have e : wv[k]'hkk = Value.string s := by rw [Array.getElem?_eq_getElem hkk] at hg; exact Option.some.inj hg
      exact ⟨congrArg Ending.returned e, hb.trans ((below_one _ _).mono hb.size)⟩

theorem hzero : ∃ ie z, Tryd.prog.info? 9 = some ie ∧ ie.zero = some z ∧ ie.size = 1 ∧ z = .string ⟨#[]⟩ := by
  cases hq : Tryd.prog.info? 9 with
  | none => exact absurd (show (Tryd.prog.info? 9).isSome = true by kernel_rfl) (by rw [hq]; simp)
  | some i =>
    have h : (Tryd.prog.info? 9).map (fun i => (i.zero, i.size)) = some (some (.string ⟨#[]⟩), 1) := by kernel_rfl
    rw [hq] at h
    simp at h
    exact ⟨i, _, rfl, h.1, h.2, rfl⟩

set_option maxRecDepth 100000 in
set_option maxHeartbeats 1000000 in
theorem refWord_any (c : Int) (w : World) : Calls Tryd.prog 6 #[.int .i64 c] w fun e w' => e = .returned (.string (wordB c)) ∧ Below w.heap.size w w' := by
  obtain ⟨ie, z, hie, hz, hsz, rfl⟩ := hzero
  go_enter Tryd.func6, Tryd.ntmps6
  go_wp2_with (refine wpList_buildSlice rfl 36 9 21 _ rfl wv ie (.string ⟨#[]⟩) Tryd.underlying36 hie hz (by rw [hsz]; decide) (by rw [hsz]; decide) (by rw [hsz]; kernel_rfl) ?_)
  go_loop [4] (fun i => ∃ k : Nat, k ≤ 21 ∧ i = .int .i64 k ∧ ∀ j : Nat, j < k → c ≠ j) (fun i => 21 - (intOf i).toNat)
  case atStart => exact ⟨0, Nat.zero_le _, rfl, fun j h => absurd h (by omega)⟩
  case round =>
    obtain ⟨k, hk, rfl, hno⟩ := hrel
    have HN := Lib.hid hno
    clear hno
    by_cases hlt : k < 21
    · have k0 : (0 : Int) ≤ k := by omega
      have k1 : (k : Int) < 21 := by omega
      by_cases hc : c = k
      · subst hc
        have hg := wv_get hlt
        have hkk : k < wv.size := hlt
        have hb : ((k : Int) == k) = true := beq_self_eq_true _
        go_wp2
        go_ret
        have e : wv[k]'hkk = Value.string (wordB k) := by rw [wordB_in]; rw [Array.getElem?_eq_getElem hkk] at hg; exact Option.some.inj hg
        exact ⟨congrArg Ending.returned e, below_one _ _⟩
      · have hb : ((k : Int) == c) = false := by simp; omega
        have HC := Lib.hid hc
        clear hc
        go_wp2
        go_round
        case rel => exact ⟨k + 1, by omega, by go_num, fun j hj => by
          by_cases e : j = k
          · subst e; exact HC.out
          · exact HN.out j (by omega)⟩
        case measure => simp [intOf]; omega
    · go_wp2
      go_ret
      refine ⟨congrArg (fun s => Ending.returned (Value.string s)) (wordB_out ?_).symm, below_one _ _⟩
      by_cases h0 : c < 0
      · exact .inl h0
      · right
        by_cases h1 : 21 ≤ c
        · exact h1
        · exact absurd rfl (fun (_ : True = True) => HN.out c.toNat (by omega) (by omega))

theorem index_words {k : Nat} (h : k < 21) (W : World) : (Instr.index 34 (.agg wv) (.int .i64 k)).run Tryd.prog W = .ok (.string (wordB k)) W := by
  rcases cases21n h with rfl | rfl | rfl | rfl | rfl | rfl | rfl | rfl | rfl | rfl | rfl | rfl | rfl | rfl | rfl | rfl | rfl | rfl | rfl | rfl | rfl <;> kernel_rfl
def FindPost (s : ByteArray) (w : World) (e : Ending) (w' : World) : Prop :=
  ∃ (c : Int) (ok : Bool), e = .returned (.tuple #[.int .i64 c, .bool ok]) ∧ Below w.heap.size w w' ∧ ((ok = true ∧ 0 ≤ c ∧ c < 21 ∧ wordB c = s) ∨ (ok = false ∧ c = 0 ∧ ∀ j : Nat, j < 21 → wordB j ≠ s))

set_option maxRecDepth 100000 in
set_option maxHeartbeats 1000000 in
theorem find_any (s : ByteArray) (w : World) : Calls Tryd.prog 9 #[.string s] w (FindPost s w) := by
  go_enter Tryd.func9, Tryd.ntmps9
  go_wp2_with fail
  refine (words_any _).mono ?_
  rintro e w1 ⟨rfl, hb⟩
  go_wp2_with fail
  go_loop [7] (fun i => ∃ k : Nat, k ≤ 21 ∧ i = .int .i64 k ∧ ∀ j : Nat, j < k → wordB j ≠ s) (fun i => 21 - (intOf i).toNat)
  case atStart => exact ⟨0, Nat.zero_le _, rfl, fun j h => absurd h (by omega)⟩
  case round =>
    obtain ⟨k, hk, rfl, hno⟩ := hrel
    have HN := Lib.hid hno
    clear hno
    by_cases hlt : k < 21
    · have k0 : (0 : Int) ≤ k := by omega
      have k1 : (k : Int) < 21 := by omega
      have hg := wv_get hlt
      have hkk : k < wv.size := hlt
      have hv : wv[k]'hkk = Value.string (wordB k) := by rw [wordB_in]; rw [Array.getElem?_eq_getElem hkk] at hg; exact Option.some.inj hg
      have hix := index_words hlt
      generalize hs : wordB k = t at *
      have HS := Lib.hid hs
      clear hs hg hv
      by_cases hst : t = s
      · subst hst
        go_wp2
        go_ret2
        exact ⟨k, true, rfl, hb, .inl ⟨rfl, by omega, by omega, HS.out⟩⟩
      · have hne := str_ne hst
        have HT := Lib.hid hst
        clear hst
        go_wp2
        go_round
        case rel => exact ⟨k + 1, by omega, by go_num, fun j hj => by
          by_cases e : j = k
          · subst e; rw [HS.out]; exact HT.out
          · exact HN.out j (by omega)⟩
        case measure => simp [intOf]; omega
    · go_wp2
      go_ret2
      exact ⟨0, false, rfl, hb, .inr ⟨rfl, rfl, fun j hj => HN.out j (by omega)⟩⟩

end Go.Proofs.YtjlolmachfbffaaDoor.Fa
