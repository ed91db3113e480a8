/- Lines cut into words: the document's Split and the program's. -/
import Derived.Test.YtogfjejodoefeaaDoorWrdM
namespace Go.Proofs.YtogfjejodoefeaaDoor.Cur
open Go.RowKit Mem
set_option linter.unusedVariables false
set_option maxRecDepth 100000

theorem kindS : Kind 23 9 (.string ⟨#[]⟩) 1 16 := ⟨Tryd.underlying23, by kernel_rfl, rfl, by decide⟩
def OwnS (w : World) (B : Nat) (v : Value) (l : List ByteArray) : Prop := w.ownsRow B 9 1 v l.length (l.map Value.string)
theorem OwnS.nil (w : World) (B : Nat) : OwnS w B (.slice none 0 0) [] := World.ownsRow_nil w B 9 1
theorem OwnS.slice {w : World} {B : Nat} {v : Value} {l : List ByteArray} (h : OwnS w B v l) : ∃ A c, v = .slice A l.length c := by
  obtain ⟨A, c, e, _⟩ := own_slice h
  exact ⟨A, c, e⟩
theorem OwnS.snoc {w : World} {B n : Nat} {v : Value} {l : List ByteArray} {x : ByteArray} (h : w.ownsRow B 9 1 v (l.length + 1) (l.map Value.string ++ [.string x])) : OwnS w B v (l ++ [x]) := by
  unfold OwnS
  rw [List.length_append, List.map_append]
  exact h
theorem empty_of {s : ByteArray} (h : s.size = 0) : s = ⟨#[]⟩ := by
  apply ByteArray.ext
  apply Array.toList_inj.1
  exact List.eq_nil_of_length_eq_zero (by rw [blist_len, h])
theorem nonempty_of {s : ByteArray} (h : s.size ≠ 0) : s.toList.isEmpty = false := by
  rw [List.isEmpty_eq_false_iff, ByteArray.toList_eq]
  intro e
  have := blist_len s
  rw [e] at this
  exact h this.symm
theorem slice_fact (s : ByteArray) (f p : Nat) (hf : f ≤ p) (hp : p ≤ s.size) (w : World) : (Instr.slice 9 (.string s) (some (.int .i64 (f : Int))) (some (.int .i64 (p : Int))) none).run Tryd.prog w = .ok (.string (s.extract f p)) w := by
  rw [run_slice_string_if w _ _ _ _ _ _ Tryd.underlying9, if_pos ⟨by omega, by omega⟩, if_pos ⟨by omega, by omega⟩, Int.toNat_natCast, Int.toNat_natCast]
theorem slice_tail (s : ByteArray) (f : Nat) (hf : f ≤ s.size) (w : World) : (Instr.slice 9 (.string s) (some (.int .i64 (f : Int))) none none).run Tryd.prog w = .ok (.string (s.extract f s.size)) w := by
  rw [run_slice_string_l (s := s) (ht := Tryd.underlying9) (kl := .i64) (l := (f : Int)) (h0 := by omega) (h1 := by omega), Int.toNat_natCast]
theorem index_fact (s : ByteArray) (p : Nat) (hp : p < s.size) (w : World) : (Instr.index 9 (.string s) (.int .i64 (p : Int))).run Tryd.prog w = .ok (.int .u8 (bt s p : Int)) w := by
  rw [run_index_string _ _ _ _ _ Tryd.underlying9, dif_pos ⟨by omega, by omega⟩, ← bt_at hp]
  rfl

theorem spl_acc (s : ByteArray) : ∀ (n p f : Nat) (acc : List ByteArray), f ≤ p → p + n ≤ s.size → acc.length ≤ f → (spl s n p f acc).1.length ≤ (spl s n p f acc).2 ∧ (spl s n p f acc).2 ≤ p + n
  | 0, p, f, acc, h1, h2, h3 => ⟨h3, h1⟩
  | n + 1, p, f, acc, h1, h2, h3 => by
    rw [spl]
    split
    · have := spl_acc s n (p + 1) (p + 1) (acc ++ [s.extract f p]) (by omega) (by omega) (by rw [List.length_append]; simp; omega)
      exact ⟨this.1, by omega⟩
    · have := spl_acc s n (p + 1) f acc (by omega) (by omega) h3
      exact ⟨this.1, by omega⟩

set_option maxHeartbeats 4000000 in
theorem rsplit_any (s : ByteArray) (hs : s.size ≤ 100000) (w : World) : Calls Tryd.prog 13 #[.string s] w fun e w' => ∃ v, e = .returned v ∧ OwnS w' w.heap.size v (wordsOf s) ∧ Below w.heap.size w w' := by
  go_enter Tryd.func13, Tryd.ntmps13
  go_wp2
  go_loopw [3, 4, 5] (fun v3 v4 v5 wr => ∃ (p n f : Nat) (acc : List ByteArray), v5 = .int .i64 p ∧ v4 = .int .i64 f ∧ OwnS wr w.heap.size v3 acc ∧ Below w.heap.size w wr ∧ p + n = s.size ∧ f ≤ p ∧ acc.length ≤ f ∧ Hid (spl s n p f acc = spl s s.size 0 0 [])) (fun _ _ v5 _ => s.size - (intOf v5).toNat)
  case atStart => exact ⟨0, s.size, 0, [], rfl, rfl, OwnS.nil _ _, Below.refl _ _, by omega, Nat.le_refl _, Nat.le_refl _, Lib.hid rfl⟩
  case round =>
    obtain ⟨p, n, f, acc, rfl, rfl, ho, hb, hpn, hfp, hal, HR⟩ := hrel
    obtain ⟨Av, cv, rfl⟩ := ho.slice
    by_cases hp : p < s.size
    · obtain ⟨n, rfl⟩ : ∃ m, n = m + 1 := ⟨n - 1, by omega⟩
      have hx := index_fact s p hp
      by_cases h32 : bt s p = 32
      · have HN : Hid (spl s n (p + 1) (p + 1) (acc ++ [s.extract f p]) = spl s s.size 0 0 []) := Lib.hid (by rw [← HR.out, spl, if_pos h32])
        have hsl := slice_fact s f p hfp (by omega)
        rw [h32] at hx
        clear h32 HR
        generalize s.extract f p = X at *
        have hA := below_one wr (.cells #[.string X] 9)
        have hbA := hb.trans (hA.mono hb.size)
        have hrwA := rw_newv wr [.string X] 9
        have hoA := own_below ho hA
        have hB9 : w.heap.size ≤ (wr.alloc (.cells #[.string X] 9)).heap.size := by have := hb.size; simp; omega
        have HLEN : Hid (acc.length + 1 ≤ 1000000) := Lib.hid (by omega)
        have hge := own_ge hoA
        have HBA := Lib.hid hbA
        clear hb hbA hA
        go_wp2_with (at_builtin; go_must (refine list_append_rw kindS rfl (.tmp 16) (.tmp 21) rfl w.heap.size _ _ _ rfl hoA _ 1 _ [.string X] rfl rfl hrwA (by simp) (by simp [Value.oneCell']) HLEN.out (by omega) hB9 ?_; intro v' w10 ho' hg' hgr'; have H8 : Hid (Below w.heap.size w w10) := Lib.hid (HBA.out.grown hg' (by have := hB9; omega) (fun k hk => by have := hge k hk; omega)); have H9 : Hid (OwnS w10 w.heap.size v' (acc ++ [X])) := Lib.hid (by unfold OwnS; rw [List.length_append, List.map_append]; exact ho'); clear ho' hg' hgr' hrwA hoA hB9 hge))
        go_roundw
        case rel => exact ⟨p + 1, n, p + 1, acc ++ [X], by go_num, by go_num, H9.out, H8.out, by omega, Nat.le_refl _, by rw [List.length_append]; simp; omega, HN⟩
        case measure => simp [intOf]; omega
      · have HN : Hid (spl s n (p + 1) f acc = spl s s.size 0 0 []) := Lib.hid (by rw [← HR.out, spl, if_neg h32])
        have r3 : ((bt s p : Int) == 32) = false := by simp; omega
        clear h32 HR
        generalize bt s p = c at *
        go_wp2
        go_roundw
        case rel => exact ⟨p + 1, n, f, acc, by go_num, rfl, ho, hb, by omega, by omega, hal, HN⟩
        case measure => simp [intOf]; omega
    · obtain rfl : n = 0 := by omega
      have HE := HR.out
      rw [spl] at HE
      by_cases h0 : s.size = 0
      · have HW : Hid (wordsOf s = acc) := Lib.hid (by unfold wordsOf splend; rw [if_pos h0, ← HE])
        obtain rfl := empty_of h0
        have HO := Lib.hid ho
        have HB := Lib.hid hb
        clear HE HR ho hb hs
        go_wp2
        go_ret
        exact ⟨_, rfl, by rw [HW.out]; exact HO.out, HB.out⟩
      · have HW : Hid (wordsOf s = acc ++ [s.extract f s.size]) := Lib.hid (by unfold wordsOf splend; rw [if_neg h0, ← HE])
        have hne := nonempty_of h0
        have hsl := slice_tail s f (by omega)
        clear HE HR h0
        generalize s.extract f s.size = X at *
        have hA := below_one wr (.cells #[.string X] 9)
        have hbA := hb.trans (hA.mono hb.size)
        have hrwA := rw_newv wr [.string X] 9
        have hoA := own_below ho hA
        have hB9 : w.heap.size ≤ (wr.alloc (.cells #[.string X] 9)).heap.size := by have := hb.size; simp; omega
        have HLEN : Hid (acc.length + 1 ≤ 1000000) := Lib.hid (by omega)
        have hge := own_ge hoA
        have HBA := Lib.hid hbA
        clear hb hbA hA
        go_wp2_with (at_builtin; go_must (refine list_append_rw kindS rfl (.tmp 27) (.tmp 31) rfl w.heap.size _ _ _ rfl hoA _ 1 _ [.string X] rfl rfl hrwA (by simp) (by simp [Value.oneCell']) HLEN.out (by omega) hB9 ?_; intro v' w10 ho' hg' hgr'; have H8 : Hid (Below w.heap.size w w10) := Lib.hid (HBA.out.grown hg' (by have := hB9; omega) (fun k hk => by have := hge k hk; omega)); have H9 : Hid (OwnS w10 w.heap.size v' (acc ++ [X])) := Lib.hid (by unfold OwnS; rw [List.length_append, List.map_append]; exact ho'); clear ho' hg' hgr' hrwA hoA hB9 hge))
        go_wp2
        go_ret
        exact ⟨_, rfl, by rw [HW.out]; exact H9.out, H8.out⟩

def SpPost (s : ByteArray) (w : World) (e : Ending) (w' : World) : Prop := ∃ v, e = .returned (.tuple #[v, .bool (isLine s)]) ∧ OwnS w' w.heap.size v (if isLine s then wordsOf s else []) ∧ Below w.heap.size w w'
set_option maxHeartbeats 4000000 in
theorem split_any (s : ByteArray) (hs : s.size ≤ 100000) (w : World) : Calls Tryd.prog 11 #[.string s] w (SpPost s w) := by
  by_cases h0 : s.size = 0
  · obtain rfl := empty_of h0
    clear h0 hs
    go_enter Tryd.func11, Tryd.ntmps11
    go_wp2
    go_ret2
    exact ⟨.slice none 0 0, rfl, OwnS.nil _ _, Below.refl _ _⟩
  · have hne := nonempty_of h0
    have hcat : s ++ ⟨#[32]⟩ = su (s.data.toList ++ [32]) := ba_append s.data.toList [32]
    have hm : ¬ 9223372036854775807 < s.size + (⟨#[32]⟩ : ByteArray).size := by
      have : (⟨#[32]⟩ : ByteArray).size = 1 := rfl
      omega
    have hts : (su (s.data.toList ++ [32])).size = s.size + 1 := by rw [su_size, List.length_append, blist_len]; rfl
    have HTS := Lib.hid hts
    have hP := psp_all s (su (s.data.toList ++ [32])) (fun i hi => by
      rw [bt_list _ i (by rw [List.length_append, blist_len]; omega), List.getElem_append_left (by rw [blist_len]; exact hi), ← bt_list _ i (by rw [blist_len]; exact hi)]
      rfl) (by
      rw [bt_list _ s.size (by rw [List.length_append, blist_len]; exact Nat.lt_succ_self _), List.getElem_append_right (by rw [blist_len]; exact Nat.le_refl _)]
      simp) h0
    obtain ⟨T, hTT⟩ : ∃ T, su (s.data.toList ++ [32]) = T := ⟨_, rfl⟩
    rw [hTT] at hcat HTS hP
    have HP := Lib.hid hP
    clear hTT hts hP h0
    go_enter Tryd.func11, Tryd.ntmps11
    go_wp2
    have HI : Hid ((w.iter T 0).heap[w.heap.size]? = some (.stringIter T 0)) := Lib.hid (heap_alloc_new _ _)
    have HBI := Lib.hid (below_iter w T 0)
    obtain ⟨bk, hbk⟩ : ∃ bk, w.heap.size = bk := ⟨_, rfl⟩
    have HBK := Lib.hid hbk
    rw [hbk] at HI
    generalize w.iter T 0 = w0 at *
    simp only [hbk]
    clear hbk hcat hm hne
    go_loopw [4, 5] (fun v4 v5 wr => ∃ (p n f : Nat) (acc : List ByteArray), v5 = .int .i64 f ∧ OwnS wr (bk + 1) v4 acc ∧ wr.heap[bk]? = some (.stringIter T p) ∧ Below w.heap.size w wr ∧ p + n = s.size + 1 ∧ f ≤ p ∧ acc.length ≤ f ∧ Hid (psp s T n p f acc = if isLine s then some (wordsOf s) else none)) (fun _ _ wr => s.size + 1 - wr.iterPos bk)
    case atStart => exact ⟨0, s.size + 1, 0, [], rfl, OwnS.nil _ _, HI.out, HBI.out, by omega, by omega, Nat.le_refl _, HP⟩
    case round =>
      clear HI HBI HP
      obtain ⟨p, n, f, acc, rfl, ho, hI, hb, hpn, hfp, hal, HR⟩ := hrel
      obtain ⟨Av, cv, rfl⟩ := ho.slice
      by_cases hp : p < s.size + 1
      · have hps : p < T.size := by rw [HTS.out]; exact hp
        obtain ⟨n, rfl⟩ : ∃ m, n = m + 1 := ⟨n - 1, by omega⟩
        by_cases hc : bt T p < 128
        · have hnx : ∀ ty, (Instr.next (.pointer (some ⟨bk, 0, none⟩)) true ty).run Tryd.prog wr = .ok (.tuple #[.bool true, .int .i64 p, .int .i32 (bt T p : Int)]) (wr.iterAt bk T (p + 1)) := fun ty => by
            have := Lib.run_next_ascii_at (P := Tryd.prog) wr bk T p ty hI hps (by rw [bt_at hps]; exact hc)
            rw [bt_at hps] at this
            exact this
          have H2 := Lib.hid (Lib.iterAt_heap wr bk T p (p + 1) hI)
          have hbi := below_iterAt hb (k := bk) (by rw [HBK.out]; exact Nat.le_refl _) T (p + 1)
          have H3 := Lib.hid hbi
          have H4 := Lib.hid hI
          have H5 : Hid (OwnS (wr.iterAt bk T (p + 1)) (bk + 1) (.slice Av acc.length cv) acc) := Lib.hid (own_iterAt ho (Nat.lt_succ_self _) T (p + 1))
          by_cases hA : bt T p = 32 ∧ f < p
          · have HN : Hid (psp s T n (p + 1) (p + 1) (acc ++ [s.extract f p]) = if isLine s then some (wordsOf s) else none) := Lib.hid (by rw [← HR.out, psp, if_pos hA])
            have hsl := slice_fact s f p hfp (by omega)
            have hfl : (f : Int) < p := by have := hA.2; omega
            rw [hA.1] at hnx
            clear ho hI hb hbi hA hc HR
            generalize s.extract f p = X at *
            generalize hw2 : wr.iterAt bk T (p + 1) = w2 at *
            have HW2 := Lib.hid hw2
            clear hw2
            have hA := below_one w2 (.cells #[.string X] 9)
            have hbA := H3.out.trans (hA.mono H3.out.size)
            have hrwA := rw_newv w2 [.string X] 9
            have hoA := own_below H5.out hA
            have hlt2 := (Array.getElem?_eq_some_iff.1 H2.out).1
            have hB9 : bk + 1 ≤ (w2.alloc (.cells #[.string X] 9)).heap.size := by simp; omega
            have H6 : Hid ((w2.alloc (.cells #[.string X] 9)).heap[bk]? = some (.stringIter T (p + 1))) := Lib.hid ((hA.block bk hlt2).trans H2.out)
            have HLEN : Hid (acc.length + 1 ≤ 1000000) := Lib.hid (by omega)
            have hge := own_ge hoA
            have HBA := Lib.hid hbA
            clear hA hbA hlt2
            go_wp2_with (at_builtin; go_must (refine list_append_rw kindS rfl (.tmp 25) (.tmp 30) rfl (bk + 1) _ _ _ rfl hoA _ 1 _ [.string X] rfl rfl hrwA (by simp) (by simp [Value.oneCell']) HLEN.out (by omega) hB9 ?_; intro v' w10 ho' hg' hgr'; have H7 : Hid (w10.heap[bk]? = some (.stringIter T (p + 1))) := Lib.hid ((hg'.block bk (Array.getElem?_eq_some_iff.1 H6.out).1 (fun e => by have := hge bk e.symm; omega)).trans H6.out); have H8 : Hid (Below w.heap.size w w10) := Lib.hid (HBA.out.grown hg' (by have := hB9; rw [HBK.out]; omega) (fun k hk => by have := hge k hk; rw [HBK.out]; omega)); have H9 : Hid (OwnS w10 (bk + 1) v' (acc ++ [X])) := Lib.hid (by unfold OwnS; rw [List.length_append, List.map_append]; exact ho'); clear ho' hg' hgr' hrwA hoA hB9 hge))
            go_roundw
            case rel => exact ⟨p + 1, n, p + 1, acc ++ [X], by go_num, H9.out, H7.out, H8.out, by omega, Nat.le_refl _, by rw [List.length_append]; simp; omega, HN⟩
            case measure => simp [World.iterPos, H7.out, H4.out]; omega
          · by_cases hr : bt T p ≤ 32 ∨ 126 < bt T p
            · have hE := HR.out
              rw [psp, if_neg hA, if_pos hr] at hE
              have HL : Hid (isLine s = false) := Lib.hid (by
                by_cases hl : isLine s = true
                · rw [if_pos hl] at hE; cases hE
                · simpa using hl)
              clear hE HR ho hI hb hbi
              by_cases h32 : bt T p = 32
              · have hfl : ¬ (f : Int) < p := by
                  intro e
                  exact hA ⟨h32, by omega⟩
                rw [h32] at hnx
                clear hA hr hc h32
                go_wp2
                go_ret2
                exact ⟨.slice none 0 0, by rw [HL.out]; rfl, by rw [HL.out]; exact OwnS.nil _ _, H3.out⟩
              · have r3 : ((bt T p : Int) == 32) = false := by simp; omega
                clear hA h32
                by_cases hr1 : bt T p ≤ 32
                · have r1 : (bt T p : Int) ≤ 32 := by omega
                  generalize bt T p = c at *
                  go_wp2
                  go_ret2
                  exact ⟨.slice none 0 0, by rw [HL.out]; rfl, by rw [HL.out]; exact OwnS.nil _ _, H3.out⟩
                · have r1 : ¬ (bt T p : Int) ≤ 32 := by omega
                  have r2 : 126 < (bt T p : Int) := by omega
                  generalize bt T p = c at *
                  go_wp2
                  go_ret2
                  exact ⟨.slice none 0 0, by rw [HL.out]; rfl, by rw [HL.out]; exact OwnS.nil _ _, H3.out⟩
            · have HN : Hid (psp s T n (p + 1) f acc = if isLine s then some (wordsOf s) else none) := Lib.hid (by rw [← HR.out, psp, if_neg hA, if_neg hr])
              have r1 : ¬ (bt T p : Int) ≤ 32 := by omega
              have r2 : ¬ 126 < (bt T p : Int) := by omega
              have r3 : ((bt T p : Int) == 32) = false := by simp; omega
              clear hA hr ho hI hb hbi HR
              generalize bt T p = c at *
              go_wp2
              go_roundw
              case rel => exact ⟨p + 1, n, f, acc, rfl, H5.out, H2.out, H3.out, by omega, by omega, hal, HN⟩
              case measure => simp [World.iterPos, H2.out, H4.out]; omega
        · have hdh := decode_high T p hps (by rw [bt_at hps]; omega)
          have hnx : ∀ ty, (Instr.next (.pointer (some ⟨bk, 0, none⟩)) true ty).run Tryd.prog wr = .ok (.tuple #[.bool true, .int .i64 p, .int .i32 (Utf8.decode T p).1]) (wr.iterAt bk T (p + (Utf8.decode T p).2)) := fun ty => Lib.run_next_any_at wr bk T p ty hI hps
          have H3 := Lib.hid (below_iterAt hb (k := bk) (by rw [HBK.out]; exact Nat.le_refl _) T (p + (Utf8.decode T p).2))
          have hE := HR.out
          rw [psp, if_neg (fun e => absurd e.1 (by omega)), if_pos (.inr (by omega))] at hE
          have HL : Hid (isLine s = false) := Lib.hid (by
            by_cases hl : isLine s = true
            · rw [if_pos hl] at hE; cases hE
            · simpa using hl)
          have r1 : ¬ (Utf8.decode T p).1 ≤ 32 := by omega
          have r2 : 126 < (Utf8.decode T p).1 := by omega
          have r3 : ((Utf8.decode T p).1 == 32) = false := by simp; omega
          clear hE HR ho hI hb hdh hc
          generalize (Utf8.decode T p).1 = rc at *
          generalize (Utf8.decode T p).2 = wd at *
          go_wp2
          go_ret2
          exact ⟨.slice none 0 0, by rw [HL.out]; rfl, by rw [HL.out]; exact OwnS.nil _ _, H3.out⟩
      · have hnx : ∀ ty, (Instr.next (.pointer (some ⟨bk, 0, none⟩)) true ty).run Tryd.prog wr = _ := fun ty => Lib.run_next_end_at wr bk T p ty hI (by rw [HTS.out]; exact hp)
        obtain rfl : n = 0 := by omega
        have hE := HR.out
        rw [psp] at hE
        have HL : Hid (isLine s = true ∧ acc = wordsOf s) := Lib.hid (by
          by_cases hl : isLine s = true
          · rw [if_pos hl] at hE; injection hE with hE; exact ⟨hl, hE⟩
          · rw [if_neg hl] at hE; cases hE)
        have HO : Hid (OwnS wr w.heap.size (.slice Av acc.length cv) acc) := Lib.hid (own_base ho (fun g hg => by have := own_ge ho g hg; rw [HBK.out]; omega))
        have HB := Lib.hid hb
        clear ho hI hb hp hE HR
        go_wp2
        go_ret2
        exact ⟨_, by rw [HL.out.1]; rfl, by rw [HL.out.1, if_pos rfl, ← HL.out.2]; exact HO.out, HB.out⟩
end Go.Proofs.YtogfjejodoefeaaDoor.Cur
