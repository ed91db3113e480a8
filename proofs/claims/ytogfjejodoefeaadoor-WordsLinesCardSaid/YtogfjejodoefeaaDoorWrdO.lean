/- The lines of a text: the document's Lines and the program's; two rows of texts; words joined. -/
import Derived.Test.YtogfjejodoefeaaDoorWrdN
namespace Go.Proofs.YtogfjejodoefeaaDoor.Cur
open Go.RowKit Mem
set_option linter.unusedVariables false
set_option maxRecDepth 100000

theorem bt_out {s : ByteArray} {i : Nat} (h : ¬ i < s.size) : bt s i = 0 := by
  unfold bt
  rw [Array.getD_eq_getD_getElem?, Array.getElem?_eq_none (by have : s.data.size = s.size := rfl; omega)]
  rfl
/-- The lines from a place on. -/
def lns (s : ByteArray) : Nat → Nat → Nat → List ByteArray → List ByteArray × Int × Int
  | 0, _, f, acc => if f < s.size then ([], acc.length + 1, 20) else (acc, 0, 0)
  | n + 1, p, f, acc => if bt s p = 10 then (if isLine (s.extract f p) then lns s n (p + 1) (p + 1) (acc ++ [s.extract f p]) else ([], acc.length + 1, 20)) else lns s n (p + 1) f acc
def lnsOf (s : ByteArray) : List ByteArray × Int × Int := lns s s.size 0 0 []
theorem lns_skip (s : ByteArray) : ∀ (k n p f : Nat) (acc : List ByteArray), (∀ i, p ≤ i → i < p + k → bt s i ≠ 10) → lns s (n + k) p f acc = lns s n (p + k) f acc
  | 0, _, _, _, _, _ => rfl
  | k + 1, n, p, f, acc, h => by
    rw [← Nat.add_assoc, lns, if_neg (h p (Nat.le_refl _) (by omega)), lns_skip s k n (p + 1) f acc (fun i h1 h2 => h i (by omega) (by omega)), show p + 1 + k = p + (k + 1) by omega]
theorem ext_size (s : ByteArray) (f p : Nat) (hs : s.size ≤ 100000) : (s.extract f p).size ≤ 100000 := by
  rw [ByteArray.size_extract]
  omega

def LnPost (s : ByteArray) (w : World) (e : Ending) (w' : World) : Prop := ∃ v, e = .returned (.tuple #[v, .int .i64 (lnsOf s).2.1, .int .i64 (lnsOf s).2.2]) ∧ OwnS w' w.heap.size v (lnsOf s).1 ∧ Below w.heap.size w w'
set_option maxHeartbeats 4000000 in
theorem rlines_any (s : ByteArray) (hs : s.size ≤ 100000) (w : World) : Calls Tryd.prog 9 #[.string s] w (LnPost s w) := by
  go_enter Tryd.func9, Tryd.ntmps9
  go_wp2
  go_loopw [5, 6, 7] (fun v3 v4 v5 wr => ∃ (p n f : Nat) (acc : List ByteArray), v5 = .int .i64 p ∧ v4 = .int .i64 f ∧ OwnS wr w.heap.size v3 acc ∧ Below w.heap.size w wr ∧ p + n = s.size ∧ f ≤ p ∧ acc.length ≤ f ∧ Hid (lns s n p f acc = lnsOf s)) (fun _ _ v5 _ => s.size - (intOf v5).toNat)
  case atStart => exact ⟨0, s.size, 0, [], rfl, rfl, OwnS.nil _ _, Below.refl _ _, by omega, Nat.le_refl _, Nat.le_refl _, Lib.hid rfl⟩
  case round =>
    obtain ⟨p, n, f, acc, rfl, rfl, ho, hb, hpn, hfp, hal, HR⟩ := hrel
    obtain ⟨Av, cv, rfl⟩ := ho.slice
    by_cases hp : p < s.size
    · obtain ⟨n, rfl⟩ : ∃ m, n = m + 1 := ⟨n - 1, by omega⟩
      have hx := index_fact s p hp
      by_cases h10 : bt s p = 10
      · have hsl := slice_fact s f p hfp (by omega)
        have hC := line_any (s.extract f p) (ext_size s f p hs) wr
        rw [h10] at hx
        by_cases hl : isLine (s.extract f p) = true
        · have HN : Hid (lns s n (p + 1) (p + 1) (acc ++ [s.extract f p]) = lnsOf s) := Lib.hid (by rw [← HR.out, lns, if_pos h10, if_pos hl])
          rw [hl] at hC
          have HC := Lib.hid hC
          clear h10 HR hC hl
          generalize s.extract f p = X at *
          have hA := below_one wr (.cells #[.string X] 9)
          have hbA := hb.trans (hA.mono hb.size)
          have hrwA := rw_newv wr [.string X] 9
          have hoA := own_below ho hA
          have hB9 : w.heap.size ≤ (wr.alloc (.cells #[.string X] 9)).heap.size := by have := hb.size; simp; omega
          have HLEN : Hid (acc.length + 1 ≤ 1000000) := Lib.hid (by omega)
          have hge := own_ge hoA
          have HBA := Lib.hid hbA
          clear hb ho hbA hA
          go_wp2_with fail
          with_reducible refine HC.out.mono ?_
          rintro e w2 ⟨rfl, rfl⟩
          clear HC
          go_wp2_with (at_builtin; go_must (refine list_append_rw kindS rfl (.tmp 30) (.tmp 35) rfl w.heap.size _ _ _ rfl hoA _ 1 _ [.string X] rfl rfl hrwA (by simp) (by simp [Value.oneCell']) HLEN.out (by omega) hB9 ?_; intro v' w10 ho' hg' hgr'; have H8 : Hid (Below w.heap.size w w10) := Lib.hid (HBA.out.grown hg' (by have := hB9; omega) (fun k hk => by have := hge k hk; omega)); have H9 : Hid (OwnS w10 w.heap.size v' (acc ++ [X])) := Lib.hid (by unfold OwnS; rw [List.length_append, List.map_append]; exact ho'); clear ho' hg' hgr' hrwA hoA hB9 hge))
          go_roundw
          case rel => exact ⟨p + 1, n, p + 1, acc ++ [X], by go_num, by go_num, H9.out, H8.out, by omega, Nat.le_refl _, by rw [List.length_append]; simp; omega, HN⟩
          case measure => simp [intOf]; omega
        · have HN : Hid (lnsOf s = ([], (acc.length : Int) + 1, 20)) := Lib.hid (by rw [← HR.out, lns, if_pos h10, if_neg hl])
          rw [show isLine (s.extract f p) = false by simpa using hl] at hC
          have HC := Lib.hid hC
          have HB := Lib.hid hb
          clear h10 HR hC hl ho hb
          generalize s.extract f p = X at *
          go_wp2_with fail
          with_reducible refine HC.out.mono ?_
          rintro e w2 ⟨rfl, rfl⟩
          clear HC
          go_wp2
          go_ret3
          exact ⟨.slice none 0 0, by rw [HN.out]; rfl, by rw [HN.out]; exact OwnS.nil _ _, HB.out⟩
      · have HN : Hid (lns s n (p + 1) f acc = lnsOf s) := Lib.hid (by rw [← HR.out, lns, if_neg h10])
        have r3 : ((bt s p : Int) != 10) = true := by simp; omega
        clear h10 HR
        generalize bt s p = c at *
        go_wp2
        go_roundw
        case rel => exact ⟨p + 1, n, f, acc, by go_num, rfl, ho, hb, by omega, by omega, hal, HN⟩
        case measure => simp [intOf]; omega
    · obtain rfl : n = 0 := by omega
      have HE := HR.out
      rw [lns] at HE
      have HO := Lib.hid ho
      have HB := Lib.hid hb
      by_cases h0 : f < s.size
      · rw [if_pos h0] at HE
        have HN := Lib.hid HE.symm
        have r1 : (f : Int) < s.size := by omega
        clear HE HR ho hb
        go_wp2
        go_ret3
        exact ⟨.slice none 0 0, by rw [HN.out]; rfl, by rw [HN.out]; exact OwnS.nil _ _, HB.out⟩
      · rw [if_neg h0] at HE
        have HN := Lib.hid HE.symm
        have r1 : ¬ (f : Int) < s.size := by omega
        clear HE HR ho hb
        go_wp2
        go_ret3
        exact ⟨_, by rw [HN.out]; rfl, by rw [HN.out]; exact HO.out, HB.out⟩

set_option maxHeartbeats 4000000 in
theorem lines_any (s : ByteArray) (hs : s.size ≤ 100000) (w : World) : Calls Tryd.prog 8 #[.string s] w (LnPost s w) := by
  go_enter Tryd.func8, Tryd.ntmps8
  go_wp2
  have HI : Hid ((w.iter s 0).heap[w.heap.size]? = some (.stringIter s 0)) := Lib.hid (heap_alloc_new _ _)
  have HBI := Lib.hid (below_iter w s 0)
  obtain ⟨bk, hbk⟩ : ∃ bk, w.heap.size = bk := ⟨_, rfl⟩
  have HBK := Lib.hid hbk
  rw [hbk] at HI
  generalize w.iter s 0 = w0 at *
  simp only [hbk]
  clear hbk
  go_loopw [5, 6] (fun v4 v5 wr => ∃ (p n f : Nat) (acc : List ByteArray), v5 = .int .i64 f ∧ OwnS wr (bk + 1) v4 acc ∧ wr.heap[bk]? = some (.stringIter s p) ∧ Below w.heap.size w wr ∧ p + n = s.size ∧ f ≤ p ∧ acc.length ≤ f ∧ Hid (lns s n p f acc = lnsOf s)) (fun _ _ wr => s.size - wr.iterPos bk)
  case atStart => exact ⟨0, s.size, 0, [], rfl, OwnS.nil _ _, HI.out, HBI.out, by omega, by omega, Nat.le_refl _, Lib.hid rfl⟩
  case round =>
    clear HI HBI
    obtain ⟨p, n, f, acc, rfl, ho, hI, hb, hpn, hfp, hal, HR⟩ := hrel
    obtain ⟨Av, cv, rfl⟩ := ho.slice
    by_cases hp : p < s.size
    · by_cases hc : bt s p < 128
      · obtain ⟨n, rfl⟩ : ∃ m, n = m + 1 := ⟨n - 1, by omega⟩
        have hnx : ∀ ty, (Instr.next (.pointer (some ⟨bk, 0, none⟩)) true ty).run Tryd.prog wr = .ok (.tuple #[.bool true, .int .i64 p, .int .i32 (bt s p : Int)]) (wr.iterAt bk s (p + 1)) := fun ty => by
          have := Lib.run_next_ascii_at (P := Tryd.prog) wr bk s p ty hI hp (by rw [bt_at hp]; exact hc)
          rw [bt_at hp] at this
          exact this
        have H2 := Lib.hid (Lib.iterAt_heap wr bk s p (p + 1) hI)
        have hbi := below_iterAt hb (k := bk) (by rw [HBK.out]; exact Nat.le_refl _) s (p + 1)
        have H3 := Lib.hid hbi
        have H4 := Lib.hid hI
        have H5 : Hid (OwnS (wr.iterAt bk s (p + 1)) (bk + 1) (.slice Av acc.length cv) acc) := Lib.hid (own_iterAt ho (Nat.lt_succ_self _) s (p + 1))
        by_cases h10 : bt s p = 10
        · have hsl := slice_fact s f p hfp (by omega)
          rw [h10] at hnx
          have hC := split_any (s.extract f p) (ext_size s f p hs) (wr.iterAt bk s (p + 1))
          unfold SpPost at hC
          by_cases hl : isLine (s.extract f p) = true
          · have HN : Hid (lns s n (p + 1) (p + 1) (acc ++ [s.extract f p]) = lnsOf s) := Lib.hid (by rw [← HR.out, lns, if_pos h10, if_pos hl])
            rw [hl] at hC
            have HC := Lib.hid hC
            clear ho hI hb hbi hc HR hC hl h10
            generalize s.extract f p = X at *
            go_wp2_with fail
            with_reducible refine HC.out.mono ?_
            rintro e w2 ⟨vs, rfl, -, hb3⟩
            have hbd := H3.out.trans (hb3.mono H3.out.size)
            have hA := below_one w2 (.cells #[.string X] 9)
            have hbA := hbd.trans (hA.mono hbd.size)
            have hrwA := rw_newv w2 [.string X] 9
            have hoA := own_below (own_below H5.out hb3) hA
            have hlt2 := (Array.getElem?_eq_some_iff.1 H2.out).1
            have hI2 : w2.heap[bk]? = some (.stringIter s (p + 1)) := (hb3.block bk hlt2).trans H2.out
            have hB9 : bk + 1 ≤ (w2.alloc (.cells #[.string X] 9)).heap.size := by have := (Array.getElem?_eq_some_iff.1 hI2).1; simp; omega
            have H6 : Hid ((w2.alloc (.cells #[.string X] 9)).heap[bk]? = some (.stringIter s (p + 1))) := Lib.hid ((hA.block bk (Array.getElem?_eq_some_iff.1 hI2).1).trans hI2)
            have HLEN : Hid (acc.length + 1 ≤ 1000000) := Lib.hid (by omega)
            have hge := own_ge hoA
            have HBA := Lib.hid hbA
            clear hb3 hbd hA hbA hlt2 hI2 hnx HC
            go_wp2_with (at_builtin; go_must (refine list_append_rw kindS rfl (.tmp 35) (.tmp 40) rfl (bk + 1) _ _ _ rfl hoA _ 1 _ [.string X] rfl rfl hrwA (by simp) (by simp [Value.oneCell']) HLEN.out (by omega) hB9 ?_; intro v' w10 ho' hg' hgr'; have H7 : Hid (w10.heap[bk]? = some (.stringIter s (p + 1))) := Lib.hid ((hg'.block bk (Array.getElem?_eq_some_iff.1 H6.out).1 (fun e => by have := hge bk e.symm; omega)).trans H6.out); have H8 : Hid (Below w.heap.size w w10) := Lib.hid (HBA.out.grown hg' (by have := hB9; rw [HBK.out]; omega) (fun k hk => by have := hge k hk; rw [HBK.out]; omega)); have H9 : Hid (OwnS w10 (bk + 1) v' (acc ++ [X])) := Lib.hid (by unfold OwnS; rw [List.length_append, List.map_append]; exact ho'); clear ho' hg' hgr' hrwA hoA hB9 hge))
            go_roundw
            case rel => exact ⟨p + 1, n, p + 1, acc ++ [X], by go_num, H9.out, H7.out, H8.out, by omega, Nat.le_refl _, by rw [List.length_append]; simp; omega, HN⟩
            case measure => simp [World.iterPos, H7.out, H4.out]; omega
          · have HN : Hid (lnsOf s = ([], (acc.length : Int) + 1, 20)) := Lib.hid (by rw [← HR.out, lns, if_pos h10, if_neg hl])
            rw [show isLine (s.extract f p) = false by simpa using hl] at hC
            have HC := Lib.hid hC
            clear ho hI hb hbi hc HR hC hl h10
            generalize s.extract f p = X at *
            go_wp2_with fail
            with_reducible refine HC.out.mono ?_
            rintro e w2 ⟨vs, rfl, -, hb3⟩
            have HB := Lib.hid (H3.out.trans (hb3.mono H3.out.size))
            clear hb3 hnx HC
            go_wp2
            go_ret3
            exact ⟨.slice none 0 0, by rw [HN.out]; rfl, by rw [HN.out]; exact OwnS.nil _ _, HB.out⟩
        · have HN : Hid (lns s n (p + 1) f acc = lnsOf s) := Lib.hid (by rw [← HR.out, lns, if_neg h10])
          have r3 : ((bt s p : Int) != 10) = true := by simp; omega
          clear ho hI hb hbi hc HR h10
          generalize bt s p = c at *
          go_wp2
          go_roundw
          case rel => exact ⟨p + 1, n, f, acc, rfl, H5.out, H2.out, H3.out, by omega, by omega, hal, HN⟩
          case measure => simp [World.iterPos, H2.out, H4.out]; omega
      · have hdh := decode_high s p hp (by rw [bt_at hp]; omega)
        have hnx : ∀ ty, (Instr.next (.pointer (some ⟨bk, 0, none⟩)) true ty).run Tryd.prog wr = .ok (.tuple #[.bool true, .int .i64 p, .int .i32 (Utf8.decode s p).1]) (wr.iterAt bk s (p + (Utf8.decode s p).2)) := fun ty => Lib.run_next_any_at wr bk s p ty hI hp
        have H2 := Lib.hid (Lib.iterAt_heap wr bk s p (p + (Utf8.decode s p).2) hI)
        have H3 := Lib.hid (below_iterAt hb (k := bk) (by rw [HBK.out]; exact Nat.le_refl _) s (p + (Utf8.decode s p).2))
        have H4 := Lib.hid hI
        have H5 : Hid (OwnS (wr.iterAt bk s (p + (Utf8.decode s p).2)) (bk + 1) (.slice Av acc.length cv) acc) := Lib.hid (own_iterAt ho (Nat.lt_succ_self _) s _)
        have hsp := fun k hk => decode_span s p k hp (by omega) hk
        have hw1 := hdh.2
        have r3 : ((Utf8.decode s p).1 != 10) = true := by simp; omega
        generalize (Utf8.decode s p).1 = rc at *
        generalize (Utf8.decode s p).2 = wd at *
        have hin : p + wd ≤ s.size := by
          by_cases hi : p + (wd - 1) < s.size
          · omega
          · have h1 := hsp (wd - 1) (by omega)
            rw [bt_out hi] at h1
            omega
        obtain ⟨m, rfl⟩ : ∃ m, n = m + wd := ⟨n - wd, by omega⟩
        have HN : Hid (lns s m (p + wd) f acc = lnsOf s) := Lib.hid (by
          rw [← HR.out, lns_skip s wd m p f acc (fun i i1 i2 => by
            obtain ⟨k, rfl⟩ : ∃ k, i = p + k := ⟨i - p, by omega⟩
            have := hsp k (by omega)
            omega)])
        clear ho hI hb hc hdh HR hsp
        go_wp2
        go_roundw
        case rel => exact ⟨p + wd, m, f, acc, rfl, H5.out, H2.out, H3.out, by omega, by omega, hal, HN⟩
        case measure => simp [World.iterPos, H2.out, H4.out]; omega
    · have hnx : ∀ ty, (Instr.next (.pointer (some ⟨bk, 0, none⟩)) true ty).run Tryd.prog wr = _ := fun ty => Lib.run_next_end_at wr bk s p ty hI hp
      obtain rfl : n = 0 := by omega
      have HE := HR.out
      rw [lns] at HE
      have HO : Hid (OwnS wr w.heap.size (.slice Av acc.length cv) acc) := Lib.hid (own_base ho (fun g hg => by have := own_ge ho g hg; rw [HBK.out]; omega))
      have HB := Lib.hid hb
      by_cases h0 : f < s.size
      · rw [if_pos h0] at HE
        have HN := Lib.hid HE.symm
        have r1 : (f : Int) < s.size := by omega
        clear HE HR ho hb hI
        go_wp2
        go_ret3
        exact ⟨.slice none 0 0, by rw [HN.out]; rfl, by rw [HN.out]; exact OwnS.nil _ _, HB.out⟩
      · rw [if_neg h0] at HE
        have HN := Lib.hid HE.symm
        have r1 : ¬ (f : Int) < s.size := by omega
        clear HE HR ho hb hI
        go_wp2
        go_ret3
        exact ⟨_, by rw [HN.out]; rfl, by rw [HN.out]; exact HO.out, HB.out⟩
end Go.Proofs.YtogfjejodoefeaaDoor.Cur
