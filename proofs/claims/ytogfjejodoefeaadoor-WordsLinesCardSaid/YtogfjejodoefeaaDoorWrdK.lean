/- Words of lists read: ReadList, whatever the text. -/
import Derived.Test.YtogfjejodoefeaaDoorWrdJ
import Derived.Laws.DeepStrings4
namespace Go.Proofs.YtogfjejodoefeaaDoor.Cur
open Go.RowKit Mem
set_option linter.unusedVariables false
set_option maxRecDepth 100000

def u64s (l : List Int) : Prop := ∀ x ∈ l, 0 ≤ x ∧ x < 18446744073709551616
def RlPost (s : ByteArray) (w : World) (e : Ending) (w' : World) : Prop :=
  ∃ (v : Value) (l : List Int) (ok : Bool), e = .returned (.tuple #[v, .bool ok]) ∧ OwnU w' w.heap.size v l ∧ Below w.heap.size w w' ∧ u64s l ∧ (ok = true → lword l = s) ∧ (ok = false → l = [] ∧ ∀ m, u64s m → lword m ≠ s)
/-- What is known of the pieces so far. -/
def RlI (s : ByteArray) (p f : Nat) (acc : List Int) : Prop :=
  u64s acc ∧ (∀ i, f ≤ i → i < p → bt (su (s.data.toList ++ [44])) i ≠ 44) ∧ (s.data.toList ++ [44]).take f = cm (dcs acc) ∧ acc.length ≤ f
theorem blist_len (s : ByteArray) : s.data.toList.length = s.size := by rw [Array.length_toList]; rfl
theorem ext_list (s : ByteArray) (f p : Nat) (hf : f ≤ p) (hp : p ≤ s.size) : (s.extract f p).data.toList = ((s.data.toList ++ [44]).drop f).take (p - f) := by
  have hl := blist_len s
  rw [List.drop_append_of_le_length (by omega), List.take_append_of_le_length (by rw [List.length_drop]; omega)]
  have h1 : (s.extract f p).data = s.data.extract f p := by simp [ByteArray.data_extract]
  rw [h1, Array.toList_extract]
theorem bt_tl (s : ByteArray) (i : Nat) (h : i < s.size + 1) : bt (su (s.data.toList ++ [44])) i = ((s.data.toList ++ [44])[i]'(by rw [List.length_append, blist_len]; exact h)).toNat := bt_list _ _ _
theorem rli_zero (s : ByteArray) : RlI s 0 0 [] := ⟨fun x hx => absurd hx (by simp), fun i h1 h2 => absurd h2 (by omega), by simp [cm, dcs], by simp⟩
theorem rli_skip {s : ByteArray} {p q f : Nat} {acc : List Int} (h : RlI s p f acc) (hq : ∀ i, p ≤ i → i < q → bt (su (s.data.toList ++ [44])) i ≠ 44) : RlI s q f acc :=
  ⟨h.1, fun i h1 h2 => by
    by_cases e : i < p
    · exact h.2.1 i h1 e
    · exact hq i (by omega) h2, h.2.2.1, h.2.2.2⟩
/-- The piece that ends here. -/
theorem rli_piece {s : ByteArray} {p f : Nat} {acc : List Int} (h : RlI s p f acc) (hf : f ≤ p) (hp : p < s.size + 1) (hc : bt (su (s.data.toList ++ [44])) p = 44) :
    (44 : UInt8) ∉ (s.extract f p).data.toList ∧ (s.data.toList ++ [44]).take (p + 1) = cm (dcs acc) ++ ((s.extract f p).data.toList ++ [44]) := by
  have hl : (s.data.toList ++ [44]).length = s.size + 1 := by rw [List.length_append, blist_len]; rfl
  have he := ext_list s f p hf (by omega)
  rw [he]
  constructor
  · intro hm
    obtain ⟨i, hi, e⟩ := List.mem_iff_getElem.1 hm
    rw [List.getElem_take, List.getElem_drop] at e
    have hi2 : i < p - f := by rw [List.length_take] at hi; omega
    refine h.2.1 (f + i) (by omega) (by omega) ?_
    rw [bt_tl s (f + i) (by omega), e]
    rfl
  · have h44 : (s.data.toList ++ [44])[p]'(by omega) = (44 : UInt8) := by
      rw [bt_tl s p hp] at hc
      exact UInt8.toNat_inj.1 hc
    rw [List.take_add_one, List.getElem?_eq_getElem (by omega), h44, ← h.2.2.1]
    have : (s.data.toList ++ [44]).take p = (s.data.toList ++ [44]).take f ++ ((s.data.toList ++ [44]).drop f).take (p - f) := by
      rw [← List.take_append_drop f (List.take p _), List.take_take, Nat.min_eq_left hf, List.drop_take]
    rw [this, List.append_assoc]
    rfl
theorem rli_more {s : ByteArray} {p f : Nat} {acc : List Int} {x : Int} (h : RlI s p f acc) (hf : f ≤ p) (hp : p < s.size + 1) (hc : bt (su (s.data.toList ++ [44])) p = 44) (hx : 0 ≤ x ∧ x < 18446744073709551616)
    (he : su (Lib.decDigits x.toNat) = s.extract f p) : RlI s (p + 1) (p + 1) (acc ++ [x]) := by
  obtain ⟨h1, h2⟩ := rli_piece h hf hp hc
  refine ⟨fun y hy => ?_, fun i h1 h2 => absurd h2 (by omega), ?_, ?_⟩
  · rcases List.mem_append.1 hy with hy | hy
    · exact h.1 y hy
    · rw [List.mem_singleton] at hy; subst hy; exact hx
  · rw [h2, ← he]
    unfold dcs
    rw [List.map_append, List.map_cons, List.map_nil, cm_snoc]
    simp [su]
  · rw [List.length_append]; have := h.2.2.2; simp; omega
theorem rli_none {s : ByteArray} {p f : Nat} {acc : List Int} (h : RlI s p f acc) (hf : f ≤ p) (hp : p < s.size + 1) (hc : bt (su (s.data.toList ++ [44])) p = 44) (hs : s ≠ ⟨#[45]⟩)
    (hn : ¬ su (Lib.decDigits (rnx (s.extract f p) (s.extract f p).size 0 0).toNat) = s.extract f p) (m : List Int) (hm : u64s m) : lword m ≠ s := by
  intro e
  obtain ⟨h1, h2⟩ := rli_piece h hf hp hc
  have hm0 : m ≠ [] := fun e0 => by
    subst e0
    exact hs (by rw [← e]; rfl)
  have hcm := lword_cm m hm0
  rw [e] at hcm
  have hsp : cm (dcs acc) ++ ((s.extract f p).data.toList ++ [44] ++ (s.data.toList ++ [44]).drop (p + 1)) = cm (dcs m) := by
    rw [← hcm, ← List.append_assoc, ← h2, List.take_append_drop]
  obtain ⟨R, e1, e2⟩ := part_all (dcs_free acc) (dcs_free m) hsp
  cases R with
  | nil => simp [cm] at e2
  | cons r R =>
    have hr : r ∈ dcs m := by rw [e1]; simp
    obtain ⟨e3, _⟩ := part_one (r' := cm R) h1 (dcs_free m r hr) (by rw [e2]; simp [cm])
    obtain ⟨x, hx, rfl⟩ := List.mem_map.1 hr
    have hxb := hm x hx
    have hsu : s.extract f p = su (Lib.decDigits x.toNat) := by
      unfold su
      apply ByteArray.ext
      apply Array.toList_inj.1
      rw [e3]
    rw [hsu] at hn
    rw [rnx_dec x.toNat (by omega), Int.toNat_natCast] at hn
    exact hn rfl
theorem rli_end {s : ByteArray} {p f : Nat} {acc : List Int} (h : RlI s p f acc) (hf : f ≤ s.size + 1) (hp : s.size + 1 ≤ p) : lword acc = s := by
  have hl : (s.data.toList ++ [44]).length = s.size + 1 := by rw [List.length_append, blist_len]; rfl
  have hfe : f = s.size + 1 := by
    by_cases e : f = s.size + 1
    · exact e
    · exfalso
      refine h.2.1 s.size (by omega) (by omega) ?_
      rw [bt_tl s s.size (by omega), List.getElem_append_right (by rw [blist_len]; exact Nat.le_refl _)]
      simp
  have ht := h.2.2.1
  rw [hfe, List.take_of_length_le (by omega)] at ht
  have h0 : acc ≠ [] := fun e0 => by
    subst e0
    simp [cm, dcs] at ht
  have hcm := lword_cm acc h0
  rw [← ht] at hcm
  apply ByteArray.ext
  apply Array.toList_inj.1
  exact List.append_cancel_right hcm

theorem own_ge {w : World} {B e size n : Nat} {v : Value} {xs : List Value} (h : w.ownsRow B e size v n xs) : ∀ g, v.ownBlock = some g → B ≤ g := fun g hg => (World.ownsRow.lt h g hg).1
theorem own_iterAt {w : World} {B e size n k : Nat} {v : Value} {xs : List Value} (h : w.ownsRow B e size v n xs) (hk : k < B) (s : ByteArray) (p : Nat) : (Go.World.iterAt w k s p).ownsRow B e size v n xs :=
  own_block h fun g hg => by
    show (w.heap.setIfInBounds k _)[g]? = _
    rw [Array.getElem?_setIfInBounds_ne (by have := own_ge h g hg; omega)]

set_option maxHeartbeats 4000000 in
theorem readlist_any (s : ByteArray) (hs : s.size ≤ 100000) (w : World) (hT : Tbs w) : Calls Tryd.prog 23 #[.string s] w (RlPost s w) := by
  have HT := Lib.hid hT
  clear hT
  by_cases h1 : s = ⟨#[45]⟩
  · have HL : Hid (lword [] = s) := Lib.hid (by rw [h1]; rfl)
    subst h1
    go_enter Tryd.func23, Tryd.ntmps23
    go_wp2
    go_ret2
    exact ⟨.slice none 0 0, [], true, rfl, OwnU.nil _ _, Below.refl _ _, fun x hx => absurd hx (by simp), fun _ => HL.out, fun h => by cases h⟩
  · have hne := text_nel (l := [45]) h1
    have H1 := Lib.hid h1
    have hcat : s ++ ⟨#[44]⟩ = su (s.data.toList ++ [44]) := ba_append s.data.toList [44]
    have hm : ¬ 9223372036854775807 < s.size + (⟨#[44]⟩ : ByteArray).size := by
      have : (⟨#[44]⟩ : ByteArray).size = 1 := rfl
      omega
    have hts : (su (s.data.toList ++ [44])).size = s.size + 1 := by rw [su_size, List.length_append, blist_len]; rfl
    have HTS := Lib.hid hts
    clear hts h1
    obtain ⟨T, hTT⟩ : ∃ T, su (s.data.toList ++ [44]) = T := ⟨_, rfl⟩
    have HTT := Lib.hid hTT
    rw [hTT] at hcat HTS
    clear hTT
    go_enter Tryd.func23, Tryd.ntmps23
    go_wp2
    have HI : Hid ((w.iter T 0).heap[w.heap.size]? = some (.stringIter T 0)) := Lib.hid (heap_alloc_new _ _)
    have HBI := Lib.hid (below_iter w T 0)
    obtain ⟨bk, hbk⟩ : ∃ bk, w.heap.size = bk := ⟨_, rfl⟩
    have HBK := Lib.hid hbk
    rw [hbk] at HI
    have HSZ : Hid (bk + 1 ≤ (w.iter T 0).heap.size) := Lib.hid (by rw [← hbk]; exact (Array.getElem?_eq_some_iff.1 (heap_alloc_new w (.stringIter T 0))).1)
    generalize w.iter T 0 = w0 at *
    simp only [hbk]
    clear hbk hcat hm hne
    go_loopw [4, 5] (fun v4 v5 wr => ∃ (p f : Nat) (acc : List Int), v5 = .int .i64 f ∧ OwnU wr (bk + 1) v4 acc ∧ wr.heap[bk]? = some (.stringIter T p) ∧ Below w.heap.size w wr ∧ f ≤ s.size + 1 ∧ f ≤ p ∧ Hid (RlI s p f acc)) (fun _ _ wr => s.size + 1 - wr.iterPos bk)
    case atStart => exact ⟨0, 0, [], rfl, OwnU.nil _ _, HI.out, HBI.out, by omega, by omega, Lib.hid (rli_zero s)⟩
    case round =>
      clear HI HBI HSZ
      obtain ⟨p, f, acc, rfl, ho, hI, hb, hf, hfp, HR⟩ := hrel
      obtain ⟨Av, cv, rfl⟩ := ho.slice
      by_cases hp : p < s.size + 1
      · have hps : p < T.size := by rw [HTS.out]; exact hp
        by_cases hc : bt T p < 128
        · have hnx : ∀ ty, (Instr.next (.pointer (some ⟨bk, 0, none⟩)) true ty).run Tryd.prog wr = .ok (.tuple #[.bool true, .int .i64 p, .int .i32 (bt T p : Int)]) (wr.iterAt bk T (p + 1)) := fun ty => by
            have := Lib.run_next_ascii_at (P := Tryd.prog) wr bk T p ty hI hps (by rw [bt_at hps]; exact hc)
            rw [bt_at hps] at this
            exact this
          have H2 := Lib.hid (Lib.iterAt_heap wr bk T p (p + 1) hI)
          have hbi := below_iterAt hb (k := bk) (by rw [HBK.out]; exact Nat.le_refl _) T (p + 1)
          have H3 := Lib.hid hbi
          have H4 := Lib.hid hI
          have H5 : Hid (OwnU (wr.iterAt bk T (p + 1)) (bk + 1) (.slice Av acc.length cv) acc) := Lib.hid (own_iterAt ho (Nat.lt_succ_self _) T (p + 1))
          by_cases h44 : bt T p = 44
          · rw [h44] at hnx
            have hpp : p ≤ s.size := by omega
            have hsl : ∀ w, (Instr.slice 9 (.string s) (some (.int .i64 (f : Int))) (some (.int .i64 (p : Int))) none).run Tryd.prog w = .ok (.string (s.extract f p)) w := fun w => by
              rw [run_slice_string_if w _ _ _ _ _ _ Tryd.underlying9, if_pos ⟨by omega, by omega⟩, if_pos ⟨by omega, by omega⟩, Int.toNat_natCast, Int.toNat_natCast]
            have hr := readnum_any (s.extract f p) (wr.iterAt bk T (p + 1)) (HT.out.below hbi)
            have hxb := rnx_bd (s.extract f p) (s.extract f p).size 0 0 (by omega) (by omega)
            have hal := HR.out.2.2.2
            unfold rnv at hr
            by_cases hd : su (Lib.decDigits (rnx (s.extract f p) (s.extract f p).size 0 0).toNat) = s.extract f p
            · rw [if_pos hd] at hr
              have HN := Lib.hid (rli_more HR.out hfp hp (by rw [HTT.out]; exact h44) hxb hd)
              clear hd ho hI hb hbi h44
              generalize rnx (s.extract f p) (s.extract f p).size 0 0 = x at *
              generalize s.extract f p = pc at *
              go_wp2_with fail
              with_reducible refine hr.mono ?_
              rintro e w2 ⟨rfl, hb3⟩
              have hbd := H3.out.trans (hb3.mono H3.out.size)
              have hA := below_one w2 (.cells #[.int .u64 x] 33)
              have hbA := hbd.trans (hA.mono hbd.size)
              have hrwA := rw_newv w2 [.int .u64 x] 33
              have hlt2 := (Array.getElem?_eq_some_iff.1 H2.out).1
              have hI2 : w2.heap[bk]? = some (.stringIter T (p + 1)) := (hb3.block bk hlt2).trans H2.out
              have hoA := own_below (own_below H5.out hb3) hA
              have hB9 : bk + 1 ≤ (w2.alloc (.cells #[.int .u64 x] 33)).heap.size := by have := (Array.getElem?_eq_some_iff.1 hI2).1; simp; omega
              have H6 : Hid ((w2.alloc (.cells #[.int .u64 x] 33)).heap[bk]? = some (.stringIter T (p + 1))) := Lib.hid ((hA.block bk (Array.getElem?_eq_some_iff.1 hI2).1).trans hI2)
              have HLEN : Hid (acc.length + 1 ≤ 1000000) := Lib.hid (by omega)
              have hge := own_ge hoA
              have HBA := Lib.hid hbA
              clear hr hnx hb3 hbd hA hbA hsl hI2 hlt2
              go_wp2_with (at_builtin; go_must (refine list_append_rw kindV rfl (.tmp 31) (.tmp 33) rfl (bk + 1) _ _ _ rfl hoA _ 1 _ [.int .u64 x] rfl rfl hrwA (by simp) (by simp [Value.oneCell']) HLEN.out (by omega) hB9 ?_; intro v' w10 ho' hg' hgr'; have H7 : Hid (w10.heap[bk]? = some (.stringIter T (p + 1))) := Lib.hid ((hg'.block bk (Array.getElem?_eq_some_iff.1 H6.out).1 (fun e => by have := hge bk e.symm; omega)).trans H6.out); have H8 : Hid (Below w.heap.size w w10) := Lib.hid (HBA.out.grown hg' (by have := hB9; rw [HBK.out]; omega) (fun k hk => by have := hge k hk; rw [HBK.out]; omega)); have H9 : Hid (OwnU w10 (bk + 1) v' (acc ++ [x])) := Lib.hid (by unfold OwnU; rw [List.length_append, uv, List.map_append]; exact ho'); clear ho' hg' hgr' hrwA hoA hB9 hge))
              go_roundw
              case rel => exact ⟨p + 1, p + 1, acc ++ [x], by go_num, H9.out, H7.out, H8.out, by omega, by omega, HN⟩
              case measure => simp [World.iterPos, H7.out, H4.out]; omega
            · rw [if_neg hd] at hr
              have HN := Lib.hid (rli_none HR.out hfp hp (by rw [HTT.out]; exact h44) H1.out hd)
              clear hd ho hI hb hbi h44 hxb
              generalize s.extract f p = pc at *
              go_wp2_with fail
              with_reducible refine hr.mono ?_
              rintro e w2 ⟨rfl, hb3⟩
              have H8 := Lib.hid (H3.out.trans (hb3.mono H3.out.size))
              clear hr hnx hb3 hsl
              go_wp2
              go_ret2
              exact ⟨.slice none 0 0, [], false, rfl, OwnU.nil _ _, H8.out, fun x hx => absurd hx (by simp), fun h => absurd h (by decide), fun _ => ⟨rfl, HN.out⟩⟩
          · have hnr : ((bt T p : Int) != 44) = true := by simp; omega
            have HN := Lib.hid (rli_skip (q := p + 1) HR.out (fun i i1 i2 => by obtain rfl : i = p := by omega
                                                                                rw [HTT.out]; exact h44))
            clear ho hI hb hbi h44
            generalize bt T p = c at *
            go_wp2
            go_roundw
            case rel => exact ⟨p + 1, f, acc, rfl, H5.out, H2.out, H3.out, hf, by omega, HN⟩
            case measure => simp [World.iterPos, H2.out, H4.out]; omega
        · have hdh := decode_high T p hps (by rw [bt_at hps]; omega)
          have hnx : ∀ ty, (Instr.next (.pointer (some ⟨bk, 0, none⟩)) true ty).run Tryd.prog wr = .ok (.tuple #[.bool true, .int .i64 p, .int .i32 (Utf8.decode T p).1]) (wr.iterAt bk T (p + (Utf8.decode T p).2)) := fun ty => Lib.run_next_any_at wr bk T p ty hI hps
          have H2 := Lib.hid (Lib.iterAt_heap wr bk T p (p + (Utf8.decode T p).2) hI)
          have H3 := Lib.hid (below_iterAt hb (k := bk) (by rw [HBK.out]; exact Nat.le_refl _) T (p + (Utf8.decode T p).2))
          have H4 := Lib.hid hI
          have H5 : Hid (OwnU (wr.iterAt bk T (p + (Utf8.decode T p).2)) (bk + 1) (.slice Av acc.length cv) acc) := Lib.hid (own_iterAt ho (Nat.lt_succ_self _) T _)
          have HN := Lib.hid (rli_skip (q := p + (Utf8.decode T p).2) HR.out (fun i i1 i2 => by
            obtain ⟨k, rfl⟩ : ∃ k, i = p + k := ⟨i - p, by omega⟩
            have := decode_span T p k hps (by omega) (by omega)
            rw [HTT.out]
            omega))
          have hnr : (((Utf8.decode T p).1 : Int) != 44) = true := by simp; omega
          have hw1 := hdh.2
          clear ho hI hb hc hdh
          generalize (Utf8.decode T p).1 = rc at *
          generalize (Utf8.decode T p).2 = wd at *
          go_wp2
          go_roundw
          case rel => exact ⟨p + wd, f, acc, rfl, H5.out, H2.out, H3.out, hf, by omega, HN⟩
          case measure => simp [World.iterPos, H2.out, H4.out]; omega
      · have hnx : ∀ ty, (Instr.next (.pointer (some ⟨bk, 0, none⟩)) true ty).run Tryd.prog wr = _ := fun ty => Lib.run_next_end_at wr bk T p ty hI (by rw [HTS.out]; exact hp)
        have HL := Lib.hid (rli_end HR.out hf (by omega))
        have HO : Hid (OwnU wr w.heap.size (.slice Av acc.length cv) acc) := Lib.hid (own_base ho (fun g hg => by have := own_ge ho g hg; rw [HBK.out]; omega))
        have HB := Lib.hid hb
        clear ho hI hb hp
        go_wp2
        go_ret2
        exact ⟨_, acc, true, rfl, HO.out, HB.out, HR.out.1, fun _ => HL.out, fun h => by cases h⟩
end Go.Proofs.YtogfjejodoefeaaDoor.Cur
