/- Words of bytes read: Unhex, whatever the text. -/
import Derived.Test.YtogfjejodoefeaaDoorWrdH
import Derived.Laws.BitsAllLaws
namespace Go.Proofs.YtogfjejodoefeaaDoor.Cur
open Go.RowKit Mem
set_option linter.unusedVariables false
set_option maxRecDepth 100000

/-- The place of a sign among the sixteen; -1: it is none. -/
def dg (c : Nat) : Int := Lib.indexByte DIG.data.toList c.toUInt8
theorem dg_tab : ∀ c : Fin 128, dg c.val = -1 ∨ (0 ≤ dg c.val ∧ dg c.val < 16 ∧ sgn (dg c.val).toNat = (c.val : Int)) := by decide +kernel
theorem dg_sgn : ∀ d : Fin 16, dg (sgn d.val).toNat = (d.val : Int) := by decide +kernel
theorem dg_bd {c : Nat} (h : c < 128) : dg c = -1 ∨ (0 ≤ dg c ∧ dg c < 16 ∧ sgn (dg c).toNat = (c : Int)) := dg_tab ⟨c, h⟩
theorem iascii_any (c : Nat) (w : World) (h : c < 128) : Calls Tryd.prog 29 #[.string DIG, .int .i32 (c : Int)] w fun e w' => e = .returned (.int .i64 (dg c)) ∧ w' = w :=
  Tryd.strings_IndexRune_ascii DIG c w (by omega) (by omega)

/-- The byte at a place of a text. -/
def bt (s : ByteArray) (i : Nat) : Nat := (s.data.getD i 0).toNat
theorem bt_at {s : ByteArray} {i : Nat} (h : i < s.size) : (s[i]'h).toNat = bt s i := by
  unfold bt
  have h' : i < s.data.size := h
  rw [Array.getD_eq_getD_getElem?, Array.getElem?_eq_getElem h']
  rfl
/-- Are the first p bytes signs? -/
def good (s : ByteArray) (p : Nat) : Prop := ∀ i, i < p → bt s i < 128 ∧ 0 ≤ dg (bt s i)
instance (s : ByteArray) (p : Nat) : Decidable (good s p) := by unfold good; exact inferInstance
def hcell (s : ByteArray) (p k : Nat) : Int := if 2 * k + 2 ≤ p then 16 * dg (bt s (2 * k)) + dg (bt s (2 * k + 1)) else if 2 * k + 1 = p then dg (bt s (2 * k)) else 0
/-- The row behind the first p signs. -/
def hrow (s : ByteArray) (p : Nat) : List Int := (List.range (s.size / 2)).map (hcell s p)
theorem hrow_len (s : ByteArray) (p : Nat) : (hrow s p).length = s.size / 2 := by simp [hrow]
theorem hrow_at (s : ByteArray) (p k : Nat) (h : k < s.size / 2) : (hrow s p)[k]? = some (hcell s p k) := by simp [hrow, h]
theorem hrow_set (s : ByteArray) (p q : Nat) (hq : p / 2 = q) (x : Int) (hx : hcell s (p + 1) q = x) : (hrow s p).set q x = hrow s (p + 1) := by
  apply List.ext_getElem?
  intro i
  rw [List.getElem?_set]
  by_cases hi : i < s.size / 2
  · rw [hrow_at s (p + 1) i hi, hrow_len]
    by_cases e : q = i
    · subst e; rw [if_pos rfl, if_pos hi, hx]
    · rw [if_neg e, hrow_at s p i hi]
      unfold hcell
      split
      · rw [if_pos (by omega)]
      · split
        · omega
        · rw [if_neg (by omega), if_neg (by omega)]
  · have h1 : (hrow s (p + 1))[i]? = none := List.getElem?_eq_none (by rw [hrow_len]; omega)
    have h2 : (hrow s p)[i]? = none := List.getElem?_eq_none (by rw [hrow_len]; omega)
    rw [h1, hrow_len]
    split
    · rw [if_neg (by omega)]
    · exact h2
/-- What Unhex answers. -/
def uhx (s : ByteArray) : List Int × Bool := if s = ⟨#[45]⟩ then ([], true) else if s.size = 0 ∨ s.size % 2 = 1 ∨ ¬ good s s.size then ([], false) else (hrow s s.size, true)

def UhPost (s : ByteArray) (w : World) (e : Ending) (w' : World) : Prop := ∃ v, e = .returned (.tuple #[v, .bool (uhx s).2]) ∧ Own w' w.heap.size v (uhx s).1 ∧ Below w.heap.size w w'

theorem made_zero (n : Nat) : ((List.replicate n (0 : Int)).map (Value.int .u8)).toArray = madeCells #[.int .u8 0] n := by
  unfold madeCells
  apply Array.ext
  · simp
  · intro i h1 h2
    simp [Nat.mod_one]
theorem text_nel {a : ByteArray} {l : List UInt8} (h : ¬ a = ⟨l.toArray⟩) : (a.toList == l) = false := by
  rw [beq_eq_false_iff_ne]
  intro e
  rw [ByteArray.toList_eq] at e
  exact h (ByteArray.ext (by rw [← e]))
theorem hrow_zero (s : ByteArray) : ((hrow s 0).map (Value.int .u8)).toArray = madeCells #[.int .u8 0] (s.size / 2) := by
  have : hrow s 0 = List.replicate (s.size / 2) 0 := by
    apply List.ext_getElem?
    intro i
    by_cases hi : i < s.size / 2
    · rw [hrow_at s 0 i hi, List.getElem?_replicate, if_pos hi]
      unfold hcell
      rw [if_neg (by omega), if_neg (by omega)]
    · rw [List.getElem?_eq_none (by rw [hrow_len]; omega), List.getElem?_replicate, if_neg hi]
  rw [this]
  exact made_zero _
theorem or16 : ∀ x d : Fin 16, bits .or .u8 ((x.val : Int) * 16) (d.val : Int) = 16 * (x.val : Int) + (d.val : Int) := by decide +kernel
theorem blk_iterAt {w : World} {b k : Nat} {cs : Array Value} {t : Nat} (h : Blk w b cs t) (hk : k ≠ b) (s : ByteArray) (p : Nat) : Blk (Go.World.iterAt w k s p) b cs t := by
  show (w.heap.setIfInBounds k _)[b]? = _
  rw [Array.getElem?_setIfInBounds_ne hk]
  exact h
set_option maxHeartbeats 4000000 in
theorem unhex_any (s : ByteArray) (hs : s.size ≤ 100000) (w : World) : Calls Tryd.prog 22 #[.string s] w (UhPost s w) := by
  by_cases h1 : s = ⟨#[45]⟩
  · have HE : Hid (uhx s = ([], true)) := Lib.hid (by unfold uhx; rw [if_pos h1])
    subst h1
    go_enter Tryd.func22, Tryd.ntmps22
    go_wp2
    go_ret2
    exact ⟨.slice none 0 0, by rw [HE.out]; rfl, by rw [HE.out]; exact Own.nil _ _, Below.refl _ _⟩
  · have hne := text_nel (l := [45]) h1
    by_cases h2 : s.size = 0 ∨ s.size % 2 = 1
    · have HE : Hid (uhx s = ([], false)) := Lib.hid (by unfold uhx; rw [if_neg h1, if_pos (by rcases h2 with h | h; exact .inl h; exact .inr (.inl h))])
      have HV := Lib.hid (fun (w' : World) => (⟨.slice none 0 0, by rw [HE.out], by rw [HE.out]; exact Own.nil _ _, Below.refl _ _⟩ : UhPost s w' (.returned (.tuple #[.slice none 0 0, .bool false])) w'))
      by_cases h0 : s.size = 0
      · have e0 : s = ⟨#[]⟩ := by
          apply ByteArray.ext
          exact Array.eq_empty_of_size_eq_zero h0
        subst e0
        go_enter Tryd.func22, Tryd.ntmps22
        go_wp2
        go_ret2
        exact HV.out _
      · have hne2 := text_nel (a := s) (l := []) (fun e => h0 (by rw [e]; rfl))
        have hrem : (s.size : Int) % 2 = 1 := by omega
        clear h1 h2
        go_enter Tryd.func22, Tryd.ntmps22
        go_wp2
        go_ret2
        exact HV.out _
    · have HE : Hid (uhx s = if good s s.size then (hrow s s.size, true) else ([], false)) := Lib.hid (by
        unfold uhx
        rw [if_neg h1]
        by_cases hg : good s s.size
        · rw [if_neg (fun h => by rcases h with h | h | h; exact h2 (.inl h); exact h2 (.inr h); exact h hg), if_pos hg]
        · rw [if_pos (.inr (.inr hg)), if_neg hg])
      have hz0 : 0 < s.size := by omega
      have hne2 := text_nel (a := s) (l := []) (fun e => by rw [e] at hz0; exact absurd hz0 (by decide))
      have hrem : (s.size : Int) % 2 = 0 := by omega
      obtain ⟨n, hn⟩ : ∃ n, s.size = 2 * n := ⟨s.size / 2, by omega⟩
      have hq : (s.size : Int) / 2 = (n : Int) := by omega
      have HN := Lib.hid hn
      obtain ⟨i0, hi, hz0', hz1, hz2⟩ := info_parts (P := Tryd.prog) (e := 5) (z := .int .u8 0) (size := 1) (bytes := 1) (by kernel_rfl)
      have hmk := fun w => run_make (P := Tryd.prog) w 34 5 i0 (.int .u8 0) Tryd.underlying34 hi hz0' .i64 .i64 (n : Int) (n : Int) (by omega) (by omega) (by rw [hz2]; omega) (by omega)
      clear h1 h2
      go_enter Tryd.func22, Tryd.ntmps22
      have hB0 := Blk.new w (madeCells #[.int .u8 0] n) 5
      have b0 := below_one w (.cells (madeCells #[.int .u8 0] n) 5)
      have hrz : madeCells #[.int .u8 0] n = ((hrow s 0).map (Value.int .u8)).toArray := by rw [hrow_zero, hn, Nat.mul_div_cancel_left _ (by omega)]
      rw [hrz] at hB0 b0
      have hB1 := hB0.alloc (.stringIter s 0)
      have b1 := b0.alloc b0.size (.stringIter s 0)
      have hI : ((w.alloc (.cells ((hrow s 0).map (Value.int .u8)).toArray 5)).alloc (.stringIter s 0)).heap[w.heap.size + 1]? = some (.stringIter s 0) := by
        have := heap_alloc_new (w.alloc (.cells ((hrow s 0).map (Value.int .u8)).toArray 5)) (.stringIter s 0)
        rwa [show (w.alloc (.cells ((hrow s 0).map (Value.int .u8)).toArray 5)).heap.size = w.heap.size + 1 by simp] at this
      have HS := Lib.hid (And.intro hB1 (And.intro b1 hI))
      clear hB0 b0 hB1 b1 hI
      go_wp2_with fail
      obtain ⟨g, hg⟩ : ∃ g, w.heap.size = g := ⟨_, rfl⟩
      have HG := Lib.hid hg
      have HS2 : Hid (Blk ((w.alloc (.cells ((hrow s 0).map (Value.int .u8)).toArray 5)).iter s 0) g ((hrow s 0).map (Value.int .u8)).toArray 5 ∧ Below w.heap.size w ((w.alloc (.cells ((hrow s 0).map (Value.int .u8)).toArray 5)).iter s 0) ∧ ((w.alloc (.cells ((hrow s 0).map (Value.int .u8)).toArray 5)).iter s 0).heap[g + 1]? = some (.stringIter s 0)) := Lib.hid (by rw [← hg]; exact HS.out)
      simp only [hg]
      generalize (w.alloc (.cells ((hrow s 0).map (Value.int .u8)).toArray 5)).iter s 0 = w0 at *
      clear hg HS hmk hrz hne hne2 hrem hq
      go_loopw [5] (fun v5 wr => ∃ p : Nat, p ≤ 2 * n ∧ wr.heap[g + 1]? = some (.stringIter s p) ∧ Blk wr g ((hrow s p).map (Value.int .u8)).toArray 5 ∧ Below w.heap.size w wr ∧ Hid (good s p)) (fun _ wr => 2 * n - wr.iterPos (g + 1))
      case atStart => exact ⟨0, by omega, HS2.out.2.2, HS2.out.1, HS2.out.2.1, Lib.hid (fun i hi => absurd hi (by omega))⟩
      case round =>
        clear HS2
        obtain ⟨p, hp2, hI, hB, hb, HGD⟩ := hrel
        by_cases hp : p < 2 * n
        · have hps : p < s.size := by have := HN.out; omega
          by_cases hc : bt s p < 128
          · have hnx : ∀ ty, (Instr.next (.pointer (some ⟨g + 1, 0, none⟩)) true ty).run Tryd.prog wr = .ok (.tuple #[.bool true, .int .i64 p, .int .i32 (bt s p : Int)]) (wr.iterAt (g + 1) s (p + 1)) := fun ty => by
              have := Lib.run_next_ascii_at (P := Tryd.prog) wr (g + 1) s p ty hI hps (by rw [bt_at hps]; exact hc)
              rw [bt_at hps] at this
              exact this
            have H1 := Lib.hid (Lib.iterAt_heap wr (g + 1) s p (p + 1) hI)
            have H2 := Lib.hid (below_iterAt hb (k := g + 1) (by rw [HG.out]; omega) s (p + 1))
            have H3 := Lib.hid hI
            have H4 : Hid (Blk (wr.iterAt (g + 1) s (p + 1)) g ((hrow s p).map (Value.int .u8)).toArray 5) := Lib.hid (blk_iterAt hB (by omega) s (p + 1))
            have hdg := dg_bd hc
            have HD := Lib.hid hc
            clear hI hb hB hc
            go_wp2_with fail
            refine (iascii_any (bt s p) _ HD.out).mono ?_
            rintro e _ ⟨rfl, rfl⟩
            rcases hdg with hm | ⟨d0, d1, d2⟩
            · have HU : Hid (uhx s = ([], false)) := Lib.hid (by rw [HE.out, if_neg (fun hg => by have := (hg p hps).2; omega)])
              rw [hm]
              go_wp2
              go_ret2
              exact ⟨.slice none 0 0, by rw [HU.out]; rfl, by rw [HU.out]; exact Own.nil _ _, H2.out⟩
            · have HGN : Hid (good s (p + 1)) := Lib.hid (fun i hi => by
                by_cases e : i = p
                · subst e; exact ⟨HD.out, d0⟩
                · exact HGD.out i (by omega))
              obtain ⟨q, hq⟩ : ∃ q, p / 2 = q := ⟨_, rfl⟩
              obtain ⟨x, hx, hn', x0, x1⟩ : ∃ x, hcell s p q = x ∧ hcell s (p + 1) q = 16 * x + dg (bt s p) ∧ 0 ≤ x ∧ x < 16 := by
                by_cases hpar : p = 2 * q
                · refine ⟨0, ?_, ?_, by omega, by omega⟩
                  · unfold hcell; rw [if_neg (by omega), if_neg (by omega)]
                  · unfold hcell; rw [if_neg (by omega), if_pos (by omega), hpar]; omega
                · have hpo : p = 2 * q + 1 := by omega
                  have hg0 := HGD.out (2 * q) (by omega)
                  have hb0 := dg_bd hg0.1
                  refine ⟨dg (bt s (2 * q)), ?_, ?_, hg0.2, by omega⟩
                  · unfold hcell; rw [if_neg (by omega), if_pos (by omega)]
                  · unfold hcell; rw [if_pos (by omega), hpo]
              have hqn : q < n := by omega
              have hqi : (p : Int) / 2 = (q : Int) := by omega
              have hsn : s.size / 2 = n := by have := HN.out; omega
              have hcl := H4.out.cell q (v := .int .u8 x) (by simp [hrow_at s p q (by omega), hx])
              have hfz := H4.out.free q
              have hset := H4.out.set q (.int .u8 (16 * x + dg (bt s p)))
              have hse : (((hrow s p).map (Value.int .u8)).toArray).setIfInBounds q (.int .u8 (16 * x + dg (bt s p))) = ((hrow s (p + 1)).map (Value.int .u8)).toArray := by
                rw [← hrow_set s p q hq _ hn']
                simp [List.map_set]
              rw [hse] at hset
              have H5 := Lib.hid hset
              have H6 := Lib.hid ((H2.out).setCell (p := ⟨g, q, none⟩) (by show w.heap.size ≤ g; rw [HG.out]; exact Nat.le_refl _) (.int .u8 (16 * x + dg (bt s p))))
              have H7 : Hid (((wr.iterAt (g + 1) s (p + 1)).setCell ⟨g, q, none⟩ (.int .u8 (16 * x + dg (bt s p)))).heap[g + 1]? = some (.stringIter s (p + 1))) := Lib.hid ((Below.heap_setCell _ ⟨g, q, none⟩ _ (g + 1) (by show g + 1 ≠ g; omega)).trans H1.out)
              clear hset hse hx hn' hq hsn d2
              generalize dg (bt s p) = d at *
              obtain ⟨d, rfl⟩ := Int.eq_ofNat_of_zero_le d0
              obtain ⟨x, rfl⟩ := Int.eq_ofNat_of_zero_le x0
              have hor : bits .or .u8 ((x : Int) * 16) (d : Int) = 16 * (x : Int) + (d : Int) := or16 ⟨x, by omega⟩ ⟨d, by omega⟩
              have e1 : IntKind.u8.wrap ((x : Int) * 16) = (x : Int) * 16 := IntWalk.u8_in _ (by omega)
              have e2 : IntKind.u8.wrap (d : Int) = (d : Int) := IntWalk.u8_in _ (by omega)
              go_wp2
              refine ⟨⟨p + 1, by omega, H7.out, H5.out, H6.out, HGN⟩, ?_⟩
              simp [World.iterPos, H7.out, H3.out]
              omega
          · have hdh := decode_high s p hps (by rw [bt_at hps]; omega)
            have hdl := decode_le s p
            have hnx : ∀ ty, (Instr.next (.pointer (some ⟨g + 1, 0, none⟩)) true ty).run Tryd.prog wr = .ok (.tuple #[.bool true, .int .i64 p, .int .i32 (Utf8.decode s p).1]) (wr.iterAt (g + 1) s (p + (Utf8.decode s p).2)) := fun ty => Lib.run_next_any_at wr (g + 1) s p ty hI hps
            have H2 := Lib.hid (below_iterAt hb (k := g + 1) (by rw [HG.out]; omega) s (p + (Utf8.decode s p).2))
            have HU : Hid (uhx s = ([], false)) := Lib.hid (by rw [HE.out, if_neg (fun hg => by have := (hg p hps).1; omega)])
            have hix := idx_hi (Utf8.decode s p).1 (by omega) (by omega) (wr.iterAt (g + 1) s (p + (Utf8.decode s p).2))
            clear hI hb hB hc hdh hdl
            generalize (Utf8.decode s p).1 = rc at *
            generalize (Utf8.decode s p).2 = wd at *
            go_wp2_with fail
            refine hix.mono ?_
            rintro e w3 ⟨rfl, hb3⟩
            have H3 := Lib.hid (H2.out.trans (hb3.mono H2.out.size))
            clear hb3 hix
            go_wp2
            go_ret2
            exact ⟨.slice none 0 0, by rw [HU.out]; rfl, by rw [HU.out]; exact Own.nil _ _, H3.out⟩
        · have hpe : p = s.size := by have := HN.out; omega
          have hnx : ∀ ty, (Instr.next (.pointer (some ⟨g + 1, 0, none⟩)) true ty).run Tryd.prog wr = _ := fun ty => Lib.run_next_end_at wr (g + 1) s p ty hI (by omega)
          have HU : Hid (uhx s = (hrow s s.size, true)) := Lib.hid (by rw [HE.out, if_pos (by rw [← hpe]; exact HGD.out)])
          have HO : Hid (Own wr w.heap.size (.slice (some ⟨g, 0, none⟩) n n) (hrow s s.size)) := Lib.hid (by
            have := own_of_row (B := w.heap.size) hB (by rw [HG.out]; exact Nat.le_refl _) (by rw [hrow_len]; omega)
            rw [hrow_len, show s.size / 2 = n by have := HN.out; omega, hpe] at this
            exact this)
          have HB := Lib.hid hb
          clear hI hb hB hp
          go_wp2
          go_ret2
          exact ⟨_, by rw [HU.out]; rfl, by rw [HU.out]; exact HO.out, HB.out⟩
end Go.Proofs.YtogfjejodoefeaaDoor.Cur
