/- Falling lists: Put, Size; the document's bytes. -/
import Derived.Test.YtjcoabgcacaceaaDltB
namespace Go.Proofs.Ytjcoabgcacaceaa.Cur
open Go.RowKit Mem
set_option linter.unusedVariables false

theorem own_parted {w : World} {B B' e e' size size' n m : Nat} {v u : Value} {xs ys : List Value} (h : w.ownsRow B e size v n xs) (k : w.ownsRow B' e' size' u m ys) (he : e ≠ e') : ∀ g, v.ownBlock = some g → u.ownBlock ≠ some g := by
  intro g hg hu
  rcases h.2 with ⟨rfl, _⟩ | ⟨g1, cap, cur, rfl, _, hh, _⟩
  · simp [Value.ownBlock] at hg
  · rcases k.2 with ⟨rfl, _⟩ | ⟨g2, cap2, cur2, rfl, _, hh2, _⟩
    · simp [Value.ownBlock] at hu
    · obtain rfl : g1 = g := by simpa [Value.ownBlock] using hg
      obtain rfl : g2 = g1 := by simpa [Value.ownBlock] using hu
      rw [hh] at hh2
      injection hh2 with hh2
      injection hh2 with _ hh2
      exact he hh2
theorem own_addr {w : World} {B e size n m c : Nat} {A : Option Addr} {xs : List Value} (h : w.ownsRow B e size (.slice A m c) n xs) : ∀ a, A = some a → B ≤ a.block := by
  intro a ha
  subst ha
  rcases h.2 with ⟨e, _⟩ | ⟨g, cap, cur, e, hg, _⟩
  · injection e with e; cases e
  · injection e with e; injection e with e; subst e; exact hg

set_option maxRecDepth 100000 in
set_option maxHeartbeats 2000000 in
theorem dput_yes {w : World} {B b : Nat} {r : Option Nat} {y : List Int} {M c : Int} (A : Option Addr) (n m : Nat) (bb : Int) (z : List Int) (h : Wr w B b r y M c) (hz : Us w A n z) (hn : n ≤ 10000) (hby : ∀ x ∈ z, 0 ≤ x ∧ x < 18446744073709551616) (b0 : 0 ≤ bb) (b1 : bb < 18446744073709551616) (hf : flb bb z = true)
    (hy : y.length ≤ 700000) (hBw : B ≤ w.heap.size) :
    Calls Try.prog 15 #[.pointer (some ⟨b, 0, none⟩), .int .u64 bb, .slice A n m] w (WPutsPost B b r y (litems (dif bb z)) M c w) := by
  have HST := steps_any A n m bb z w hz (by omega) hby b0 b1
  rw [hf, difo_yes hf] at HST
  have HB := Lib.hid (dif_bd z bb hf b1 (fun x hx => (hby x hx).1))
  have HL : Hid ((dif bb z).length = n) := Lib.hid (by rw [dif_len, hz.1])
  have hn0 : (0 : Int) ≤ n := by omega
  have hn1 : (n : Int) < 18446744073709551616 := by omega
  clear hby hz hf b0 b1
  generalize dif bb z = l at *
  go_enter Try.func15, Try.ntmps15
  go_wp2_with fail
  refine HST.mono ?_
  rintro e w1 ⟨v, rfl, ho1, hb1⟩
  obtain ⟨A1, c1, hv⟩ := ho1.slice
  rw [HL.out] at hv
  subst hv
  have HGE := Lib.hid (own_addr ho1)
  have hu1 := (OwnU.us ho1).2.2.2
  have HOFF : Hid (0 < n → ∀ a, A1 = some a → ¬ WS b r a.block) := Lib.hid (fun _ a ha => h.off (HGE.out a ha))
  have HLT : Hid (0 < n → ∀ a, A1 = some a → a.block < w1.heap.size) := Lib.hid (fun h0 => hu1.2.lt (by rw [List.length_map, HL.out]; exact h0))
  have h1 := h.below hb1
  have hk1 : Ks (WS b r) w w1 := Ks.of_below hb1
  have hBw1 : B ≤ w1.heap.size := Nat.le_trans hBw hb1.size
  clear HST ho1 h
  go_wp2_with fail
  refine (vput_any _ h1 hn0 hn1 (by omega) hBw1).mono ?_
  rintro e w2 ⟨r1, rfl, hk2, hg2, hw2⟩
  have hz2 := hu1.ks hk2 HOFF.out
  have HS1 := Lib.hid hb1.size
  have HK1 := Lib.hid hk1
  clear hn0 hn1 h1 hu1 hk1 hb1
  go_wp2
  go_loopw [26] (fun i wr => ∃ (k : Nat) (r' : Option Nat), k ≤ n ∧ i = .int .i64 k ∧ Ks (WS b r) w1 wr ∧ Gr r r' w1 ∧ Wr wr B b r' (puts (vz l.length :: (l.take k).map vz) y M c).1 M (puts (vz l.length :: (l.take k).map vz) y M c).2 ∧ Us wr A1 n l) (fun i _ => n - (intOf i).toNat)
  case atStart => exact ⟨0, r1, by omega, rfl, hk2, hg2, by rw [HL.out]; exact hw2, hz2⟩
  case round =>
    obtain ⟨k, r', hk, rfl, hks, hgr, hw, hus⟩ := hrel
    by_cases hlt : k < n
    · have hx := HB.out _ (getD_mem (z := l) (k := k) (by rw [HL.out]; exact hlt))
      have hle := puts_le (vz l.length :: (l.take k).map vz) y M c
      have hle2 := flatten_le l k (by rw [HL.out]; omega)
      have HN := Lib.hid (litems_take l k (by rw [HL.out]; exact hlt))
      have HSN := Lib.hid (puts_snoc (vz l.length :: (l.take k).map vz) (vz (l.getD k 0)) y M c)
      have HLE : Hid ((puts (vz l.length :: (l.take k).map vz) y M c).1.length ≤ 900000) := Lib.hid (by omega)
      clear hle hle2
      obtain ⟨g, o, rfl, hc⟩ := hus.at_ hlt
      generalize l.getD k 0 = x at *
      go_wp2_with fail
      refine (vput_any _ hw hx.1 hx.2 HLE.out (by have := hks.size; omega)).mono ?_
      rintro e w3 ⟨r2, rfl, hk3, hg3, hw3⟩
      have hus3 := hus.ks hk3 (off_gr HLT.out HOFF.out hgr)
      have hks3 := Ks.wr hks hgr hk3
      have hgr3 : Gr r r2 w1 := hgr.trans hg3 hks.size
      have hw4 : Wr w3 B b r2 (puts (vz l.length :: (l.take (k + 1)).map vz) y M c).1 M (puts (vz l.length :: (l.take (k + 1)).map vz) y M c).2 := by rw [HN.out, HSN.out]; exact hw3
      clear hks hk3 hw hus hg3 hgr hw3
      go_wp2
      go_roundw
      case rel => exact ⟨k + 1, r2, hlt, by go_num, hks3, hgr3, hw4, hus3⟩
      case measure => simp [intOf]; omega
    · obtain rfl : k = n := by omega
      have hrz : vz l.length :: (l.take k).map vz = litems l := by unfold litems; rw [← HL.out, List.take_length]
      rw [hrz] at hw
      go_wp2
      go_end0
      exact ⟨r', rfl, HK1.out.trans hks, (Gr.refl r w).trans hgr HS1.out, hw⟩

set_option maxHeartbeats 400000 in
theorem dput_no {w : World} {B b : Nat} {r : Option Nat} {y : List Int} {M c : Int} (A : Option Addr) (n m : Nat) (bb : Int) (z : List Int) (h : Wr w B b r y M c) (hz : Us w A n z) (hn : n ≤ 10000) (hby : ∀ x ∈ z, 0 ≤ x ∧ x < 18446744073709551616) (b0 : 0 ≤ bb) (b1 : bb < 18446744073709551616) (hf : flb bb z = false) :
    Calls Try.prog 15 #[.pointer (some ⟨b, 0, none⟩), .int .u64 bb, .slice A n m] w (WFailPost B b r y M c 3 w) := by
  have HST := steps_any A n m bb z w hz (by omega) hby b0 b1
  rw [hf] at HST
  clear hf
  go_enter Try.func15, Try.ntmps15
  go_wp2_with fail
  refine HST.mono ?_
  rintro e w1 ⟨v, rfl, _, hb1⟩
  have h1 := h.below hb1
  go_wp2_with fail
  refine (wfail_any 3 h1).mono ?_
  rintro e w2 ⟨rfl, hk, hw⟩
  go_wp2
  go_end0
  exact ⟨rfl, (Ks.of_below hb1).trans hk, hw⟩

/-- In how many bytes a list is written, or 0. -/
def dsz (b : Int) (l : List Int) : Int := if flb b l = true then ((lz (dif b l)).length : Int) else 0
set_option maxHeartbeats 2000000 in
theorem dsize_any (A : Option Addr) (n m : Nat) (bb : Int) (z : List Int) (w : World) (hz : Us w A n z) (hn : n ≤ 10000) (hby : ∀ x ∈ z, 0 ≤ x ∧ x < 18446744073709551616) (b0 : 0 ≤ bb) (b1 : bb < 18446744073709551616) :
    Calls Try.prog 17 #[.int .u64 bb, .slice A n m] w (BPost (.int .i64 (dsz bb z)) w) := by
  unfold BPost
  have HST := steps_any A n m bb z w hz (by omega) hby b0 b1
  cases hf : flb bb z with
  | false =>
    rw [hf] at HST
    have e0 : dsz bb z = 0 := if_neg (by simp [hf])
    rw [e0]
    clear hf e0
    go_enter Try.func17, Try.ntmps17
    go_wp2_with fail
    refine HST.mono ?_
    rintro e w1 ⟨v, rfl, _, hb1⟩
    go_wp2
    go_ret
    exact ⟨rfl, hb1⟩
  | true =>
    rw [hf, difo_yes hf] at HST
    have e0 : dsz bb z = ((lz (dif bb z)).length : Int) := if_pos hf
    rw [e0]
    have HB := Lib.hid (dif_bd z bb hf b1 (fun x hx => (hby x hx).1))
    have HL : Hid ((dif bb z).length = n) := Lib.hid (by rw [dif_len, hz.1])
    have hn0 : (0 : Int) ≤ n := by omega
    have hn1 : (n : Int) < 18446744073709551616 := by omega
    clear hby hz hf e0 b0 b1
    generalize dif bb z = l at *
    go_enter Try.func17, Try.ntmps17
    go_wp2_with fail
    refine HST.mono ?_
    rintro e w1 ⟨v, rfl, ho1, hb1⟩
    obtain ⟨A1, c1, hv⟩ := ho1.slice
    rw [HL.out] at hv
    subst hv
    have hu1 := (OwnU.us ho1).2.2.2
    have HS1 := hb1.size
    clear HST ho1
    go_wp2_with fail
    refine (vsize_any _ _ hn0 hn1).mono ?_
    rintro e w2 ⟨rfl, rfl⟩
    clear hn0 hn1
    go_wp2
    go_loopw [7, 23] (fun s i wr => ∃ k : Nat, k ≤ n ∧ i = .int .i64 k ∧ s = .int .i64 (lzk l k).length ∧ Below w1.heap.size w1 wr) (fun _ i _ => n - (intOf i).toNat)
    case atStart => exact ⟨0, by omega, rfl, by rw [lzk, vz_length, HL.out], Below.refl _ _⟩
    case round =>
      obtain ⟨k, hk, rfl, rfl, hb⟩ := hrel
      by_cases hlt : k < n
      · have hx := HB.out _ (getD_mem (z := l) (k := k) (by rw [HL.out]; exact hlt))
        have hl := lzk_len l k
        have HS : Hid ((lzk l (k + 1)).length = (lzk l k).length + vsz (l.getD k 0)) := Lib.hid (by rw [lzk, List.length_append, vz_length])
        have hv := vsz_le (l.getD k 0)
        obtain ⟨g, o, rfl, hc⟩ := (hu1.below hb).at_ hlt
        generalize l.getD k 0 = x at *
        go_wp2_with fail
        refine (vsize_any _ _ hx.1 hx.2).mono ?_
        rintro e w2 ⟨rfl, rfl⟩
        go_wp2
        go_roundw
        case rel => exact ⟨k + 1, hlt, by go_num, by rw [HS.out]; push_cast; rfl, hb⟩
        case measure => simp [intOf]; omega
      · obtain rfl : k = n := by omega
        go_wp2
        go_ret
        exact ⟨by rw [lz_eq, HL.out]; rfl, hb1.trans (hb.mono hb1.size)⟩

set_option maxRecDepth 100000 in
set_option maxHeartbeats 2000000 in
theorem rdbytes_any (A : Option Addr) (n m : Nat) (bb : Int) (z : List Int) (w : World) (hz : Us w A n z) (hn : n ≤ 10000) (hby : ∀ x ∈ z, 0 ≤ x ∧ x < 18446744073709551616) (b0 : 0 ≤ bb) (b1 : bb < 18446744073709551616) (hf : flb bb z = true) :
    Calls Try.prog 21 #[.int .u64 bb, .slice A n m] w (RowPost (lz (dif bb z)) w) := by
  have HST := fun w' (h : Below w.heap.size w w') => rdsteps_any A n m bb z w' (hz.below h) (by omega) hby b0 b1 hf
  have HB := Lib.hid (dif_bd z bb hf b1 (fun x hx => (hby x hx).1))
  have HL : Hid ((dif bb z).length = n) := Lib.hid (by rw [dif_len, hz.1])
  have hn0 : (0 : Int) ≤ n := by omega
  have hn1 : (n : Int) < 18446744073709551616 := by omega
  clear hby hz hf b0 b1
  generalize dif bb z = l at *
  go_enter Try.func21, Try.ntmps21
  go_wp2_with fail
  refine (rbytes_any 10 _ _ (vsz_le _) hn0 hn1).mono ?_
  rintro e w1 ⟨A1, m1, rfl, hb1, _, _, _, ho1⟩
  clear hn0 hn1
  go_wp2_with fail
  refine (HST w1 hb1).mono ?_
  rintro e w2 ⟨v2, rfl, ho2, hb2⟩
  obtain ⟨A2, c2, hv⟩ := ho2.slice
  rw [HL.out] at hv
  subst hv
  have ho1' := ho1.below hb2
  have ho2' : OwnU w2 w.heap.size _ l := own_base ho2 (fun g hg => Nat.le_trans hb1.size (own_ge ho2 g hg))
  have hb0 := hb1.trans (hb2.mono hb1.size)
  clear HST ho1 ho2 hb1 hb2
  go_wp2
  go_loopw [5, 7] (fun v i wr => ∃ k : Nat, k ≤ n ∧ i = .int .i64 k ∧ Own wr w.heap.size v (lzk l k) ∧ OwnU wr w.heap.size (.slice A2 n c2) l ∧ Below w.heap.size w wr) (fun _ i _ => n - (intOf i).toNat)
  case atStart => exact ⟨0, by omega, rfl, by rw [lzk, HL.out]; exact ho1', ho2', hb0⟩
  case round =>
    clear ho1' ho2' hb0
    obtain ⟨k, hk, rfl, ho, hu, hb⟩ := hrel
    by_cases hlt : k < n
    · have hx := HB.out _ (getD_mem (z := l) (k := k) (by rw [HL.out]; exact hlt))
      have hl := lzk_len l k
      have HLN : Hid ((lzk l k).length ≤ 200000) := Lib.hid (by omega)
      have HS : Hid (lzk l (k + 1) = lzk l k ++ vz (l.getD k 0)) := Lib.hid rfl
      have HV := Lib.hid (vz_length (l.getD k 0))
      have hv := vsz_le (l.getD k 0)
      obtain ⟨g, o, hA2, hc⟩ := ((OwnU.us hu).2.2.2).at_ (k := k) hlt
      subst hA2
      generalize l.getD k 0 = x at *
      go_wp2_with fail
      refine (rbytes_any 10 _ _ (vsz_le _) hx.1 hx.2).mono ?_
      rintro e w3 ⟨A3, m3, rfl, hb3, hbs, hnil, _⟩
      have ho3 := ho.below hb3
      have hu3 : OwnU w3 w.heap.size _ l := own_below hu hb3
      have hb4 := hb.trans (hb3.mono hb.size)
      have hB4 := hb4.size
      have hap := own_parted ho3 hu3 (by decide)
      clear hx ho hb3 hb hu
      go_wp2_with (at_builtin; go_must (refine list_append_gr rfl (.tmp 21) (.tmp 26) rfl w.heap.size _ _ rfl ho3 _ _ _ _ rfl hbs hnil (by rw [HV.out]; have := HLN.out; omega) hB4 ?_; intro v' w5 ho' hg' hgr; have hb5 := Own.belowOf hb4 hB4 ho3 hg'; have hu5 : OwnU w5 w.heap.size _ l := own_block hu3 (fun i hi => hg'.block i (World.ownsRow.lt hu3 i hi).2 (fun e => hap i e.symm hi))))
      go_roundw
      case rel => exact ⟨k + 1, hlt, by go_num, by rw [HS.out]; exact ho', hu5, hb5⟩
      case measure => simp [intOf]; omega
    · obtain rfl : k = n := by omega
      obtain ⟨A3, c3, rfl⟩ := ho.slice
      have hlz : lzk l k = lz l := by rw [lz_eq, HL.out]
      rw [hlz] at ho ⊢
      go_wp2
      go_ret
      exact Own.rowPost (B := 0) ho hb
end Go.Proofs.Ytjcoabgcacaceaa.Cur
