/- Blobs (package blob): Put, Size; the document's Bytes. -/
import Derived.Test.YtkedmhopajpkhaaPuts
namespace Go.Proofs.Ytkedmhopajpkhaa.Cur
open Go.RowKit Mem
set_option linter.unusedVariables false

set_option maxHeartbeats 400000 in
theorem bput_any {w : World} {B b : Nat} {r : Option Nat} {z y : List Int} {M c : Int} (A : Option Addr) (m cap : Nat) (h : Wr w B b r z M c) (hy : Bs w A m y) (hA : A = none → cap = 0) (hoff : 0 < m → ∀ a, A = some a → ¬ WS b r a.block)
    (hsz : z.length + m ≤ 800000) (hBw : B ≤ w.heap.size) :
    Calls Try.prog 9 #[.pointer (some ⟨b, 0, none⟩), .slice A m cap] w (WPutsPost B b r z [vz m, y] M c w) := by
  have hlt : 0 < m → ∀ a, A = some a → a.block < w.heap.size := fun h0 => hy.lt h0
  have hle := putZ_le z (vz m) M c
  rw [vz_length] at hle
  have hv := vsz_le (m : Int)
  have HLE : Hid ((putZ z (vz m) M c).length + m ≤ 1000000) := Lib.hid (by omega)
  have HOFF := Lib.hid hoff
  have HLT := Lib.hid hlt
  clear hle hv hoff hlt
  have hm0 : (0 : Int) ≤ m := by omega
  have hm1 : (m : Int) < 18446744073709551616 := by omega
  go_enter Try.func9, Try.ntmps9
  go_wp2_with fail
  refine (vput_any _ h hm0 hm1 (by omega) hBw).mono ?_
  rintro e w1 ⟨r1, rfl, hk1, hg1, hw1⟩
  have hy1 := hy.ks hk1 (fun h0 a ha => HOFF.out h0 a ha)
  go_wp2_with fail
  refine (wput_any _ _ _ hw1 hy1 hA (off_gr HLT.out HOFF.out hg1) HLE.out (Nat.le_trans hBw hk1.size)).mono ?_
  rintro e w2 ⟨r2, rfl, hk2, hg2, hw2⟩
  go_wp2
  go_end0
  exact ⟨r2, rfl, Ks.wr hk1 hg1 hk2, hg1.trans hg2 hk1.size, hw2⟩

set_option maxHeartbeats 400000 in
theorem bsize_any (n : Int) (w : World) (h1 : n ≤ 4611686018427387904) :
    Calls Try.prog 15 #[.int .i64 n] w fun e w' => e = .returned (.int .i64 ((vsz (max n 0) : Int) + max n 0)) ∧ w = w' := by
  have hv := vsz_le (max n 0)
  have h0 : 0 ≤ max n 0 := by omega
  have h2 : max n 0 ≤ 4611686018427387904 := by omega
  go_enter Try.func15, Try.ntmps15
  go_wp2_with fail
  refine (vsize_any _ _ h0 (by omega)).mono ?_
  rintro e w1 ⟨rfl, rfl⟩
  go_wp2
  go_ret
  exact ⟨rfl, rfl⟩

set_option maxRecDepth 100000 in
set_option maxHeartbeats 800000 in
theorem rbbytes_any (A : Option Addr) (n m : Nat) (z : List Int) (w : World) (hz : Bs w A n z) (hA : A = none → m = 0) (hn : n ≤ 900000) :
    Calls Try.prog 13 #[.slice A n m] w (RowPost (vz n ++ z) w) := by
  have hn0 : (0 : Int) ≤ n := by omega
  have hn1 : (n : Int) < 18446744073709551616 := by omega
  have HZ := Lib.hid hz.1
  have HL := Lib.hid (vz_length (n : Int))
  have hv := vsz_le (n : Int)
  go_enter Try.func13, Try.ntmps13
  go_wp2_with fail
  refine (rbytes_any 10 _ _ (vsz_le _) hn0 hn1).mono ?_
  rintro e w1 ⟨A1, m1, rfl, hb1, _, _, _, ho1⟩
  have hz1 := hz.below hb1
  have hB := hb1.size
  clear hn0 hn1
  go_wp2_with (at_builtin; go_must (refine list_append_gr rfl (.tmp 6) (.tmp 7) rfl w.heap.size _ _ rfl ho1 _ _ _ _ rfl hz1 hA (by rw [HL.out]; omega) hB ?_; intro v' w2 ho' hg hgr; have hb2 := Own.belowOf hb1 hB ho1 hg; obtain ⟨A2, cap2, hv⟩ := ho'.slice; rw [List.length_append] at hv; subst hv))
  go_ret
  exact Own.rowPost (B := 0) ho' hb2

/-- The rows by which a list is written; its bytes. -/
def litems (l : List Int) : List (List Int) := vz l.length :: l.map vz
def lz (l : List Int) : List Int := (litems l).flatten
def lzk (l : List Int) : Nat → List Int
  | 0 => vz l.length
  | k + 1 => lzk l k ++ vz (l.getD k 0)
theorem lzk_eq (l : List Int) : ∀ k, k ≤ l.length → lzk l k = vz l.length ++ ((l.take k).map vz).flatten
  | 0, _ => by simp [lzk]
  | k + 1, h => by
    rw [lzk, lzk_eq l k (by omega), List.take_succ_eq_append_getElem (by omega : k < l.length), List.map_append, List.flatten_append, List.append_assoc]
    congr 1
    simp [List.getD_eq_getElem?_getD, List.getElem?_eq_getElem (by omega : k < l.length)]
theorem lz_eq (l : List Int) : lz l = lzk l l.length := by
  rw [lzk_eq l _ (Nat.le_refl _), List.take_length]; rfl
theorem lzk_len (l : List Int) (k : Nat) : (lzk l k).length ≤ 10 * k + 10 := by
  induction k with
  | zero => rw [lzk, vz_length]; have := vsz_le (l.length : Int); omega
  | succ k ih => rw [lzk, List.length_append, vz_length]; have := vsz_le (l.getD k 0); omega
theorem litems_take (l : List Int) (k : Nat) (h : k < l.length) : vz l.length :: (l.take (k + 1)).map vz = (vz l.length :: (l.take k).map vz) ++ [vz (l.getD k 0)] := by
  rw [List.take_succ_eq_append_getElem h, List.map_append, List.cons_append]
  simp [List.getD_eq_getElem?_getD, List.getElem?_eq_getElem h]
theorem flatten_le (l : List Int) : ∀ k, k ≤ l.length → (vz l.length :: (l.take k).map vz).flatten.length ≤ 10 * k + 10 := by
  intro k hk
  have := lzk_len l k
  rw [lzk_eq l k hk] at this
  exact this

set_option maxRecDepth 100000 in
set_option maxHeartbeats 1000000 in
theorem bputlist_any {w : World} {B b : Nat} {r : Option Nat} {y : List Int} {M c : Int} (A : Option Addr) (n m : Nat) (l : List Int) (h : Wr w B b r y M c) (hz : Us w A n l) (hA : 0 < n → ∀ a, A = some a → ¬ WS b r a.block) (hn : n ≤ 10000) (hby : ∀ x ∈ l, 0 ≤ x ∧ x < 18446744073709551616)
    (hy : y.length ≤ 700000) (hBw : B ≤ w.heap.size) :
    Calls Try.prog 10 #[.pointer (some ⟨b, 0, none⟩), .slice A n m] w (WPutsPost B b r y (litems l) M c w) := by
  have HB := Lib.hid hby
  have HL := Lib.hid hz.1
  have HLT : Hid (0 < n → ∀ a, A = some a → a.block < w.heap.size) := Lib.hid fun h0 => hz.2.lt (by rw [List.length_map, hz.1]; exact h0)
  have HA := Lib.hid hA
  clear hby hA
  have hn0 : (0 : Int) ≤ n := by omega
  have hn1 : (n : Int) < 18446744073709551616 := by omega
  go_enter Try.func10, Try.ntmps10
  go_wp2_with fail
  refine (vput_any _ h hn0 hn1 (by omega) hBw).mono ?_
  rintro e w1 ⟨r1, rfl, hk1, hg1, hw1⟩
  have hz1 := hz.ks hk1 HA.out
  clear hn0 hn1 h hz
  go_wp2
  go_loopw [13] (fun i wr => ∃ (k : Nat) (r' : Option Nat), k ≤ n ∧ i = .int .i64 k ∧ Ks (WS b r) w wr ∧ Gr r r' w ∧ Wr wr B b r' (puts (vz l.length :: (l.take k).map vz) y M c).1 M (puts (vz l.length :: (l.take k).map vz) y M c).2 ∧ Us wr A n l) (fun i _ => n - (intOf i).toNat)
  case atStart => exact ⟨0, r1, by omega, rfl, hk1, hg1, by rw [HL.out]; exact hw1, hz1⟩
  case round =>
    obtain ⟨k, r', hk, rfl, hks, hgr, hw, hus⟩ := hrel
    by_cases hlt : k < n
    · have hx := HB.out _ (getD_mem (z := l) (k := k) (by rw [HL.out]; exact hlt))
      have hle := puts_le (vz l.length :: (l.take k).map vz) y M c
      have hle2 := flatten_le l k (by rw [HL.out]; omega)
      have HN := Lib.hid (litems_take l k (by rw [HL.out]; exact hlt))
      have HSN := Lib.hid (puts_snoc (vz l.length :: (l.take k).map vz) (vz (l.getD k 0)) y M c)
      have HLE : Hid ((puts (vz l.length :: (l.take k).map vz) y M c).1.length ≤ 900000) := Lib.hid (by omega)
      clear hle hle2
      obtain ⟨g, o, rfl, hc⟩ := hus.at_ hlt
      generalize l.getD k 0 = x at *
      go_wp2_with fail
      refine (vput_any _ hw hx.1 hx.2 HLE.out (by have := hks.size; omega)).mono ?_
      rintro e w3 ⟨r2, rfl, hk3, hg3, hw3⟩
      have hus3 := hus.ks hk3 (off_gr HLT.out HA.out hgr)
      have hks3 := Ks.wr hks hgr hk3
      have hgr3 : Gr r r2 w := hgr.trans hg3 hks.size
      have hw4 : Wr w3 B b r2 (puts (vz l.length :: (l.take (k + 1)).map vz) y M c).1 M (puts (vz l.length :: (l.take (k + 1)).map vz) y M c).2 := by rw [HN.out, HSN.out]; exact hw3
      clear hks hk3 hw hus hg3 hgr hw3
      go_wp2
      go_roundw
      case rel => exact ⟨k + 1, r2, hlt, by go_num, hks3, hgr3, hw4, hus3⟩
      case measure => simp [intOf]; omega
    · obtain rfl : k = n := by omega
      have hrz : vz l.length :: (l.take k).map vz = litems l := by unfold litems; rw [← HL.out, List.take_length]
      rw [hrz] at hw
      go_wp2
      go_end0
      exact ⟨r', rfl, hks, hgr, hw⟩

set_option maxHeartbeats 1000000 in
theorem blistsize_any (A : Option Addr) (n m : Nat) (l : List Int) (w : World) (hz : Us w A n l) (hn : n ≤ 10000) (hby : ∀ x ∈ l, 0 ≤ x ∧ x < 18446744073709551616) :
    Calls Try.prog 16 #[.slice A n m] w (BPost (.int .i64 ((lz l).length : Int)) w) := by
  unfold BPost
  have HB := Lib.hid hby
  have HL := Lib.hid hz.1
  clear hby
  have hn0 : (0 : Int) ≤ n := by omega
  have hn1 : (n : Int) < 18446744073709551616 := by omega
  go_enter Try.func16, Try.ntmps16
  go_wp2_with fail
  refine (vsize_any _ _ hn0 hn1).mono ?_
  rintro e w1 ⟨rfl, rfl⟩
  clear hn0 hn1
  go_wp2
  go_loopw [3, 12] (fun s i wr => ∃ k : Nat, k ≤ n ∧ i = .int .i64 k ∧ s = .int .i64 (lzk l k).length ∧ Below w.heap.size w wr) (fun _ i _ => n - (intOf i).toNat)
  case atStart => exact ⟨0, by omega, rfl, by rw [lzk, vz_length, HL.out], Below.refl _ _⟩
  case round =>
    obtain ⟨k, hk, rfl, rfl, hb⟩ := hrel
    by_cases hlt : k < n
    · have hx := HB.out _ (getD_mem (z := l) (k := k) (by rw [HL.out]; exact hlt))
      have hl := lzk_len l k
      have HS : Hid ((lzk l (k + 1)).length = (lzk l k).length + vsz (l.getD k 0)) := Lib.hid (by rw [lzk, List.length_append, vz_length])
      have hv := vsz_le (l.getD k 0)
      obtain ⟨g, o, rfl, hc⟩ := (hz.below hb).at_ hlt
      generalize l.getD k 0 = x at *
      go_wp2_with fail
      refine (vsize_any _ _ hx.1 hx.2).mono ?_
      rintro e w2 ⟨rfl, rfl⟩
      go_wp2
      go_roundw
      case rel => exact ⟨k + 1, hlt, by go_num, by rw [HS.out]; push_cast; rfl, hb⟩
      case measure => simp [intOf]; omega
    · obtain rfl : k = n := by omega
      go_wp2
      go_ret
      exact ⟨by rw [lz_eq, HL.out]; rfl, hb⟩

set_option maxRecDepth 100000 in
set_option maxHeartbeats 1000000 in
theorem rlist_any (A : Option Addr) (n m : Nat) (l : List Int) (w : World) (hz : Us w A n l) (hn : n ≤ 10000) (hby : ∀ x ∈ l, 0 ≤ x ∧ x < 18446744073709551616) :
    Calls Try.prog 14 #[.slice A n m] w (RowPost (lz l) w) := by
  have HB := Lib.hid hby
  have HL := Lib.hid hz.1
  have HU := Lib.hid hz
  clear hby hz
  have hn0 : (0 : Int) ≤ n := by omega
  have hn1 : (n : Int) < 18446744073709551616 := by omega
  go_enter Try.func14, Try.ntmps14
  go_wp2_with fail
  refine (rbytes_any 10 _ _ (vsz_le _) hn0 hn1).mono ?_
  rintro e w1 ⟨A1, m1, rfl, hb1, _, _, _, ho1⟩
  clear hn0 hn1
  go_wp2
  go_loopw [3, 4] (fun v i wr => ∃ k : Nat, k ≤ n ∧ i = .int .i64 k ∧ Own wr w.heap.size v (lzk l k) ∧ Below w.heap.size w wr) (fun _ i _ => n - (intOf i).toNat)
  case atStart => exact ⟨0, by omega, rfl, by rw [lzk, HL.out]; exact ho1, hb1⟩
  case round =>
    obtain ⟨k, hk, rfl, ho, hb⟩ := hrel
    by_cases hlt : k < n
    · have hx := HB.out _ (getD_mem (z := l) (k := k) (by rw [HL.out]; exact hlt))
      have hl := lzk_len l k
      have HLN : Hid ((lzk l k).length ≤ 200000) := Lib.hid (by omega)
      have HS : Hid (lzk l (k + 1) = lzk l k ++ vz (l.getD k 0)) := Lib.hid rfl
      have HV := Lib.hid (vz_length (l.getD k 0))
      have hv := vsz_le (l.getD k 0)
      obtain ⟨g, o, rfl, hc⟩ := (HU.out.below hb).at_ hlt
      generalize l.getD k 0 = x at *
      go_wp2_with fail
      refine (rbytes_any 10 _ _ (vsz_le _) hx.1 hx.2).mono ?_
      rintro e w2 ⟨A2, m2, rfl, hb2, hbs, hnil, _⟩
      have ho2 := ho.below hb2
      have hb3 := hb.trans (hb2.mono hb.size)
      have hB3 := hb3.size
      clear hx ho hb2 hb
      go_wp2_with (at_builtin; go_must (refine list_append_gr rfl (.tmp 15) (.tmp 20) rfl w.heap.size _ _ rfl ho2 _ _ _ _ rfl hbs hnil (by rw [HV.out]; have := HLN.out; omega) hB3 ?_; intro v' w4 ho' hg' hgr; have hb4 := Own.belowOf hb3 hB3 ho2 hg'))
      go_roundw
      case rel => exact ⟨k + 1, hlt, by go_num, by rw [HS.out]; exact ho', hb4⟩
      case measure => simp [intOf]; omega
    · obtain rfl : k = n := by omega
      obtain ⟨A3, c3, rfl⟩ := ho.slice
      have hlz : lzk l k = lz l := by rw [lz_eq, HL.out]
      rw [hlz] at ho ⊢
      go_wp2
      go_ret
      exact Own.rowPost (B := 0) ho hb
end Go.Proofs.Ytkedmhopajpkhaa.Cur
