/- As the seat's text, without what nothing here names. -/
import Derived.Test.YtlealkfkddhnnaaGreatK16v
import Derived.Test.YtlealkfkddhnnaaGreatK6v
import Derived.Test.YtlealkfkddhnnaaGreatK12v
import Derived.Test.YtlealkfkddhnnaaGreatK1v
import Derived.Test.YtlealkfkddhnnaaGreatK17v
namespace Go.Proofs.YtlealkfkddhnnaaGreat.Cur
open Go.RowKit Go.Shelf Mem
attribute [local go_sem] Oper.semAt_some
set_option linter.unusedVariables false
set_option maxRecDepth 100000
def pk (z : List Int) : Bool := decide (vsz (cps z).length + (cps z).length < z.length)
def bkb (z : List Int) : List Int := vz z.length ++ (if pk z then 1 :: (vz (cps z).length ++ cps z) else 0 :: z)
def bki (z : List Int) : List (List Int) := if pk z then [vz z.length, [1], vz (cps z).length, cps z] else [vz z.length, [0], z]
theorem bki_flat (z : List Int) : (bki z).flatten = bkb z := by
  unfold bki bkb
  split <;> simp
theorem bkb_len (z : List Int) : (bkb z).length ≤ z.length + 11 := by
  have := vsz_le (z.length : Int)
  unfold bkb
  split
  · rename_i h
    unfold pk at h
    rw [decide_eq_true_eq] at h
    simp [vz_length]
    omega
  · simp [vz_length]
    omega
theorem Wr.fresh {w : World} {B b : Nat} {r : Option Nat} {z : List Int} {M c : Int} (h : Wr w B b r z M c) {g : Nat} (hg : w.heap.size ≤ g) : ¬ WS b r g := by
  obtain ⟨v, rfl, hb, ho, _⟩ := h
  rintro (e | e)
  · have := hb.lt; omega
  · have := ho.lt _ e; omega
theorem gr_mono {r r' : Option Nat} {w w' : World} (h : Gr r r' w') (hs : w.heap.size ≤ w'.heap.size) : Gr r r' w := by
  rcases h with e | ⟨g, e, h⟩
  · exact .inl e
  · exact .inr ⟨g, e, Nat.le_trans hs h⟩
def BWrPost (z : List Int) (w : World) (e : Ending) (w' : World) : Prop :=
  ∃ A n m, e = .returned (.tuple #[.int .u8 (if pk z then 1 else 0), .slice A n m, .int .i64 0]) ∧ Below w.heap.size w w' ∧ Bs w' A n (cps z) ∧ n ≤ m ∧ (A = none → m = 0) ∧ (0 < n → ∀ a, A = some a → w.heap.size ≤ a.block)
set_option maxHeartbeats 2000000 in
theorem bwritten_any {w : World} {A : Option Addr} {n m : Nat} {z : List Int} (hz : Bs w A n z) (hby : ∀ x ∈ z, 0 ≤ x ∧ x < 256) (hm : n ≤ m) (hn : n ≤ 10000) : Calls Tryz.prog 70 #[.slice A n m] w (BWrPost z w) := by
  have hP := pbytes_any (m := m) hz hby hm hn
  have hcl := cps_len (z := z) (by rw [hz.1]; omega) hby
  rw [hz.1] at hcl
  have HK : Hid (pk z = decide (vsz (cps z).length + (cps z).length < n)) := Lib.hid (by unfold pk; rw [hz.1])
  unfold BWrPost
  obtain ⟨k, hk⟩ : ∃ k, k = pk z := ⟨_, rfl⟩
  rw [← hk] at HK ⊢
  have HKK := Lib.hid hk
  clear hz hby hk
  go_enter Tryz.func70, Tryz.ntmps70
  go_wp2_with fail
  with_reducible refine hP.mono ?_
  rintro e w1 ⟨A1, n1, m1, rfl, hb1, hbs, hm1, hA1, hge⟩
  have hl : (cps z).length = n1 := hbs.1
  rw [hl] at HK hcl
  have hbz := bsize_any (n1 : Int) w1 (by omega)
  rw [show max (n1 : Int) 0 = n1 by omega] at hbz
  have HB := Lib.hid hb1
  have HS := Lib.hid hbs
  have HGE := Lib.hid hge
  have hv := vsz_le (n1 : Int)
  clear hP hl hb1 hbs hge
  obtain ⟨v, hv'⟩ : ∃ v, v = vsz (n1 : Int) := ⟨_, rfl⟩
  rw [← hv'] at hv hbz HK
  clear hv'
  have HD : Hid (decide ((v : Int) + (n1 : Int) < (n : Int)) = k) := Lib.hid (by
    rw [HK.out]
    by_cases h : v + n1 < n
    · rw [decide_eq_true h, decide_eq_true (by omega)]
    · rw [decide_eq_false h, decide_eq_false (by omega)])
  go_wp2_with fail
  with_reducible refine hbz.mono ?_
  rintro e w2 ⟨rfl, rfl⟩
  clear hbz
  cases k
  · have hnl : ¬ (v : Int) + (n1 : Int) < (n : Int) := fun h => by have := HD.out; rw [decide_eq_true h] at this; cases this
    clear HD HK
    go_wp2
    go_ret3
    exact ⟨A1, n1, m1, rfl, HB.out, HS.out, hm1, hA1, HGE.out⟩
  · have hnl : (v : Int) + (n1 : Int) < (n : Int) := of_decide_eq_true HD.out
    clear HD HK
    go_wp2
    go_ret3
    exact ⟨A1, n1, m1, rfl, HB.out, HS.out, hm1, hA1, HGE.out⟩
set_option maxHeartbeats 2000000 in
theorem kput_any {w : World} {B b : Nat} {r : Option Nat} {z y : List Int} {M c : Int} (A : Option Addr) (n m : Nat) (h : Wr w B b r y M c) (hz : Bs w A n z) (hA : A = none → m = 0) (hoff : 0 < n → ∀ a, A = some a → ¬ WS b r a.block)
    (hby : ∀ x ∈ z, 0 ≤ x ∧ x < 256) (hm : n ≤ m) (hn : n ≤ 10000) (hsz : y.length ≤ 100000) (hBw : B ≤ w.heap.size) :
    Calls Tryz.prog 36 #[.pointer (some ⟨b, 0, none⟩), .slice A n m] w (WPutsPost B b r y (bki z) M c w) := by
  have hW := bwritten_any (m := m) hz hby hm hn
  unfold BWrPost at hW
  have hzl := hz.1
  have hcl := cps_len (z := z) (by rw [hz.1]; omega) hby
  have hlt : 0 < n → ∀ a, A = some a → a.block < w.heap.size := fun h0 => hz.lt h0
  have HZ := Lib.hid hz
  have HOFF := Lib.hid hoff
  have HLT := Lib.hid hlt
  have HKI : Hid (bki z = if pk z then [vz (n : Int), [1], vz (cps z).length, cps z] else [vz (n : Int), [0], z]) := Lib.hid (by unfold bki; rw [hzl])
  rw [hzl] at hcl
  clear hz hby hoff hlt hzl
  go_enter Tryz.func36, Tryz.ntmps36
  go_wp2_with fail
  with_reducible refine hW.mono ?_
  rintro e w1 ⟨A1, n1, m1, rfl, hb1, hbs, hm1, hA1, hge⟩
  have hc1 : (cps z).length = n1 := hbs.1
  rw [hc1] at hcl HKI
  have h1 := h.below hb1
  have HS := Lib.hid hbs
  have HGE := Lib.hid hge
  have HB := Lib.hid hb1
  have hle := putZ_le y (vz n) M c
  rw [vz_length] at hle
  have hv := vsz_le (n : Int)
  have HLE : Hid ((putZ y (vz n) M c).length ≤ 100010) := Lib.hid (by omega)
  clear hW hbs hge hc1 hle hv
  have hn0 : (0 : Int) ≤ n := by omega
  have hoff1 : 0 < n1 → ∀ a, A1 = some a → ¬ WS b r a.block := fun h0 a ha => h.fresh (HGE.out h0 a ha)
  have hlt1 : 0 < n1 → ∀ a, A1 = some a → a.block < w1.heap.size := fun h0 a ha => HS.out.lt h0 a ha
  have HOFF1 := Lib.hid hoff1
  have HLT1 := Lib.hid hlt1
  have HB0 := Lib.hid (Nat.le_trans hBw hb1.size)
  have HB1 := Lib.hid hb1
  clear hoff1 hlt1 hb1 h
  cases hk : pk z
  · rw [hk, if_neg (by decide)] at HKI
    rw [if_neg (by decide)]
    clear hk
    go_wp2_with fail
    with_reducible refine (vput_any (n : Int) h1 hn0 (by omega) (by omega) HB0.out).mono ?_
    rintro e w2 ⟨r2, rfl, hk2, hg2, hw2⟩
    have hbA := below_one w2 (.cells #[.int .u8 0] 5)
    have hwA := hw2.below hbA
    have hsA : Bs (w2.alloc (.cells #[.int .u8 0] 5)) (some ⟨w2.heap.size, 0, none⟩) 1 [0] := bs_new w2 [0] 5
    have hfr := hw2.fresh (Nat.le_refl _)
    have HLE2 : Hid ((putZ (putZ y (vz n) M c) [0] M (putC y (vz n) M c)).length ≤ 100011) := Lib.hid (by have h1 := putZ_le (putZ y (vz n) M c) [0] M (putC y (vz n) M c); have h2 := HLE.out; rw [List.length_singleton] at h1; omega)
    have HBA := Lib.hid (Nat.le_trans HB0.out (Nat.le_trans hk2.size hbA.size))
    go_wp2_with fail
    with_reducible refine (wput_any (some ⟨w2.heap.size, 0, none⟩) 1 1 hwA hsA (by simp) (fun _ a ha => by injection ha with ha; subst ha; exact hfr) (by have := HLE.out; omega) HBA.out).mono ?_
    rintro e w4 ⟨r4, rfl, hk4, hg4, hw4⟩
    have hk3 := Ks.wr hk2 hg2 ((Ks.of_below hbA).trans hk4)
    have HG14 := Lib.hid (hg2.trans (gr_mono hg4 hbA.size) hk2.size)
    have HOFF3 := Lib.hid (off_gr (fun h0 a ha => Nat.lt_of_lt_of_le (HLT.out h0 a ha) HB1.out.size) HOFF.out hg2)
    have HOFF4 := Lib.hid (off_gr (fun h0 a ha => Nat.lt_of_lt_of_le (HLT.out h0 a ha) HB1.out.size) HOFF.out HG14.out)
    have HOFF6 := Lib.hid (off_gr HLT1.out HOFF1.out hg2)
    have HOFF5 := Lib.hid (off_gr HLT1.out HOFF1.out HG14.out)
    have HB4 := Lib.hid (Nat.le_trans HB0.out hk3.size)
    have HK := Lib.hid ((Ks.of_below (S := WS b r) HB1.out).trans hk3)
    have HG := Lib.hid (gr_mono HG14.out HB1.out.size)
    have HGR := Lib.hid (fun j (hj : j < w.heap.size) (hs : WS b r4 j) => (show WS b r j from by
      rcases hs with e | e
      · exact .inl e
      · rcases HG.out with e2 | ⟨g, e2, h2⟩
        · exact .inr (by rw [← e2]; exact e)
        · rw [e2] at e; injection e with e; omega))
    clear hfr hsA hwA hw2 hg2 hg4
    have hz3 := (((HZ.out.below HB1.out).ks hk2 (fun h0 a ha => HOFF.out h0 a ha)).below hbA).ks hk4 (fun h0 a ha => HOFF3.out h0 a ha)
    clear hk3 hk4 hbA
    go_wp2_with fail
    with_reducible refine (wput_any A n m hw4 hz3 hA HOFF4.out (by have := HLE2.out; omega) HB4.out).mono ?_
    rintro e w5 ⟨r5, rfl, hk5, hg5, hw5⟩
    go_wp2
    go_end0
    refine ⟨r5, rfl, HK.out.trans' hk5 (fun j hj hs => HGR.out j hj hs), HG.out.trans hg5 HK.out.size, ?_⟩
    rw [HKI.out]
    exact hw5
  · rw [hk, if_pos rfl] at HKI
    rw [if_pos rfl]
    clear hk
    go_wp2_with fail
    with_reducible refine (vput_any (n : Int) h1 hn0 (by omega) (by omega) HB0.out).mono ?_
    rintro e w2 ⟨r2, rfl, hk2, hg2, hw2⟩
    have hbA := below_one w2 (.cells #[.int .u8 1] 5)
    have hwA := hw2.below hbA
    have hsA : Bs (w2.alloc (.cells #[.int .u8 1] 5)) (some ⟨w2.heap.size, 0, none⟩) 1 [1] := bs_new w2 [1] 5
    have hfr := hw2.fresh (Nat.le_refl _)
    have HLE2 : Hid ((putZ (putZ y (vz n) M c) [1] M (putC y (vz n) M c)).length ≤ 100011) := Lib.hid (by have h1 := putZ_le (putZ y (vz n) M c) [1] M (putC y (vz n) M c); have h2 := HLE.out; rw [List.length_singleton] at h1; omega)
    have HBA := Lib.hid (Nat.le_trans HB0.out (Nat.le_trans hk2.size hbA.size))
    go_wp2_with fail
    with_reducible refine (wput_any (some ⟨w2.heap.size, 0, none⟩) 1 1 hwA hsA (by simp) (fun _ a ha => by injection ha with ha; subst ha; exact hfr) (by have := HLE.out; omega) HBA.out).mono ?_
    rintro e w4 ⟨r4, rfl, hk4, hg4, hw4⟩
    have hk3 := Ks.wr hk2 hg2 ((Ks.of_below hbA).trans hk4)
    have HG14 := Lib.hid (hg2.trans (gr_mono hg4 hbA.size) hk2.size)
    have HOFF3 := Lib.hid (off_gr (fun h0 a ha => Nat.lt_of_lt_of_le (HLT.out h0 a ha) HB1.out.size) HOFF.out hg2)
    have HOFF4 := Lib.hid (off_gr (fun h0 a ha => Nat.lt_of_lt_of_le (HLT.out h0 a ha) HB1.out.size) HOFF.out HG14.out)
    have HOFF6 := Lib.hid (off_gr HLT1.out HOFF1.out hg2)
    have HOFF5 := Lib.hid (off_gr HLT1.out HOFF1.out HG14.out)
    have HB4 := Lib.hid (Nat.le_trans HB0.out hk3.size)
    have HK := Lib.hid ((Ks.of_below (S := WS b r) HB1.out).trans hk3)
    have HG := Lib.hid (gr_mono HG14.out HB1.out.size)
    have HGR := Lib.hid (fun j (hj : j < w.heap.size) (hs : WS b r4 j) => (show WS b r j from by
      rcases hs with e | e
      · exact .inl e
      · rcases HG.out with e2 | ⟨g, e2, h2⟩
        · exact .inr (by rw [← e2]; exact e)
        · rw [e2] at e; injection e with e; omega))
    clear hfr hsA hwA hw2 hg2 hg4
    have hz3 := ((HS.out.ks hk2 (fun h0 a ha => HOFF1.out h0 a ha)).below hbA).ks hk4 (fun h0 a ha => HOFF6.out h0 a ha)
    clear hk3 hk4 hbA
    go_wp2_with fail
    with_reducible refine (bput_any A1 n1 m1 hw4 hz3 hA1 HOFF5.out (by have := HLE2.out; omega) HB4.out).mono ?_
    rintro e w5 ⟨r5, rfl, hk5, hg5, hw5⟩
    go_wp2
    go_end0
    refine ⟨r5, rfl, HK.out.trans' hk5 (fun j hj hs => HGR.out j hj hs), HG.out.trans hg5 HK.out.size, ?_⟩
    rw [HKI.out]
    exact hw5
def KBPost (z : List Int) (w : World) (e : Ending) (w' : World) : Prop :=
  ∃ g, e = .returned (.tuple #[.slice (some ⟨g, 0, none⟩) (bkb z).length (bkb z).length, .int .i64 0]) ∧ w.heap.size ≤ g ∧ Below w.heap.size w w' ∧ Blk w' g ((bkb z).map (Value.int .u8)).toArray 5
set_option maxHeartbeats 2000000 in
theorem kbytes_any {w : World} (A : Option Addr) (n m : Nat) {z : List Int} (hz : Bs w A n z) (hA : A = none → m = 0) (hby : ∀ x ∈ z, 0 ≤ x ∧ x < 256) (hm : n ≤ m) (hn : n ≤ 10000) : Calls Tryz.prog 157 #[.slice A n m] w (KBPost z w) := by
  have HZ := Lib.hid hz
  have HBY := Lib.hid hby
  have hbl := bkb_len z
  rw [hz.1] at hbl
  have HBL := Lib.hid hbl
  clear hz hby hbl
  go_enter Tryz.func157, Tryz.ntmps157
  go_wp2_with fail
  refine (wnew_any _ w (by omega)).mono ?_
  rintro e w1 ⟨b, rfl, hbb, hb1, hw1⟩
  rw [if_neg (by omega)] at hw1
  have hM := hw1.most.2
  have HP : Hid (puts (bki z) [] 9223372036854775807 0 = (bkb z, 0)) := Lib.hid (by
    have := puts_fits (xs := bki z) (z := []) (M := 9223372036854775807) (by rw [bki_flat]; have := HBL.out; simp; omega)
    rw [this, bki_flat]; rfl)
  generalize (9223372036854775807 : Int) = M at hw1 HP
  clear hM
  go_wp2_with fail
  with_reducible refine (kput_any A n m hw1 (HZ.out.below hb1) hA (fun h0 a' ha => hw1.off_lt (HZ.out.lt h0 a' ha)) HBY.out hm hn (by simp) hb1.size).mono ?_
  rintro e w2 ⟨r2, rfl, hk2, hg2, hw2⟩
  rw [HP.out] at hw2
  have hB2 := Wr.belowOf hb1 (Nat.le_refl _) hw1 hk2 (Nat.le_refl _)
  have HB2 := Lib.hid hB2
  clear hk2 hg2 hw1 hb1 hB2
  go_wp2_with fail
  with_reducible refine (wbytes_good hw2 (by have := HBL.out; show (bkb z).length ≤ 1000000; omega)).mono ?_
  rintro e w3 ⟨g, rfl, hg, hb3, hblk⟩
  have HB3 := Lib.hid hb3
  have HG := Lib.hid hg
  clear hw2 hb3 hg
  go_wp2
  go_ret2
  exact ⟨g, rfl, Nat.le_trans HB2.out.size HG.out, HB2.out.trans (HB3.out.mono HB2.out.size), hblk⟩
def RPkPost (z : List Int) (w : World) (e : Ending) (w' : World) : Prop := e = .returned (.bool (pk z)) ∧ Below w.heap.size w w'
set_option maxHeartbeats 2000000 in
theorem rpacked_any {w : World} {A : Option Addr} {n m : Nat} {z : List Int} (hz : Bs w A n z) (hby : ∀ x ∈ z, 0 ≤ x ∧ x < 256) (hm : n ≤ m) (hn : n ≤ 10000) : Calls Tryz.prog 82 #[.slice A n m] w (RPkPost z w) := by
  have hP := r15bytes_any (m := m) hz hby hm hn
  have hcl := cps_len (z := z) (by rw [hz.1]; omega) hby
  rw [hz.1] at hcl
  have HK : Hid (pk z = decide (vsz (cps z).length + (cps z).length < n)) := Lib.hid (by unfold pk; rw [hz.1])
  unfold RPkPost
  obtain ⟨k, hk⟩ : ∃ k, k = pk z := ⟨_, rfl⟩
  rw [← hk] at HK ⊢
  clear hz hby hk
  go_enter Tryz.func82, Tryz.ntmps82
  go_wp2_with fail
  with_reducible refine hP.mono ?_
  rintro e w1 ⟨A1, n1, m1, rfl, hb1, hbs, hA1⟩
  have hl : (cps z).length = n1 := hbs.1
  rw [hl] at HK hcl
  have hv := vsz_le (n1 : Int)
  have hR := rbbytes_any A1 n1 m1 (cps z) w1 hbs hA1 (by omega)
  unfold RowPost at hR
  rw [List.length_append, vz_length, hl] at hR
  have HB := Lib.hid hb1
  clear hP hl hb1 hbs
  go_wp2_with fail
  with_reducible refine hR.mono ?_
  rintro e w2 ⟨A2, m2, rfl, hb2, _⟩
  have HB2 := Lib.hid hb2
  clear hR hb2
  generalize vsz (n1 : Int) = v at *
  have HD : Hid (decide ((v : Int) + (n1 : Int) < (n : Int)) = k) := Lib.hid (by
    rw [HK.out]
    by_cases h : v + n1 < n
    · rw [decide_eq_true h, decide_eq_true (by omega)]
    · rw [decide_eq_false h, decide_eq_false (by omega)])
  go_wp2
  go_ret
  refine ⟨?_, HB.out.trans (HB2.out.mono HB.out.size)⟩
  rw [← HD.out]
  rfl
set_option maxHeartbeats 4000000 in
theorem r16bytes_any {w : World} {A : Option Addr} {n m : Nat} {z : List Int} (hz : Bs w A n z) (hA : A = none → m = 0) (hby : ∀ x ∈ z, 0 ≤ x ∧ x < 256) (hm : n ≤ m) (hn : n ≤ 10000) : Calls Tryz.prog 51 #[.slice A n m] w (RowPost (bkb z) w) := by
  have hcl := cps_len (z := z) (by rw [hz.1]; omega) hby
  have hzl := hz.1
  have HBK : Hid (bkb z = vz (n : Int) ++ (if pk z then 1 :: (vz (cps z).length ++ cps z) else 0 :: z)) := Lib.hid (by unfold bkb; rw [hzl])
  have hP := fun W (h : Below w.heap.size w W) => rpacked_any (m := m) (hz.below h) hby hm hn
  have hR := fun W (h : Below w.heap.size w W) => r15bytes_any (m := m) (hz.below h) hby hm hn
  unfold RPkPost at hP
  have HP := Lib.hid hP
  have HR := Lib.hid hR
  have HZ := Lib.hid hz
  rw [hzl] at hcl
  have HL := Lib.hid (vz_length (n : Int))
  have hv := vsz_le (n : Int)
  have hn0 : (0 : Int) ≤ n := by omega
  clear hz hby hzl hP hR
  go_enter Tryz.func51, Tryz.ntmps51
  go_wp2_with fail
  with_reducible refine (rbytes_any 10 _ _ (vsz_le _) hn0 (by omega)).mono ?_
  rintro e w1 ⟨A1, m1, rfl, hb1, _, _, _, ho1⟩
  have HB1 := Lib.hid hb1
  have HO1 := Lib.hid ho1
  clear hb1 ho1
  go_wp2_with fail
  with_reducible refine (HP.out _ HB1.out).mono ?_
  rintro e w2 ⟨rfl, hb2⟩
  have hbd := HB1.out.trans (hb2.mono HB1.out.size)
  have ho2 := HO1.out.below hb2
  clear hb2
  cases hk : pk z
  · rw [hk, if_neg (by decide)] at HBK
    clear hk HR
    have hbA := below_one w2 (.cells #[.int .u8 0] 5)
    have hoA := ho2.below hbA
    have hbdA := hbd.trans (hbA.mono hbd.size)
    have hsA : Bs (w2.alloc (.cells #[.int .u8 0] 5)) (some ⟨w2.heap.size, 0, none⟩) 1 [0] := bs_new w2 [0] 5
    have hBA := hbdA.size
    clear ho2 hbd hbA
    have HNIL : Hid (A = none → m = 0) := Lib.hid hA
    clear hA
    go_wp2_with (at_builtin; go_must (first | (refine list_append_gr rfl (.tmp 18) (.tmp 19) rfl w.heap.size _ (vz (n : Int)) rfl hoA _ 1 _ [0] rfl hsA (by simp) (by rw [HL.out]; omega) hBA ?_; intro v' w3 ho' hg hgr; have hb3 := Own.belowOf hbdA hBA hoA hg; clear hg hgr hoA hsA; obtain ⟨y3, hy3⟩ : ∃ y3, y3 = vz (n : Int) ++ [0] := ⟨_, rfl⟩; rw [← hy3] at ho'; have HY3 := Lib.hid hy3; clear hy3; have hy3 : Hid (y3.length ≤ 100) := Lib.hid (by rw [HY3.out, List.length_append, HL.out]; simp; omega); obtain ⟨A3, c3, rfl⟩ := ho'.slice; have hz3 := HZ.out.below hb3; have hB3 := hb3.size) | (refine list_append_gr rfl (.tmp 21) (.tmp 22) rfl w.heap.size _ y3 rfl ho' _ n m z rfl hz3 HNIL.out (by have := hy3.out; omega) hB3 ?_; intro v'' w4 ho'' hg4 hgr4; have hb4 := Own.belowOf hb3 hB3 ho' hg4; clear hg4 hgr4 ho' hz3 hb3; obtain ⟨y4, hy4⟩ : ∃ y4, y4 = y3 ++ z := ⟨_, rfl⟩; rw [← hy4] at ho''; have HY4 := Lib.hid hy4; clear hy4; obtain ⟨A4, c4, rfl⟩ := ho''.slice; have HO4 := Lib.hid ho''; have HB4 := Lib.hid hb4; clear ho'' hb4)))
    go_ret
    have hy : y4 = bkb z := by rw [HY4.out, HY3.out, HBK.out]; simp
    rw [← hy]
    exact Own.rowPost (B := 0) HO4.out HB4.out
  · rw [hk, if_pos rfl] at HBK
    clear hk
    have hbA := below_one w2 (.cells #[.int .u8 1] 5)
    have hoA := ho2.below hbA
    have hbdA := hbd.trans (hbA.mono hbd.size)
    have hsA : Bs (w2.alloc (.cells #[.int .u8 1] 5)) (some ⟨w2.heap.size, 0, none⟩) 1 [1] := bs_new w2 [1] 5
    have hBA := hbdA.size
    clear ho2 hbd hbA
    go_wp2_with (first | (at_builtin; (refine list_append_gr rfl (.tmp 10) (.tmp 11) rfl w.heap.size _ (vz (n : Int)) rfl hoA _ 1 _ [1] rfl hsA (by simp) (by rw [HL.out]; omega) hBA ?_; intro v' w3 ho' hg hgr; have hb3 := Own.belowOf hbdA hBA hoA hg; clear hg hgr hoA hsA; obtain ⟨y3, hy3⟩ : ∃ y3, y3 = vz (n : Int) ++ [1] := ⟨_, rfl⟩; rw [← hy3] at ho'; have HY3 := Lib.hid hy3; clear hy3; have hy3 : Hid (y3.length ≤ 100) := Lib.hid (by rw [HY3.out, List.length_append, HL.out]; simp; omega); obtain ⟨A3, c3, rfl⟩ := ho'.slice; have HO3 := Lib.hid ho'; have HB3 := Lib.hid hb3; clear ho' hb3)) | fail)
    with_reducible refine (HR.out _ HB3.out).mono ?_
    rintro e w5 ⟨A5, n5, m5, rfl, hb5, hbs5, hA5⟩
    have hc5 : (cps z).length = n5 := hbs5.1
    rw [hc5] at hcl HBK
    have hO5 := HO3.out.below hb5
    have hBD5 := HB3.out.trans (hb5.mono HB3.out.size)
    have hRB := rbbytes_any A5 n5 m5 (cps z) w5 hbs5 hA5 (by omega)
    have HC5 := Lib.hid hc5
    clear hb5 hbs5 hc5
    go_wp2_with fail
    with_reducible refine hRB.mono ?_
    rintro e w6 ⟨A6, m6, rfl, hb6, hbs6, hA6, _⟩
    have ho' := hO5.below hb6
    have hb3 := hBD5.trans (hb6.mono hBD5.size)
    have hB3 := hb3.size
    obtain ⟨y6, hy6⟩ : ∃ y6, y6 = vz (n5 : Int) ++ cps z := ⟨_, rfl⟩
    have hl6 : y6.length ≤ 220000 := by have := vsz_le (n5 : Int); rw [hy6, List.length_append, vz_length, HC5.out]; omega
    rw [← hy6] at hbs6 ⊢
    have HY6 := Lib.hid hy6
    clear hRB hb6 hO5 hBD5 hy6
    go_wp2_with (at_builtin; go_must (refine list_append_gr rfl (.tmp 13) (.tmp 16) rfl w.heap.size _ y3 rfl ho' _ _ _ y6 rfl hbs6 hA6 (by have := hy3.out; omega) hB3 ?_; intro v'' w4 ho'' hg4 hgr4; have hb4 := Own.belowOf hb3 hB3 ho' hg4; clear hg4 hgr4 ho' hbs6 hb3; obtain ⟨y4, hy4⟩ : ∃ y4, y4 = y3 ++ y6 := ⟨_, rfl⟩; rw [← hy4] at ho''; have HY4 := Lib.hid hy4; clear hy4; obtain ⟨A4, c4, rfl⟩ := ho''.slice; have HO4 := Lib.hid ho''; have HB4 := Lib.hid hb4; clear ho'' hb4))
    go_ret
    have hy : y4 = bkb z := by rw [HY4.out, HY3.out, HY6.out, HBK.out]; simp
    rw [← hy]
    exact Own.rowPost (B := 0) HO4.out HB4.out
end Go.Proofs.YtlealkfkddhnnaaGreat.Cur
namespace Go.Proofs.YtlealkfkddhnnaaGreat.Cur
open Go.RowKit Go.Shelf Mem
attribute [local go_sem] Oper.semAt_some
set_option linter.unusedVariables false
set_option maxRecDepth 100000
end Go.Proofs.YtlealkfkddhnnaaGreat.Cur
namespace Go.Proofs.YtlealkfkddhnnaaGreat.Cur
open Go.RowKit Go.Shelf Mem
attribute [local go_sem] Oper.semAt_some
set_option linter.unusedVariables false
set_option maxRecDepth 100000
def bc (z : List Int) (n way p : Int) : Rs (List Int) := if way = 0 then tk z n p else (bl z 1048576 p).bind [] fun t p1 =>
  if (exv t n).2.1 ≠ 0 then ([], 0, (exv t n).2.1, p1 - t.length + (exv t n).2.2) else if ((exv t n).1.length : Int) < n then ([], 0, 3, p1) else ((exv t n).1, p1, 0, 0)
def bk (z : List Int) (most p : Int) : Rs (List Int) := (vm z (min most 1048576) p).bind [] fun n p1 => (tk z 1 p1).bind [] fun wy p2 => if 1 < wy.getD 0 0 then ([], 0, 7, p1) else bc z n (wy.getD 0 0) p2
def bks (z : List Int) (most p : Int) : Rs (List Int) := (bk z most p).bind [] fun y p' => if piece z p.toNat p'.toNat = bkb y then (y, p', 0, 0) else ([], 0, 12, p')
def Few (z : List Int) (mo p : Int) : Prop := (vm z mo p).1 ≤ 10000
theorem piece_byte {z : List Int} (hby : ∀ x ∈ z, 0 ≤ x ∧ x < 256) (a b : Nat) : ∀ x ∈ piece z a b, 0 ≤ x ∧ x < 256 := fun x hx => hby x (List.mem_of_mem_drop (List.mem_of_mem_take hx))
theorem piece_len {z : List Int} (a b : Nat) : (piece z a b).length ≤ z.length := by
  unfold piece
  have := List.length_take_le (b - a) (z.drop a)
  rw [List.length_take, List.length_drop]
  omega
theorem tk_byte {z : List Int} (hby : ∀ x ∈ z, 0 ≤ x ∧ x < 256) (x p : Int) : (∀ y ∈ (tk z x p).1, 0 ≤ y ∧ y < 256) ∧ (tk z x p).1.length ≤ z.length := by
  unfold tk
  split
  · exact ⟨fun y h => absurd h (by simp), by simp⟩
  · split
    · exact ⟨fun y h => absurd h (by simp), by simp⟩
    · exact ⟨piece_byte hby _ _, piece_len _ _⟩
theorem bl_byte {z : List Int} (hby : ∀ x ∈ z, 0 ≤ x ∧ x < 256) (mo p : Int) : (∀ y ∈ (bl z mo p).1, 0 ≤ y ∧ y < 256) ∧ (bl z mo p).1.length ≤ z.length := by
  unfold bl Rs.bind
  split
  · exact ⟨fun y h => absurd h (by simp), by simp⟩
  · exact tk_byte hby _ _
theorem St.val {α : Type} {P : α → Prop} {d : α} {n : Nat} {g : Rs α} {p c q : Int} {v : α} {p' c' q' : Int} (h : St d n g p c q v p' c' q') (hd : P d) (hg : P g.1) : P v := by
  obtain ⟨_, _, ⟨_, rfl, _⟩ | ⟨_, _, rfl, _⟩ | ⟨_, _, rfl, _⟩⟩ := h
  · exact hd
  · exact hg
  · exact hd
theorem bkb_byte {z : List Int} (hz : z.length ≤ 1000000) (hby : ∀ x ∈ z, 0 ≤ x ∧ x < 256) : ∀ x ∈ bkb z, 0 ≤ x ∧ x < 256 := by
  intro x hx
  unfold bkb at hx
  rcases List.mem_append.1 hx with hx | hx
  · exact vz_byte _ (by omega) (by have := cps_len hz hby; omega) x hx
  · split at hx
    · rcases List.mem_cons.1 hx with rfl | hx
      · omega
      · rcases List.mem_append.1 hx with hx | hx
        · exact vz_byte _ (by omega) (by have := cps_len hz hby; omega) x hx
        · exact cps_byte hz hby x hx
    · rcases List.mem_cons.1 hx with rfl | hx
      · omega
      · exact hby x hx
theorem fshift_any (c q d : Int) (w : World) (h : -1000000000000 ≤ q + d ∧ q + d ≤ 1000000000000) :
    Calls Tryz.prog 156 #[.agg #[.int .i64 c, .int .i64 q], .int .i64 d] w fun e w' => e = .returned (.agg #[.int .i64 c, .int .i64 (fq c (q + d))]) ∧ Below w.heap.size w w' := by
  have hX := (Blk.new w #[.int .i64 c, .int .i64 q] 48).alloc (.cells #[.int .i64 0, .int .i64 0] 48)
  have hF := Blk.new (w.alloc (.cells #[.int .i64 c, .int .i64 q] 48)) #[.int .i64 0, .int .i64 0] 48
  rw [World.size_alloc] at hF
  have hb2 := below_two w (.cells #[.int .i64 c, .int .i64 q] 48) (.cells #[.int .i64 0, .int .i64 0] 48)
  obtain ⟨x0, x1⟩ := hX.c2
  have ew : IntKind.i64.wrap (q + d) = q + d := IntWalk.i64_in _ (by omega)
  have HF := Lib.hid hF
  have HB := Lib.hid hb2
  clear hX hF hb2 h
  go_enter Tryz.func156, Tryz.ntmps156
  go_wp2_with fail
  refine (fat_any _ _ _).mono ?_
  rintro e w1 ⟨rfl, hb1⟩
  have hF1 := HF.out.below hb1
  obtain ⟨f0, f1⟩ := hF1.c2
  obtain ⟨k0, k1⟩ := hF1.f2
  have hbd := HB.out.trans (hb1.mono HB.out.size)
  have HBD := Lib.hid hbd
  clear hb1 hbd x0 x1 ew
  go_wp2
  have hs1 : w.heap.size ≤ w.heap.size + 1 := Nat.le_succ _
  refine bodyPost_ret (v := .agg #[.int .i64 c, .int .i64 (fq c (q + d))]) (by simp [results, Tryz.results156, go_sem, f0, f1]) rfl ⟨rfl, ?_⟩
  exact (HBD.out.setCell (p := ⟨w.heap.size + 1, 0, none⟩) hs1 _).setCell (p := ⟨w.heap.size + 1, 1, none⟩) hs1 _
theorem kisown_any {w : World} (A B : Option Addr) (n m k l : Nat) {y z : List Int} (hy : Bs w A n y) (hz : Bs w B k z) (hB : B = none → l = 0) (hyb : ∀ x ∈ y, 0 ≤ x ∧ x < 256) (hby : ∀ x ∈ z, 0 ≤ x ∧ x < 256) (hm : k ≤ l) (hk : k ≤ 10000) :
    Calls Tryz.prog 129 #[.slice A n m, .slice B k l] w (BPost (.bool (decide (y = bkb z))) w) := by
  unfold BPost
  have hK := kbytes_any B k l hz hB hby hm hk
  unfold KBPost at hK
  have hbb := bkb_byte (z := z) (by rw [hz.1]; omega) hby
  obtain ⟨r, hr⟩ : ∃ r, r = decide (y = bkb z) := ⟨_, rfl⟩
  rw [← hr]
  have HR := Lib.hid hr
  clear hr
  have HY := Lib.hid hy
  have HYB := Lib.hid hyb
  have HBB := Lib.hid hbb
  obtain ⟨bl, hbl⟩ : ∃ bl, bl = (bkb z).length := ⟨_, rfl⟩
  rw [← hbl] at hK
  have HBL := Lib.hid hbl
  clear hy hz hyb hby hbb hbl
  go_enter Tryz.func129, Tryz.ntmps129
  go_wp2_with fail
  with_reducible refine hK.mono ?_
  rintro e w1 ⟨g, rfl, hg, hb1, hblk⟩
  have hs := Bs.of_block hblk
  rw [← HBL.out] at hs
  have hbe := beq_any A (some ⟨g, 0, none⟩) n bl m bl y (bkb z) w1 (HY.out.below hb1) hs HYB.out HBB.out
  rw [← HR.out] at hbe
  have HB := Lib.hid hb1
  clear hK hb1 hblk hs hg
  go_wp2_with fail
  with_reducible refine hbe.mono ?_
  rintro e w2 ⟨rfl, rfl⟩
  clear hbe
  go_wp2
  go_ret
  exact ⟨rfl, HB.out⟩
theorem own_base0 {w : World} {B B' e size n : Nat} {v : Value} {xs : List Value} (h : w.ownsRow B e size v n xs) (hs : B' ≤ B) : w.ownsRow B' e size v n xs := own_base h fun g hg => Nat.le_trans hs (own_geg h g hg)
theorem exv_nil (n : Int) : exv [] n = ([], 0, 0) := rfl
theorem bc_st {k : Nat} {z t y : List Int} {n x p c q p1 c1 q1 c2 q2 c7 q7 c8 q8 : Int} (hx0 : x ≠ 0) (hS : St [] k (bl z 1048576 p) p c q t p1 c1 q1) (hG : exv t n = (y, c2, q2)) (hq : c = 0 → q = 0)
    (h7 : FailSt c1 q1 c2 (fq c2 (q2 + (p1 - t.length))) c7 q7) (h8 : ((y.length : Int) < n ∧ FailSt c7 q7 3 p1 c8 q8) ∨ (¬ (y.length : Int) < n ∧ c8 = c7 ∧ q8 = q7)) : ∃ l', St [] k (bc z n x p) p c q l' p1 c8 q8 ∧ (c8 = 0 → l' = y) := by
  unfold bc
  rw [if_neg hx0]
  obtain ⟨p10, p11⟩ := hS.place
  by_cases hc1 : c1 = 0
  · subst hc1
    obtain ⟨hc, _, _, _, hq1⟩ := hS.good
    have hq0 : q1 = 0 := by rw [hq1]; exact hq hc
    rcases h7 with ⟨_, e7, f7⟩ | ⟨h, _⟩
    · by_cases hc2 : c2 = 0
      · have e7' : c7 = 0 := by rw [e7, hc2]
        have f7' : q7 = 0 := by rw [f7, hc2]; rfl
        rcases h8 with ⟨h8, h8'⟩ | ⟨h8, e8, f8⟩
        · rcases h8' with ⟨_, e8, f8⟩ | ⟨h, _⟩
          · refine ⟨[], hS.bind (St.fault (x := []) (y := 0) ?_ (by rw [e8]; decide) p10 p11), fun h => ?_⟩
            · rw [hG]
              simp only
              rw [if_neg (by rw [hc2]; simp), if_pos h8, e8, f8]
              rfl
            · rw [e8] at h; exact absurd h (by decide)
          · exact absurd e7' h
        · have e : c8 = 0 := by rw [e8, e7']
          have f : q8 = q1 := by rw [f8, f7', hq0]
          subst e f
          refine ⟨y, hS.bind (St.done ?_ p10 p11), fun _ => rfl⟩
          rw [hG]
          simp only
          rw [if_neg (by rw [hc2]; simp), if_neg h8]
      · have hc7 : c7 ≠ 0 := by rw [e7]; exact hc2
        have h88 : c8 = c7 ∧ q8 = q7 := by
          rcases h8 with ⟨_, h8'⟩ | ⟨_, e8, f8⟩
          · rcases h8' with ⟨h, _⟩ | ⟨_, e8, f8⟩
            · exact absurd h hc7
            · exact ⟨e8, f8⟩
          · exact ⟨e8, f8⟩
        obtain ⟨rfl, rfl⟩ := h88
        refine ⟨[], hS.bind (St.fault (x := []) (y := 0) ?_ hc7 p10 p11), fun h => absurd h hc7⟩
        rw [hG]
        simp only
        rw [if_pos hc2, e7, f7]
        unfold fq
        rw [if_neg hc2, if_neg hc2]
        congr 3
        omega
    · exact absurd rfl h
  · rcases h7 with ⟨h, _⟩ | ⟨_, rfl, rfl⟩
    · exact absurd h hc1
    · have h88 : c8 = c7 ∧ q8 = q7 := by
        rcases h8 with ⟨_, h8'⟩ | ⟨_, e8, f8⟩
        · rcases h8' with ⟨h, _⟩ | ⟨_, e8, f8⟩
          · exact absurd h hc1
          · exact ⟨e8, f8⟩
        · exact ⟨e8, f8⟩
      obtain ⟨rfl, rfl⟩ := h88
      exact ⟨[], hS.bind (St.stay p10 p11 hc1), fun h => absurd h hc1⟩
theorem tk_lenx {z : List Int} {x p : Int} (h : 0 ≤ x) : ((tk z x p).1.length : Int) ≤ x := by
  unfold tk
  split
  · show (([] : List Int).length : Int) ≤ x; simp; exact h
  · split
    · show (([] : List Int).length : Int) ≤ x; simp; exact h
    · show ((piece z p.toNat (p + x).toNat).length : Int) ≤ x
      unfold piece
      have := List.length_take_le ((p + x).toNat - p.toNat) (z.drop p.toNat)
      omega
def KcPost (b : Nat) (s : Value) (k : Nat) (g : Rs (List Int)) (p c q : Int) (w : World) (e : Ending) (w' : World) : Prop :=
  ∃ v l l' p' c' q', e = .returned v ∧ Own w' w.heap.size v l ∧ (∀ x ∈ l, 0 ≤ x ∧ x < 256) ∧ l.length ≤ 10000 ∧ Kp b w w' ∧ IsRd w' b s p' c' q' ∧ St [] k g p c q l' p' c' q' ∧ (c' = 0 → l' = l)
set_option maxHeartbeats 4000000 in
theorem kcontent_any (b : Nat) (a : Option Addr) (k m : Nat) (z : List Int) (p c q x n : Int) (w : World) (h : IsRd w b (.slice a k m) p c q) (hz : Bs w a k z) (h0 : 0 ≤ p) (h1 : p ≤ k) (hm : k ≤ m) (hk : k ≤ 100000) (hby : ∀ x ∈ z, 0 ≤ x ∧ x < 256) (hx : 0 ≤ x ∧ x < 256) (hn : 0 ≤ n ∧ n ≤ 10000) (hq : c = 0 → q = 0) :
    Calls Tryz.prog 128 #[.pointer (some ⟨b, 0, none⟩), .int .u8 x, .int .i64 n] w (KcPost b (.slice a k m) k (bc z n x p) p c q w) := by
  have hzl := hz.1
  by_cases hx0 : x = 0
  · subst hx0
    have hT := take_st b a k m z p c q n w h hz h0 h1 hm (by omega)
    unfold BRPost at hT
    have HBY := Lib.hid hby
    clear h hz hby
    go_enter Tryz.func128, Tryz.ntmps128
    go_wp2_with fail
    with_reducible refine hT.mono ?_
    rintro e w1 ⟨v, l, p', c', q', rfl, ho, hk1, hr1, hs1⟩
    have hb := tk_byte HBY.out n p
    have hbx := tk_lenx (z := z) (p := p) hn.1
    have HP := Lib.hid (hs1.val (P := fun l => (∀ y ∈ l, 0 ≤ y ∧ y < 256) ∧ l.length ≤ 10000) ⟨fun y h => absurd h (by simp), by simp⟩ ⟨hb.1, by omega⟩)
    obtain ⟨Av, cv, rfl⟩ := ho.slice
    have HO := Lib.hid ho
    have HK := Lib.hid hk1
    have HR := Lib.hid hr1
    have HS := Lib.hid hs1
    clear hT hb hbx ho hk1 hr1 hs1
    go_wp2
    go_ret
    exact ⟨_, l, l, p', c', q', rfl, HO.out, HP.out.1, HP.out.2, HK.out, HR.out, by unfold bc; rw [if_pos rfl]; exact HS.out, fun _ => rfl⟩
  · have hxb : (x == 0) = false := by simpa using hx0
    have hT := bread_any b a k m z p c q 1048576 w h hz h0 h1 hm (by omega) hby (by omega)
    unfold BRPost at hT
    have HBY := Lib.hid hby
    have HZ := Lib.hid hz
    have HH := Lib.hid h
    have HX0 := Lib.hid hx0
    clear h hz hby hx0 hx
    go_enter Tryz.func128, Tryz.ntmps128
    go_wp2_with fail
    with_reducible refine hT.mono ?_
    rintro e w1 ⟨v1, t, p1, c1, q1, rfl, ho1, hk1, hr1, hs1⟩
    have hb := bl_byte HBY.out 1048576 p
    obtain ⟨ht1, ht2⟩ := hs1.val (P := fun l => (∀ y ∈ l, 0 ≤ y ∧ y < 256) ∧ l.length ≤ 100000) ⟨fun y h => absurd h (by simp), by simp⟩ ⟨hb.1, by omega⟩
    obtain ⟨p10, p11⟩ := hs1.place
    obtain ⟨A1, n1, rfl⟩ := ho1.slice
    have hE := eb_le (m := n1) (bound := n) ho1.bs.2 ho1.cap (by omega) ht1 (by omega)
    obtain ⟨g1, g2, g3, g4⟩ := exv_fine (z := t) (bound := n) ht1
    have g5 := exv_fp (z := t) (bound := n) ht1
    have HS1 := Lib.hid hs1
    have HX : Hid (exv t n = ((exv t n).1, (exv t n).2.1, (exv t n).2.2)) := Lib.hid rfl
    have HXN := Lib.hid (fun h : t = [] => (show exv t n = ([], 0, 0) from by rw [h]; rfl))
    obtain ⟨G, hG⟩ : ∃ G, G = exv t n := ⟨_, rfl⟩
    rw [← hG] at hE g1 g2 g3 g4 g5 HX HXN
    have HG := Lib.hid hG
    clear hG
    obtain ⟨y, c2, q2⟩ := G
    simp only at g1 g2 g3 g4 g5
    obtain ⟨tl, htl⟩ : ∃ tl, tl = t.length := ⟨_, rfl⟩
    rw [← htl] at hE ht2 g5 ⊢
    have HTL := Lib.hid htl
    have HG2 := Lib.hid g2
    have HG3 := Lib.hid g3
    have HG4 := Lib.hid g4
    have HO1 := Lib.hid hk1
    clear hT hb ht1 ho1 hs1 htl HX g2 g3 g4 hk1
    go_wp2_with fail
    with_reducible refine hE.mono ?_
    rintro e w2 ⟨v2, rfl, ho2, hb2⟩
    have ho2 : Own w2 w1.heap.size v2 y := ho2
    obtain ⟨A2, n2, rfl⟩ := ho2.slice
    have hX := Blk.new w2 #[.int .i64 c2, .int .i64 q2] 48
    have hbX := below_one w2 (.cells #[.int .i64 c2, .int .i64 q2] 48)
    replace ho2 := ho2.below hbX
    have hr2 := (hr1.below hb2).below hbX
    have hK2 : Kp b w w2 := HO1.out.trans (Kp.of_below hb2)
    have hyl : y.length ≤ 10000 := by omega
    have HYL := Lib.hid hyl
    obtain ⟨yl, hyl2⟩ : ∃ yl, yl = y.length := ⟨_, rfl⟩
    rw [← hyl2] at g1 hyl ⊢
    have HYE := Lib.hid hyl2
    have HKX := Lib.hid (hK2.trans (Kp.of_below hbX))
    have hxs : b < w2.heap.size := (hr1.below hb2).lt
    have HKW := Lib.hid (Nat.le_trans HO1.out.size hb2.size)
    clear hE hb2 hbX hr1 hK2 hyl2
    go_wp2_with fail
    generalize hW : w2.alloc (.cells #[.int .i64 c2, .int .i64 q2] 48) = w3 at *
    have hbne : b ≠ w2.heap.size := by omega
    have ew : IntKind.i64.wrap (p1 - tl) = p1 - tl := IntWalk.i64_in _ (by omega)
    have hS : Blk w3.drew w2.heap.size #[.int .i64 c2, .int .i64 q2] 48 := hX
    have L : ∀ w', Blk w' w2.heap.size #[.int .i64 c2, .int .i64 q2] 48 → w'.cell? ⟨w2.heap.size, 0, none⟩ = some (.int .i64 c2) ∧ w'.cell? ⟨w2.heap.size, 1, none⟩ = some (.int .i64 q2) := fun w' h => h.c2
    have HR2 := Lib.hid (hr2.drewN 1)
    have HO2 := Lib.hid ho2
    clear hW hX hr2 ho2
    refine Seq.wp_region_last (fun w' => Blk w' w2.heap.size #[.int .i64 c2, .int .i64 q2] 48) (by kernel_rfl) (by kernel_rfl) (by kernel_rfl) hS ?_
    repeat (first | (refine Seq.SeqE.skip (by rfl) ?_; (try simp only [Act.put, List.setIfInBounds_toArray, List.set_cons_zero, List.set_cons_succ])) | (refine Seq.SeqE.det ?_ (by rfl) (fun w hS => ?_) ?_; rotate_left; ((try dsimp only at hS); go_simp; (try rw [if_pos (by omega)]); with_reducible rfl); (try simp only [Act.put, List.setIfInBounds_toArray, List.set_cons_zero, List.set_cons_succ])))
    refine Seq.SeqE.make (by rfl) (by rfl) (fun K Q' hK => ?_)
    go_simp
    go_at_call 90
    refine (at_any _ _ _ _ _ _ HR2.out).mono ?_
    rintro e w4 ⟨rfl, rfl⟩
    refine hK.out _ _ (hS) ?_
    clear hK K
    try simp only [Act.put, List.setIfInBounds_toArray, List.set_cons_zero, List.set_cons_succ]
    repeat (first | (refine Seq.SeqE.skip (by rfl) ?_; (try simp only [Act.put, List.setIfInBounds_toArray, List.set_cons_zero, List.set_cons_succ])) | (refine Seq.SeqE.det ?_ (by rfl) (fun w hS => ?_) ?_; rotate_left; ((try dsimp only at hS); go_simp; (try rw [if_pos (by omega)]); with_reducible rfl); (try simp only [Act.put, List.setIfInBounds_toArray, List.set_cons_zero, List.set_cons_succ])))
    refine Seq.SeqE.make (by rfl) (by rfl) (fun K Q' hK => ?_)
    go_simp
    go_at_call 156
    refine (fshift_any c2 q2 (p1 - tl) _ (by omega)).mono ?_
    rintro e w5 ⟨rfl, hb5⟩
    have hS5 := hS.below hb5
    have hr5 := HR2.out.below hb5
    have ho5 := (HO2.out.below (below_one' w3)).below hb5
    have hk5 := (HKX.out.trans (Kp.of_below (below_one' w3))).trans (Kp.of_below hb5)
    obtain ⟨Q, hQ⟩ : ∃ Q, Q = fq c2 (q2 + (p1 - tl)) := ⟨_, rfl⟩
    rw [← hQ]
    have HQ := Lib.hid hQ
    have HB5 := Lib.hid hb5
    clear hb5 hQ ew HR2 HO2 HKX
    refine hK.out _ _ (hS5) ?_
    clear hK K
    try simp only [Act.put, List.setIfInBounds_toArray, List.set_cons_zero, List.set_cons_succ]
    repeat (first | (refine Seq.SeqE.skip (by rfl) ?_; (try simp only [Act.put, List.setIfInBounds_toArray, List.set_cons_zero, List.set_cons_succ])) | (refine Seq.SeqE.det ?_ (by rfl) (fun w hS => ?_) ?_; rotate_left; ((try dsimp only at hS); go_simp; (try rw [if_pos (by omega)]); with_reducible rfl); (try simp only [Act.put, List.setIfInBounds_toArray, List.set_cons_zero, List.set_cons_succ])))
    obtain ⟨s0, s1⟩ := hS5.c2
    obtain ⟨u0, u1⟩ := hS5.f2
    refine Seq.SeqE.last (by rfl) (by rfl) (fun K Q' hK => ?_)
    go_simp
    refine hK.out _ _ ?_
    clear hK K
    try simp only [Act.put, List.setIfInBounds_toArray, List.set_cons_zero, List.set_cons_succ]
    have hX6 : Blk ((w5.setCell ⟨w2.heap.size, 0, none⟩ (.int .i64 c2)).setCell ⟨w2.heap.size, 1, none⟩ (.int .i64 Q)) w2.heap.size #[.int .i64 c2, .int .i64 Q] 48 := (hS5.set 0 _).set 1 _
    have hr6 := (hr5.kp (Kp.setCell w5 w2.heap.size 0 (.int .i64 c2)) hbne).kp (Kp.setCell _ w2.heap.size 1 (.int .i64 Q)) hbne
    have hk6 : Kp b w ((w5.setCell ⟨w2.heap.size, 0, none⟩ (.int .i64 c2)).setCell ⟨w2.heap.size, 1, none⟩ (.int .i64 Q)) := (hk5.far (p := ⟨w2.heap.size, 0, none⟩) (by have := HKW.out; exact this) (.int .i64 c2)).far (p := ⟨w2.heap.size, 1, none⟩) (by have := HKW.out; exact this) (.int .i64 Q)
    have ho6 := own_kp (own_kp ho5 (Kp.setCell w5 w2.heap.size 0 (.int .i64 c2)) (own_ne_blk ho5 hS5 (by decide))) (Kp.setCell _ w2.heap.size 1 (.int .i64 Q)) (own_ne_blk ho5 hS5 (by decide))
    generalize (w5.setCell ⟨w2.heap.size, 0, none⟩ (.int .i64 c2)).setCell ⟨w2.heap.size, 1, none⟩ (.int .i64 Q) = w6 at *
    obtain ⟨x0, x1⟩ := hX6.c2
    clear hS5 hS hr5 ho5 hk5 s0 s1 u0 u1 L
    go_wp2_with fail
    with_reducible refine (fail_any b _ p1 c1 q1 c2 Q w6 hr6).mono ?_
    rintro e w7 ⟨c7, q7, rfl, hk7, hr7, hf7⟩
    have hne : (Value.slice A2 y.length n2).ownBlock ≠ some b := fun e => by
      have h1 := own_geg ho6 b e
      have h2 : b < w.heap.size := Blk.lt HH.out
      have h3 := HO1.out.size
      omega
    have ho7 := own_kp ho6 hk7 hne
    have hkk := hk6.trans hk7
    have HF7 := Lib.hid hf7
    clear hk6 hk7 hr6 ho6 hX6 hf7 x0 x1
    by_cases hlt : (yl : Int) < n
    · go_wp2_with fail
      refine (at_any _ _ _ _ _ _ hr7).mono ?_
      rintro e w8 ⟨rfl, rfl⟩
      go_wp2_with fail
      with_reducible refine (fail_any b _ p1 c7 q7 3 p1 _ hr7).mono ?_
      rintro e w9 ⟨c8, q8, rfl, hk9, hr9, hf9⟩
      have HO9 := Lib.hid (own_kp ho7 hk9 hne)
      have HK9 := Lib.hid (hkk.trans hk9)
      have HR9 := Lib.hid hr9
      obtain ⟨l', hl1, hl2⟩ := bc_st (q8 := q8) (c8 := c8) HX0.out HS1.out HG.out.symm hq (by rw [← HTL.out, ← HQ.out]; exact HF7.out) (.inl ⟨by rw [← HYE.out]; exact hlt, hf9⟩)
      have HL := Lib.hid (And.intro hl1 hl2)
      clear hr7 ho7 hkk hk9 hr9 hf9 hl1 hl2 hq
      go_wp2
      go_ret
      exact ⟨_, y, l', p1, c8, q8, rfl, (by show Own _ w.heap.size (.slice A2 yl n2) y; rw [HYE.out]; exact own_base0 HO9.out HO1.out.size), HG2.out, HYL.out, HK9.out, HR9.out, HL.out.1, HL.out.2⟩
    · obtain ⟨l', hl1, hl2⟩ := bc_st (q8 := q7) (c8 := c7) HX0.out HS1.out HG.out.symm hq (by rw [← HTL.out, ← HQ.out]; exact HF7.out) (.inr ⟨by rw [← HYE.out]; exact hlt, rfl, rfl⟩)
      have HL := Lib.hid (And.intro hl1 hl2)
      have HO9 := Lib.hid ho7
      have HK9 := Lib.hid hkk
      have HR9 := Lib.hid hr7
      clear hr7 ho7 hkk hl1 hl2 hq
      go_wp2
      go_ret
      exact ⟨_, y, l', p1, c7, q7, rfl, (by show Own _ w.heap.size (.slice A2 yl n2) y; rw [HYE.out]; exact own_base0 HO9.out HO1.out.size), HG2.out, HYL.out, HK9.out, HR9.out, HL.out.1, HL.out.2⟩
end Go.Proofs.YtlealkfkddhnnaaGreat.Cur
namespace Go.Proofs.YtlealkfkddhnnaaGreat.Cur
open Go.RowKit Go.Shelf Mem
attribute [local go_sem] Oper.semAt_some
set_option linter.unusedVariables false
set_option maxRecDepth 100000
def By3 (wy : List Int) (c2 q2 p1 c3 q3 : Int) : Prop := (1 < wy.getD 0 0 ∧ FailSt c2 q2 7 p1 c3 q3) ∨ (¬ 1 < wy.getD 0 0 ∧ c3 = c2 ∧ q3 = q2)
theorem bk_st {k : Nat} {z wy l : List Int} {most p c q n p1 c1 q1 p2 c2 q2 c3 q3 p4 c4 q4 : Int} (h1 : St 0 k (vm z (min most 1048576) p) p c q n p1 c1 q1) (h2 : St [] k (tk z 1 p1) p1 c1 q1 wy p2 c2 q2)
    (h3 : By3 wy c2 q2 p1 c3 q3) (h4 : St [] k (bc z n (wy.getD 0 0) p2) p2 c3 q3 l p4 c4 q4) : St [] k (bk z most p) p c q l p4 c4 q4 := by
  unfold bk
  refine h1.bind (h2.bind ?_)
  obtain ⟨p40, p41⟩ := h4.place
  rcases h3 with ⟨hx, ⟨rfl, rfl, rfl⟩ | ⟨hc, rfl, rfl⟩⟩ | ⟨hx, rfl, rfl⟩
  · rw [if_pos hx]
    obtain ⟨rfl, rfl, rfl⟩ := h4.bad (by decide)
    exact St.fault (x := []) (y := 0) rfl (by decide) p40 p41
  · rw [if_pos hx]
    obtain ⟨rfl, rfl, rfl⟩ := h4.bad hc
    exact St.stay p40 p41 hc
  · rw [if_neg hx]
    exact h4
theorem piece_back {z : List Int} {a b : Nat} (h : b ≤ a) : piece z a b = [] := by
  unfold piece
  rw [show b - a = 0 by omega, List.take_zero]
theorem since_st (b : Nat) (a : Option Addr) (n m : Nat) (z : List Int) (p c q f : Int) (w : World) (h : IsRd w b (.slice a n m) p c q) (hz : Bs w a n z) (h0 : 0 ≤ p) (h1 : p ≤ n) (hm : n ≤ m) (hn : n ≤ 1000000) (hf : 0 ≤ f) :
    Calls Tryz.prog 130 #[.pointer (some ⟨b, 0, none⟩), .int .i64 f] w fun e w' => ∃ A k m', e = .returned (.slice A k m') ∧ Below w.heap.size w w' ∧ Bs w' A k (piece z f.toNat p.toNat) := by
  refine (since_any b a n m z p c q f w h hz h0 h1 hm hn).mono ?_
  rintro e w' ⟨hb, ⟨_, hfp, g, rfl, _, hblk⟩ | ⟨hor, rfl⟩⟩
  · have := Bs.of_block hblk
    rw [length_piece hz.1 (by omega)] at this
    exact ⟨_, _, _, rfl, hb, this⟩
  · refine ⟨none, 0, 0, rfl, hb, ?_⟩
    rw [piece_back (by omega)]
    exact Bs.none _
def KrdPost (b : Nat) (s : Value) (k : Nat) (g : Rs (List Int)) (p c q : Int) (w : World) (e : Ending) (w' : World) : Prop :=
  ∃ v l p' c' q', e = .returned v ∧ Own w' w.heap.size v l ∧ (∀ x ∈ l, 0 ≤ x ∧ x < 256) ∧ l.length ≤ 10000 ∧ Kp b w w' ∧ IsRd w' b s p' c' q' ∧ St [] k g p c q l p' c' q'
set_option maxHeartbeats 8000000 in
theorem kread_strict (b : Nat) (a : Option Addr) (k m : Nat) (z : List Int) (p c q most : Int) (w : World) (h : IsRd w b (.slice a k m) p c q) (hz : Bs w a k z) (h0 : 0 ≤ p) (h1 : p ≤ k) (hm : k ≤ m) (hk : k ≤ 100000) (hby : ∀ x ∈ z, 0 ≤ x ∧ x < 256) (hmo : most ≤ 1048576) (hfw : c = 0 → Few z most p) (hq : c = 0 → q = 0) :
    Calls Tryz.prog 94 #[.pointer (some ⟨b, 0, none⟩), .int .i64 most, .func (.func 92) #[.pointer (some ⟨b, 0, none⟩)] #[]] w (KrdPost b (.slice a k m) k (bks z most p) p c q w) := by
  have hzl := hz.1
  have HZ := Lib.hid hz
  have HBY := Lib.hid hby
  have HQ := Lib.hid hq
  have HFW := Lib.hid hfw
  have emin : min most 1048576 = most := by omega
  have hI := vint_any b a k m z p c q most w h hz h0 h1 (by omega) hby (by omega)
  unfold IntPost at hI
  have HH := Lib.hid h
  clear hz hby hq h hfw
  go_enter Tryz.func94, Tryz.ntmps94
  go_wp2_with fail
  refine (at_any _ _ _ _ _ _ HH.out).mono ?_
  rintro e w0 ⟨rfl, rfl⟩
  go_wp2_with fail
  with_reducible refine hI.mono ?_
  rintro e w1 ⟨n, p1, c1, q1, rfl, hk1, hr1, hi1⟩
  have hs1 := hi1.st HZ.out.1 h0 h1 HBY.out
  obtain ⟨p10, p11⟩ := hs1.place
  have hnb := vm_bd hs1 HBY.out
  have hnf : n ≤ 10000 := by
    by_cases hc : c = 0
    · exact hs1.val (P := fun n => n ≤ 10000) (by decide) (HFW.out hc)
    · rw [(hs1.bad hc).1]; decide
  have hz1 : Bs w1 a k z := HZ.out.kp HH.out (by simp) hk1
  rw [← emin] at hs1
  rw [emin] at hs1
  have HS1 := Lib.hid hs1
  have hn2 : 0 ≤ n ∧ n ≤ 10000 := by omega
  clear hI hi1 hs1 hnb hnf
  go_wp2_with fail
  refine (at_any _ _ _ _ _ _ hr1).mono ?_
  rintro e w2 ⟨rfl, rfl⟩
  have hB := byte_any b a k m z p1 c1 q1 w1 hr1 hz1 p10 p11 (by omega)
  unfold BytePost at hB
  go_wp2_with fail
  with_reducible refine hB.mono ?_
  rintro e w2 ⟨ok, p2, c2, q2, hk2, hr2, hsk, rfl⟩
  have hs2 := hsk.st HZ.out.1 p10 p11
  obtain ⟨wy, hwy⟩ : ∃ wy, wy = (if ok = true then piece z p1.toNat (p1 + 1).toNat else []) := ⟨_, rfl⟩
  rw [← hwy] at hs2
  obtain ⟨x, hx⟩ : ∃ x, x = (if ok = true then z.getD p1.toNat 0 else 0) := ⟨_, rfl⟩
  have hxw : wy.getD 0 0 = x := by
    rw [hwy, hx]
    cases ok
    · rfl
    · rw [if_pos rfl, if_pos rfl, piece_head z p1 p10]
  have hxb : 0 ≤ x ∧ x < 256 := by
    rw [hx]
    cases ok
    · rw [if_neg (by decide)]; omega
    · rw [if_pos rfl, List.getD_eq_getElem?_getD]
      cases hg : z[p1.toNat]? with
      | none => simp
      | some y => exact HBY.out y (List.mem_of_getElem? hg)
  rw [← hx]
  obtain ⟨p20, p21⟩ := hs2.place
  have hz2 : Bs w2 a k z := hz1.kp hr1 (by simp) hk2
  have HS2 := Lib.hid hs2
  have HXW := Lib.hid hxw
  have HK12 := Lib.hid (hk1.trans hk2)
  have HQ2 := Lib.hid (fun e : c2 = 0 => (show q2 = 0 from by
    subst e
    obtain ⟨e1, _, _, _, e2⟩ := hs2.good
    subst e1
    obtain ⟨e3, _, _, _, e4⟩ := HS1.out.good
    rw [e2, e4]
    exact HQ.out e3))
  clear hB hsk hwy hx hxw hk1 hk2 hr1 hz1 hs2
  by_cases hx1 : 1 < x
  · go_wp2_with fail
    with_reducible refine (fail_any b _ p2 c2 q2 7 p1 _ hr2).mono ?_
    rintro e w3 ⟨c3, q3, rfl, hk3, hr3, hf3⟩
    have hz3 : Bs w3 a k z := hz2.kp hr2 (by simp) hk3
    have HK3 := Lib.hid (HK12.out.trans hk3)
    have H3 : Hid (By3 wy c2 q2 p1 c3 q3) := Lib.hid (.inl ⟨by rw [HXW.out]; exact hx1, hf3⟩)
    have hq3 : c3 = 0 → q3 = 0 := fun e => by
      rcases hf3 with ⟨_, e3, _⟩ | ⟨h, e3, _⟩
      · omega
      · exact absurd (e3.symm.trans e) h
    clear hf3 hk3 hr2 hz2 hx1
    have hC := kcontent_any b a k m z p2 c3 q3 x n w3 hr3 hz3 p20 p21 hm hk HBY.out hxb hn2 hq3
    unfold KcPost at hC
    go_wp2_with fail
    with_reducible refine hC.mono ?_
    rintro e w4 ⟨v4, l, l', p4, c4, q4, rfl, ho4, hlb, hll, hk4, hr4, hs4, hl4⟩
    rw [← HXW.out] at hs4
    have hbk := bk_st (most := most) (by rw [emin]; exact HS1.out) HS2.out H3.out hs4
    obtain ⟨p40, p41⟩ := hs4.place
    have hz4 : Bs w4 a k z := hz3.kp hr3 (by simp) hk4
    have HK4 := Lib.hid (HK3.out.trans hk4)
    obtain ⟨Av, cv, rfl, hbv, hnv, hcv⟩ := ho4.parts
    have HBK := Lib.hid hbk
    have HLB := Lib.hid hlb
    have HL4 := Lib.hid hl4
    have HV := Lib.hid hbv
    have HNV := Lib.hid hnv
    have HO4 := Lib.hid (own_base0 ho4 HK3.out.size)
    obtain ⟨ll, hll2⟩ : ∃ ll, ll = l.length := ⟨_, rfl⟩
    rw [← hll2] at hcv hll ⊢
    have HLL := Lib.hid hll2
    clear hC hs4 hk4 hbk hlb hl4 hbv hnv ho4 hr3 hz3 hll2
    go_wp2_with fail
    refine (good_any _ _ _ _ _ _ hr4).mono ?_
    rintro e w5 ⟨rfl, hb5⟩
    have hr5 := hr4.below hb5
    have hz5 := hz4.below hb5
    have HV5 := Lib.hid (HV.out.below hb5)
    have HK5 := Lib.hid (HK4.out.trans (Kp.of_below hb5))
    have HO5 := Lib.hid (own_below HO4.out hb5)
    clear hr4 hz4 hb5
    by_cases hc4 : c4 = 0
    · subst hc4
      obtain rfl := HL4.out rfl
      go_wp2_with fail
      with_reducible refine (since_st b a k m z p4 0 q4 p _ hr5 hz5 p40 p41 hm (by omega) h0).mono ?_
      rintro e w6 ⟨A6, k6, m6, rfl, hb6, hs6⟩
      have hr6 := hr5.below hb6
      have HK6 := Lib.hid (HK5.out.trans (Kp.of_below hb6))
      have HO6 := Lib.hid (own_below HO5.out hb6)
      have hW := kisown_any A6 Av k6 m6 ll cv (y := piece z p.toNat p4.toNat) hs6 (by rw [HLL.out]; exact HV5.out.below hb6) HNV.out (piece_byte HBY.out _ _) HLB.out hcv (by omega)
      unfold BPost at hW
      clear hr5 hz5 hb6 hs6
      by_cases hr : piece z p.toNat p4.toNat = bkb l'
      · rw [decide_eq_true hr] at hW
        have HR := Lib.hid hr
        clear hr
        go_wp2_with fail
        with_reducible refine hW.mono ?_
        rintro e w7 ⟨rfl, hb7⟩
        have hr7 := hr6.below hb7
        have HK7 := Lib.hid (HK6.out.trans (Kp.of_below hb7))
        have HO7 := Lib.hid (own_below HO6.out hb7)
        clear hW hr6 hb7
        go_wp2_with fail
        refine (good_any _ _ _ _ _ _ hr7).mono ?_
        rintro e w8 ⟨rfl, hb8⟩
        have HK8 := Lib.hid (HK7.out.trans (Kp.of_below hb8))
        have HO8 := Lib.hid (own_below HO7.out hb8)
        have HR8 := Lib.hid (hr7.below hb8)
        clear hr7 hb8
        go_wp2
        go_ret
        exact ⟨_, l', p4, 0, q4, rfl, by show Own _ w.heap.size (.slice Av ll cv) l'; rw [HLL.out]; exact HO8.out, HLB.out, by rw [← HLL.out]; exact hll, HK8.out, HR8.out, by unfold bks; exact HBK.out.bind (St.done (by rw [if_pos HR.out]) p40 p41)⟩
      · rw [decide_eq_false hr] at hW
        have HR := Lib.hid hr
        clear hr
        go_wp2_with fail
        with_reducible refine hW.mono ?_
        rintro e w7 ⟨rfl, hb7⟩
        have hr7 := hr6.below hb7
        have HK7 := Lib.hid (HK6.out.trans (Kp.of_below hb7))
        have HO7 := Lib.hid (own_below HO6.out hb7)
        clear hW hr6 hb7
        go_wp2_with fail
        refine (at_any _ _ _ _ _ _ hr7).mono ?_
        rintro e w8 ⟨rfl, rfl⟩
        go_wp2_with fail
        with_reducible refine (fail_any b _ p4 0 q4 12 p4 _ hr7).mono ?_
        rintro e w9 ⟨c9, q9, rfl, hk9, hr9, hf9⟩
        have hc9 : c9 = 12 ∧ q9 = p4 := by
          rcases hf9 with ⟨_, e1, e2⟩ | ⟨h, _⟩
          · exact ⟨e1, by rw [e2]; rfl⟩
          · exact absurd rfl h
        obtain ⟨rfl, rfl⟩ := hc9
        go_wp2_with fail
        refine (good_any _ _ _ _ _ _ hr9).mono ?_
        rintro e w10 ⟨rfl, hb10⟩
        have HK10 := Lib.hid ((HK7.out.trans hk9).trans (Kp.of_below hb10))
        have HR10 := Lib.hid (hr9.below hb10)
        clear hr7 hk9 hr9 hf9 hb10
        go_wp2
        go_ret
        exact ⟨_, [], q9, 12, q9, rfl, Own.nil _ _, fun x h => absurd h (by simp), by simp, HK10.out, HR10.out, by unfold bks; exact HBK.out.bind (St.fault (x := []) (y := 0) (by rw [if_neg HR.out]) (by decide) p40 p41)⟩
    · have hcb : (c4 == 0) = false := by simpa using hc4
      have HC4 := Lib.hid hc4
      clear hz5 hc4
      go_wp2_with fail
      refine (good_any _ _ _ _ _ _ hr5).mono ?_
      rintro e w8 ⟨rfl, hb8⟩
      rw [hcb]
      have HK8 := Lib.hid (HK5.out.trans (Kp.of_below hb8))
      have HR8 := Lib.hid (hr5.below hb8)
      clear hr5 hb8
      go_wp2
      go_ret
      exact ⟨_, [], p4, c4, q4, rfl, Own.nil _ _, fun x h => absurd h (by simp), by simp, HK8.out, HR8.out, by unfold bks; rw [HBK.out.nil HC4.out] at HBK; exact HBK.out.bind (St.stay p40 p41 HC4.out)⟩
  · have hr3 := hr2
    have hz3 := hz2
    have HK3 := HK12
    have H3 : Hid (By3 wy c2 q2 p1 c2 q2) := Lib.hid (.inr ⟨by rw [HXW.out]; exact hx1, rfl, rfl⟩)
    have hq3 := HQ2.out
    clear hr2 hz2
    have hC := kcontent_any b a k m z p2 c2 q2 x n w2 hr3 hz3 p20 p21 hm hk HBY.out hxb hn2 hq3
    unfold KcPost at hC
    go_wp2_with fail
    with_reducible refine hC.mono ?_
    rintro e w4 ⟨v4, l, l', p4, c4, q4, rfl, ho4, hlb, hll, hk4, hr4, hs4, hl4⟩
    rw [← HXW.out] at hs4
    have hbk := bk_st (most := most) (by rw [emin]; exact HS1.out) HS2.out H3.out hs4
    obtain ⟨p40, p41⟩ := hs4.place
    have hz4 : Bs w4 a k z := hz3.kp hr3 (by simp) hk4
    have HK4 := Lib.hid (HK3.out.trans hk4)
    obtain ⟨Av, cv, rfl, hbv, hnv, hcv⟩ := ho4.parts
    have HBK := Lib.hid hbk
    have HLB := Lib.hid hlb
    have HL4 := Lib.hid hl4
    have HV := Lib.hid hbv
    have HNV := Lib.hid hnv
    have HO4 := Lib.hid (own_base0 ho4 HK3.out.size)
    obtain ⟨ll, hll2⟩ : ∃ ll, ll = l.length := ⟨_, rfl⟩
    rw [← hll2] at hcv hll ⊢
    have HLL := Lib.hid hll2
    clear hC hs4 hk4 hbk hlb hl4 hbv hnv ho4 hr3 hz3 hll2
    go_wp2_with fail
    refine (good_any _ _ _ _ _ _ hr4).mono ?_
    rintro e w5 ⟨rfl, hb5⟩
    have hr5 := hr4.below hb5
    have hz5 := hz4.below hb5
    have HV5 := Lib.hid (HV.out.below hb5)
    have HK5 := Lib.hid (HK4.out.trans (Kp.of_below hb5))
    have HO5 := Lib.hid (own_below HO4.out hb5)
    clear hr4 hz4 hb5
    by_cases hc4 : c4 = 0
    · subst hc4
      obtain rfl := HL4.out rfl
      go_wp2_with fail
      with_reducible refine (since_st b a k m z p4 0 q4 p _ hr5 hz5 p40 p41 hm (by omega) h0).mono ?_
      rintro e w6 ⟨A6, k6, m6, rfl, hb6, hs6⟩
      have hr6 := hr5.below hb6
      have HK6 := Lib.hid (HK5.out.trans (Kp.of_below hb6))
      have HO6 := Lib.hid (own_below HO5.out hb6)
      have hW := kisown_any A6 Av k6 m6 ll cv (y := piece z p.toNat p4.toNat) hs6 (by rw [HLL.out]; exact HV5.out.below hb6) HNV.out (piece_byte HBY.out _ _) HLB.out hcv (by omega)
      unfold BPost at hW
      clear hr5 hz5 hb6 hs6
      by_cases hr : piece z p.toNat p4.toNat = bkb l'
      · rw [decide_eq_true hr] at hW
        have HR := Lib.hid hr
        clear hr
        go_wp2_with fail
        with_reducible refine hW.mono ?_
        rintro e w7 ⟨rfl, hb7⟩
        have hr7 := hr6.below hb7
        have HK7 := Lib.hid (HK6.out.trans (Kp.of_below hb7))
        have HO7 := Lib.hid (own_below HO6.out hb7)
        clear hW hr6 hb7
        go_wp2_with fail
        refine (good_any _ _ _ _ _ _ hr7).mono ?_
        rintro e w8 ⟨rfl, hb8⟩
        have HK8 := Lib.hid (HK7.out.trans (Kp.of_below hb8))
        have HO8 := Lib.hid (own_below HO7.out hb8)
        have HR8 := Lib.hid (hr7.below hb8)
        clear hr7 hb8
        go_wp2
        go_ret
        exact ⟨_, l', p4, 0, q4, rfl, by show Own _ w.heap.size (.slice Av ll cv) l'; rw [HLL.out]; exact HO8.out, HLB.out, by rw [← HLL.out]; exact hll, HK8.out, HR8.out, by unfold bks; exact HBK.out.bind (St.done (by rw [if_pos HR.out]) p40 p41)⟩
      · rw [decide_eq_false hr] at hW
        have HR := Lib.hid hr
        clear hr
        go_wp2_with fail
        with_reducible refine hW.mono ?_
        rintro e w7 ⟨rfl, hb7⟩
        have hr7 := hr6.below hb7
        have HK7 := Lib.hid (HK6.out.trans (Kp.of_below hb7))
        have HO7 := Lib.hid (own_below HO6.out hb7)
        clear hW hr6 hb7
        go_wp2_with fail
        refine (at_any _ _ _ _ _ _ hr7).mono ?_
        rintro e w8 ⟨rfl, rfl⟩
        go_wp2_with fail
        with_reducible refine (fail_any b _ p4 0 q4 12 p4 _ hr7).mono ?_
        rintro e w9 ⟨c9, q9, rfl, hk9, hr9, hf9⟩
        have hc9 : c9 = 12 ∧ q9 = p4 := by
          rcases hf9 with ⟨_, e1, e2⟩ | ⟨h, _⟩
          · exact ⟨e1, by rw [e2]; rfl⟩
          · exact absurd rfl h
        obtain ⟨rfl, rfl⟩ := hc9
        go_wp2_with fail
        refine (good_any _ _ _ _ _ _ hr9).mono ?_
        rintro e w10 ⟨rfl, hb10⟩
        have HK10 := Lib.hid ((HK7.out.trans hk9).trans (Kp.of_below hb10))
        have HR10 := Lib.hid (hr9.below hb10)
        clear hr7 hk9 hr9 hf9 hb10
        go_wp2
        go_ret
        exact ⟨_, [], q9, 12, q9, rfl, Own.nil _ _, fun x h => absurd h (by simp), by simp, HK10.out, HR10.out, by unfold bks; exact HBK.out.bind (St.fault (x := []) (y := 0) (by rw [if_neg HR.out]) (by decide) p40 p41)⟩
    · have hcb : (c4 == 0) = false := by simpa using hc4
      have HC4 := Lib.hid hc4
      clear hz5 hc4
      go_wp2_with fail
      refine (good_any _ _ _ _ _ _ hr5).mono ?_
      rintro e w8 ⟨rfl, hb8⟩
      rw [hcb]
      have HK8 := Lib.hid (HK5.out.trans (Kp.of_below hb8))
      have HR8 := Lib.hid (hr5.below hb8)
      clear hr5 hb8
      go_wp2
      go_ret
      exact ⟨_, [], p4, c4, q4, rfl, Own.nil _ _, fun x h => absurd h (by simp), by simp, HK8.out, HR8.out, by unfold bks; rw [HBK.out.nil HC4.out] at HBK; exact HBK.out.bind (St.stay p40 p41 HC4.out)⟩
theorem krefuse_any (nb : Nat) (x y : Int) (f : Bool) (w : World) (h : Blk w nb #[.bool f] 120) :
    Calls Tryz.prog 95 #[.pointer (some ⟨nb, 0, none⟩), .int .i64 x, .int .i64 y] w fun e w' => e = .returned (.tuple #[]) ∧ w' = w.setCell ⟨nb, 0, none⟩ (.bool true) := by
  have c0 := h.c1
  have f0 := h.free 0
  clear h
  go_enter Tryz.func95, Tryz.ntmps95
  go_wp2
  go_end0
  exact ⟨rfl, rfl⟩
def KrlPost (b nb : Nat) (s : Value) (k : Nat) (z : List Int) (most p c q : Int) (w : World) (e : Ending) (w' : World) : Prop :=
  ∃ v l p' c' q' f, e = .returned v ∧ Own w' w.heap.size v l ∧ (∀ x ∈ l, 0 ≤ x ∧ x < 256) ∧ l.length ≤ 10000 ∧ Ks (fun j => j = b ∨ j = nb) w w' ∧ IsRd w' b s p' c' q' ∧ Blk w' nb #[.bool f] 120 ∧ St [] k (bk z most p) p c q l p' c' q' ∧ f = (decide (c' = 0) && !decide (piece z p.toNat p'.toNat = bkb l))
set_option maxHeartbeats 8000000 in
theorem kread_loose (b nb : Nat) (a : Option Addr) (k m : Nat) (z : List Int) (p c q most : Int) (w : World) (h : IsRd w b (.slice a k m) p c q) (hN : Blk w nb #[.bool false] 120) (hnb : nb ≠ b) (hz : Bs w a k z) (h0 : 0 ≤ p) (h1 : p ≤ k) (hm : k ≤ m) (hk : k ≤ 100000) (hby : ∀ x ∈ z, 0 ≤ x ∧ x < 256) (hmo : most ≤ 1048576) (hfw : c = 0 → Few z most p) (hq : c = 0 → q = 0) :
    Calls Tryz.prog 94 #[.pointer (some ⟨b, 0, none⟩), .int .i64 most, .func (.func 95) #[.pointer (some ⟨nb, 0, none⟩)] #[]] w (KrlPost b nb (.slice a k m) k z most p c q w) := by
  have HN := Lib.hid hN
  clear hN
  have hzl := hz.1
  have HZ := Lib.hid hz
  have HBY := Lib.hid hby
  have HQ := Lib.hid hq
  have HFW := Lib.hid hfw
  have emin : min most 1048576 = most := by omega
  have hI := vint_any b a k m z p c q most w h hz h0 h1 (by omega) hby (by omega)
  unfold IntPost at hI
  have HH := Lib.hid h
  clear hz hby hq h hfw
  go_enter Tryz.func94, Tryz.ntmps94
  go_wp2_with fail
  refine (at_any _ _ _ _ _ _ HH.out).mono ?_
  rintro e w0 ⟨rfl, rfl⟩
  go_wp2_with fail
  with_reducible refine hI.mono ?_
  rintro e w1 ⟨n, p1, c1, q1, rfl, hk1, hr1, hi1⟩
  have hs1 := hi1.st HZ.out.1 h0 h1 HBY.out
  obtain ⟨p10, p11⟩ := hs1.place
  have hnb := vm_bd hs1 HBY.out
  have hnf : n ≤ 10000 := by
    by_cases hc : c = 0
    · exact hs1.val (P := fun n => n ≤ 10000) (by decide) (HFW.out hc)
    · rw [(hs1.bad hc).1]; decide
  have hz1 : Bs w1 a k z := HZ.out.kp HH.out (by simp) hk1
  rw [← emin] at hs1
  rw [emin] at hs1
  have HS1 := Lib.hid hs1
  have hn2 : 0 ≤ n ∧ n ≤ 10000 := by omega
  clear hI hi1 hs1 hnb hnf
  go_wp2_with fail
  refine (at_any _ _ _ _ _ _ hr1).mono ?_
  rintro e w2 ⟨rfl, rfl⟩
  have hB := byte_any b a k m z p1 c1 q1 w1 hr1 hz1 p10 p11 (by omega)
  unfold BytePost at hB
  go_wp2_with fail
  with_reducible refine hB.mono ?_
  rintro e w2 ⟨ok, p2, c2, q2, hk2, hr2, hsk, rfl⟩
  have hs2 := hsk.st HZ.out.1 p10 p11
  obtain ⟨wy, hwy⟩ : ∃ wy, wy = (if ok = true then piece z p1.toNat (p1 + 1).toNat else []) := ⟨_, rfl⟩
  rw [← hwy] at hs2
  obtain ⟨x, hx⟩ : ∃ x, x = (if ok = true then z.getD p1.toNat 0 else 0) := ⟨_, rfl⟩
  have hxw : wy.getD 0 0 = x := by
    rw [hwy, hx]
    cases ok
    · rfl
    · rw [if_pos rfl, if_pos rfl, piece_head z p1 p10]
  have hxb : 0 ≤ x ∧ x < 256 := by
    rw [hx]
    cases ok
    · rw [if_neg (by decide)]; omega
    · rw [if_pos rfl, List.getD_eq_getElem?_getD]
      cases hg : z[p1.toNat]? with
      | none => simp
      | some y => exact HBY.out y (List.mem_of_getElem? hg)
  rw [← hx]
  obtain ⟨p20, p21⟩ := hs2.place
  have hz2 : Bs w2 a k z := hz1.kp hr1 (by simp) hk2
  have HS2 := Lib.hid hs2
  have HXW := Lib.hid hxw
  have HK12 := Lib.hid (hk1.trans hk2)
  have HQ2 := Lib.hid (fun e : c2 = 0 => (show q2 = 0 from by
    subst e
    obtain ⟨e1, _, _, _, e2⟩ := hs2.good
    subst e1
    obtain ⟨e3, _, _, _, e4⟩ := HS1.out.good
    rw [e2, e4]
    exact HQ.out e3))
  clear hB hsk hwy hx hxw hk1 hk2 hr1 hz1 hs2
  by_cases hx1 : 1 < x
  · go_wp2_with fail
    with_reducible refine (fail_any b _ p2 c2 q2 7 p1 _ hr2).mono ?_
    rintro e w3 ⟨c3, q3, rfl, hk3, hr3, hf3⟩
    have hz3 : Bs w3 a k z := hz2.kp hr2 (by simp) hk3
    have HK3 := Lib.hid (HK12.out.trans hk3)
    have H3 : Hid (By3 wy c2 q2 p1 c3 q3) := Lib.hid (.inl ⟨by rw [HXW.out]; exact hx1, hf3⟩)
    have hq3 : c3 = 0 → q3 = 0 := fun e => by
      rcases hf3 with ⟨_, e3, _⟩ | ⟨h, e3, _⟩
      · omega
      · exact absurd (e3.symm.trans e) h
    clear hf3 hk3 hr2 hz2 hx1
    have hC := kcontent_any b a k m z p2 c3 q3 x n w3 hr3 hz3 p20 p21 hm hk HBY.out hxb hn2 hq3
    unfold KcPost at hC
    go_wp2_with fail
    with_reducible refine hC.mono ?_
    rintro e w4 ⟨v4, l, l', p4, c4, q4, rfl, ho4, hlb, hll, hk4, hr4, hs4, hl4⟩
    rw [← HXW.out] at hs4
    have hbk := bk_st (most := most) (by rw [emin]; exact HS1.out) HS2.out H3.out hs4
    obtain ⟨p40, p41⟩ := hs4.place
    have hz4 : Bs w4 a k z := hz3.kp hr3 (by simp) hk4
    have HK4 := Lib.hid (HK3.out.trans hk4)
    obtain ⟨Av, cv, rfl, hbv, hnv, hcv⟩ := ho4.parts
    have HBK := Lib.hid hbk
    have HLB := Lib.hid hlb
    have HL4 := Lib.hid hl4
    have HV := Lib.hid hbv
    have HNV := Lib.hid hnv
    have HO4 := Lib.hid (own_base0 ho4 HK3.out.size)
    obtain ⟨ll, hll2⟩ : ∃ ll, ll = l.length := ⟨_, rfl⟩
    rw [← hll2] at hcv hll ⊢
    have HLL := Lib.hid hll2
    clear hC hs4 hk4 hbk hlb hl4 hbv hnv ho4 hr3 hz3 hll2
    go_wp2_with fail
    refine (good_any _ _ _ _ _ _ hr4).mono ?_
    rintro e w5 ⟨rfl, hb5⟩
    have hr5 := hr4.below hb5
    have hz5 := hz4.below hb5
    have HV5 := Lib.hid (HV.out.below hb5)
    have HK5 := Lib.hid (HK4.out.trans (Kp.of_below hb5))
    have HO5 := Lib.hid (own_below HO4.out hb5)
    clear hr4 hz4 hb5
    by_cases hc4 : c4 = 0
    · subst hc4
      obtain rfl := HL4.out rfl
      go_wp2_with fail
      with_reducible refine (since_st b a k m z p4 0 q4 p _ hr5 hz5 p40 p41 hm (by omega) h0).mono ?_
      rintro e w6 ⟨A6, k6, m6, rfl, hb6, hs6⟩
      have hr6 := hr5.below hb6
      have HK6 := Lib.hid (HK5.out.trans (Kp.of_below hb6))
      have HO6 := Lib.hid (own_below HO5.out hb6)
      have hW := kisown_any A6 Av k6 m6 ll cv (y := piece z p.toNat p4.toNat) hs6 (by rw [HLL.out]; exact HV5.out.below hb6) HNV.out (piece_byte HBY.out _ _) HLB.out hcv (by omega)
      unfold BPost at hW
      clear hr5 hz5 hb6 hs6
      by_cases hr : piece z p.toNat p4.toNat = bkb l'
      · rw [decide_eq_true hr] at hW
        have HR := Lib.hid hr
        clear hr
        go_wp2_with fail
        with_reducible refine hW.mono ?_
        rintro e w7 ⟨rfl, hb7⟩
        have hr7 := hr6.below hb7
        have HK7 := Lib.hid (HK6.out.trans (Kp.of_below hb7))
        have HO7 := Lib.hid (own_below HO6.out hb7)
        clear hW hr6 hb7
        go_wp2_with fail
        refine (good_any _ _ _ _ _ _ hr7).mono ?_
        rintro e w8 ⟨rfl, hb8⟩
        have HK8 := Lib.hid (HK7.out.trans (Kp.of_below hb8))
        have HO8 := Lib.hid (own_below HO7.out hb8)
        have HR8 := Lib.hid (hr7.below hb8)
        clear hr7 hb8
        go_wp2
        go_ret
        exact ⟨_, l', p4, 0, q4, false, rfl, by show Own _ w.heap.size (.slice Av ll cv) l'; rw [HLL.out]; exact HO8.out, HLB.out, by rw [← HLL.out]; exact hll, Ks.of_kp HK8.out (.inl rfl), HR8.out, blk_kp HN.out HK8.out hnb, HBK.out, by rw [decide_eq_true HR.out]; rfl⟩
      · rw [decide_eq_false hr] at hW
        have HR := Lib.hid hr
        clear hr
        go_wp2_with fail
        with_reducible refine hW.mono ?_
        rintro e w7 ⟨rfl, hb7⟩
        have hr7 := hr6.below hb7
        have HK7 := Lib.hid (HK6.out.trans (Kp.of_below hb7))
        have HO7 := Lib.hid (own_below HO6.out hb7)
        clear hW hr6 hb7
        go_wp2_with fail
        refine (at_any _ _ _ _ _ _ hr7).mono ?_
        rintro e w8 ⟨rfl, rfl⟩
        have hN7 := blk_kp HN.out HK7.out hnb
        go_wp2_with fail
        with_reducible refine (krefuse_any nb 12 p4 false _ hN7).mono ?_
        rintro e w9 ⟨rfl, hw9⟩
        have hr9 : IsRd w9 b (.slice a k m) p4 0 q4 := by rw [hw9]; exact hr7.kp (Kp.setCell _ nb 0 (.bool true)) hnb.symm
        have HN9 : Hid (Blk w9 nb #[.bool true] 120) := Lib.hid (by rw [hw9]; exact hN7.set 0 (.bool true))
        have HK9 : Hid (Ks (fun j => j = b ∨ j = nb) w w9) := Lib.hid (by rw [hw9]; exact (Ks.of_kp HK7.out (.inl rfl)).trans (Ks.setCell _ nb 0 (.bool true) (.inr rfl)))
        have HO9 : Hid (Own w9 w.heap.size (.slice Av l'.length cv) l') := Lib.hid (by rw [hw9]; exact own_kp HO7.out (Kp.setCell _ nb 0 (.bool true)) (own_ne_blk HO7.out hN7 (by decide)))
        clear hw9 hN7 hr7
        go_wp2_with fail
        refine (good_any _ _ _ _ _ _ hr9).mono ?_
        rintro e w10 ⟨rfl, hb10⟩
        have HK10 := Lib.hid (HK9.out.trans (Ks.of_below hb10))
        have HR10 := Lib.hid (hr9.below hb10)
        have HN10 := Lib.hid (HN9.out.below hb10)
        have HO10 := Lib.hid (own_below HO9.out hb10)
        clear hr9 hb10
        go_wp2
        go_ret
        exact ⟨_, l', p4, 0, q4, true, rfl, by show Own _ w.heap.size (.slice Av ll cv) l'; rw [HLL.out]; exact HO10.out, HLB.out, by rw [← HLL.out]; exact hll, HK10.out, HR10.out, HN10.out, HBK.out, by rw [decide_eq_false HR.out]; rfl⟩
    · have hcb : (c4 == 0) = false := by simpa using hc4
      have HC4 := Lib.hid hc4
      clear hz5 hc4
      go_wp2_with fail
      refine (good_any _ _ _ _ _ _ hr5).mono ?_
      rintro e w8 ⟨rfl, hb8⟩
      rw [hcb]
      have HK8 := Lib.hid (HK5.out.trans (Kp.of_below hb8))
      have HR8 := Lib.hid (hr5.below hb8)
      clear hr5 hb8
      go_wp2
      go_ret
      exact ⟨_, [], p4, c4, q4, false, rfl, Own.nil _ _, fun x h => absurd h (by simp), by simp, Ks.of_kp HK8.out (.inl rfl), HR8.out, blk_kp HN.out HK8.out hnb, by rw [HBK.out.nil HC4.out] at HBK; exact HBK.out, by rw [decide_eq_false HC4.out]; rfl⟩
  · have hr3 := hr2
    have hz3 := hz2
    have HK3 := HK12
    have H3 : Hid (By3 wy c2 q2 p1 c2 q2) := Lib.hid (.inr ⟨by rw [HXW.out]; exact hx1, rfl, rfl⟩)
    have hq3 := HQ2.out
    clear hr2 hz2
    have hC := kcontent_any b a k m z p2 c2 q2 x n w2 hr3 hz3 p20 p21 hm hk HBY.out hxb hn2 hq3
    unfold KcPost at hC
    go_wp2_with fail
    with_reducible refine hC.mono ?_
    rintro e w4 ⟨v4, l, l', p4, c4, q4, rfl, ho4, hlb, hll, hk4, hr4, hs4, hl4⟩
    rw [← HXW.out] at hs4
    have hbk := bk_st (most := most) (by rw [emin]; exact HS1.out) HS2.out H3.out hs4
    obtain ⟨p40, p41⟩ := hs4.place
    have hz4 : Bs w4 a k z := hz3.kp hr3 (by simp) hk4
    have HK4 := Lib.hid (HK3.out.trans hk4)
    obtain ⟨Av, cv, rfl, hbv, hnv, hcv⟩ := ho4.parts
    have HBK := Lib.hid hbk
    have HLB := Lib.hid hlb
    have HL4 := Lib.hid hl4
    have HV := Lib.hid hbv
    have HNV := Lib.hid hnv
    have HO4 := Lib.hid (own_base0 ho4 HK3.out.size)
    obtain ⟨ll, hll2⟩ : ∃ ll, ll = l.length := ⟨_, rfl⟩
    rw [← hll2] at hcv hll ⊢
    have HLL := Lib.hid hll2
    clear hC hs4 hk4 hbk hlb hl4 hbv hnv ho4 hr3 hz3 hll2
    go_wp2_with fail
    refine (good_any _ _ _ _ _ _ hr4).mono ?_
    rintro e w5 ⟨rfl, hb5⟩
    have hr5 := hr4.below hb5
    have hz5 := hz4.below hb5
    have HV5 := Lib.hid (HV.out.below hb5)
    have HK5 := Lib.hid (HK4.out.trans (Kp.of_below hb5))
    have HO5 := Lib.hid (own_below HO4.out hb5)
    clear hr4 hz4 hb5
    by_cases hc4 : c4 = 0
    · subst hc4
      obtain rfl := HL4.out rfl
      go_wp2_with fail
      with_reducible refine (since_st b a k m z p4 0 q4 p _ hr5 hz5 p40 p41 hm (by omega) h0).mono ?_
      rintro e w6 ⟨A6, k6, m6, rfl, hb6, hs6⟩
      have hr6 := hr5.below hb6
      have HK6 := Lib.hid (HK5.out.trans (Kp.of_below hb6))
      have HO6 := Lib.hid (own_below HO5.out hb6)
      have hW := kisown_any A6 Av k6 m6 ll cv (y := piece z p.toNat p4.toNat) hs6 (by rw [HLL.out]; exact HV5.out.below hb6) HNV.out (piece_byte HBY.out _ _) HLB.out hcv (by omega)
      unfold BPost at hW
      clear hr5 hz5 hb6 hs6
      by_cases hr : piece z p.toNat p4.toNat = bkb l'
      · rw [decide_eq_true hr] at hW
        have HR := Lib.hid hr
        clear hr
        go_wp2_with fail
        with_reducible refine hW.mono ?_
        rintro e w7 ⟨rfl, hb7⟩
        have hr7 := hr6.below hb7
        have HK7 := Lib.hid (HK6.out.trans (Kp.of_below hb7))
        have HO7 := Lib.hid (own_below HO6.out hb7)
        clear hW hr6 hb7
        go_wp2_with fail
        refine (good_any _ _ _ _ _ _ hr7).mono ?_
        rintro e w8 ⟨rfl, hb8⟩
        have HK8 := Lib.hid (HK7.out.trans (Kp.of_below hb8))
        have HO8 := Lib.hid (own_below HO7.out hb8)
        have HR8 := Lib.hid (hr7.below hb8)
        clear hr7 hb8
        go_wp2
        go_ret
        exact ⟨_, l', p4, 0, q4, false, rfl, by show Own _ w.heap.size (.slice Av ll cv) l'; rw [HLL.out]; exact HO8.out, HLB.out, by rw [← HLL.out]; exact hll, Ks.of_kp HK8.out (.inl rfl), HR8.out, blk_kp HN.out HK8.out hnb, HBK.out, by rw [decide_eq_true HR.out]; rfl⟩
      · rw [decide_eq_false hr] at hW
        have HR := Lib.hid hr
        clear hr
        go_wp2_with fail
        with_reducible refine hW.mono ?_
        rintro e w7 ⟨rfl, hb7⟩
        have hr7 := hr6.below hb7
        have HK7 := Lib.hid (HK6.out.trans (Kp.of_below hb7))
        have HO7 := Lib.hid (own_below HO6.out hb7)
        clear hW hr6 hb7
        go_wp2_with fail
        refine (at_any _ _ _ _ _ _ hr7).mono ?_
        rintro e w8 ⟨rfl, rfl⟩
        have hN7 := blk_kp HN.out HK7.out hnb
        go_wp2_with fail
        with_reducible refine (krefuse_any nb 12 p4 false _ hN7).mono ?_
        rintro e w9 ⟨rfl, hw9⟩
        have hr9 : IsRd w9 b (.slice a k m) p4 0 q4 := by rw [hw9]; exact hr7.kp (Kp.setCell _ nb 0 (.bool true)) hnb.symm
        have HN9 : Hid (Blk w9 nb #[.bool true] 120) := Lib.hid (by rw [hw9]; exact hN7.set 0 (.bool true))
        have HK9 : Hid (Ks (fun j => j = b ∨ j = nb) w w9) := Lib.hid (by rw [hw9]; exact (Ks.of_kp HK7.out (.inl rfl)).trans (Ks.setCell _ nb 0 (.bool true) (.inr rfl)))
        have HO9 : Hid (Own w9 w.heap.size (.slice Av l'.length cv) l') := Lib.hid (by rw [hw9]; exact own_kp HO7.out (Kp.setCell _ nb 0 (.bool true)) (own_ne_blk HO7.out hN7 (by decide)))
        clear hw9 hN7 hr7
        go_wp2_with fail
        refine (good_any _ _ _ _ _ _ hr9).mono ?_
        rintro e w10 ⟨rfl, hb10⟩
        have HK10 := Lib.hid (HK9.out.trans (Ks.of_below hb10))
        have HR10 := Lib.hid (hr9.below hb10)
        have HN10 := Lib.hid (HN9.out.below hb10)
        have HO10 := Lib.hid (own_below HO9.out hb10)
        clear hr9 hb10
        go_wp2
        go_ret
        exact ⟨_, l', p4, 0, q4, true, rfl, by show Own _ w.heap.size (.slice Av ll cv) l'; rw [HLL.out]; exact HO10.out, HLB.out, by rw [← HLL.out]; exact hll, HK10.out, HR10.out, HN10.out, HBK.out, by rw [decide_eq_false HR.out]; rfl⟩
    · have hcb : (c4 == 0) = false := by simpa using hc4
      have HC4 := Lib.hid hc4
      clear hz5 hc4
      go_wp2_with fail
      refine (good_any _ _ _ _ _ _ hr5).mono ?_
      rintro e w8 ⟨rfl, hb8⟩
      rw [hcb]
      have HK8 := Lib.hid (HK5.out.trans (Kp.of_below hb8))
      have HR8 := Lib.hid (hr5.below hb8)
      clear hr5 hb8
      go_wp2
      go_ret
      exact ⟨_, [], p4, c4, q4, false, rfl, Own.nil _ _, fun x h => absurd h (by simp), by simp, Ks.of_kp HK8.out (.inl rfl), HR8.out, blk_kp HN.out HK8.out hnb, by rw [HBK.out.nil HC4.out] at HBK; exact HBK.out, by rw [decide_eq_false HC4.out]; rfl⟩
end Go.Proofs.YtlealkfkddhnnaaGreat.Cur
namespace Go.Proofs.YtlealkfkddhnnaaGreat.Cur
open Go.RowKit Go.Shelf Mem
attribute [local go_sem] Oper.semAt_some
set_option linter.unusedVariables false
set_option maxRecDepth 100000
theorem kRead_any (b : Nat) (a : Option Addr) (k m : Nat) (z : List Int) (p c q most : Int) (w : World) (h : IsRd w b (.slice a k m) p c q) (hz : Bs w a k z) (h0 : 0 ≤ p) (h1 : p ≤ k) (hm : k ≤ m) (hk : k ≤ 100000) (hby : ∀ x ∈ z, 0 ≤ x ∧ x < 256) (hmo : most ≤ 1048576) (hfw : c = 0 → Few z most p) (hq : c = 0 → q = 0) :
    Calls Tryz.prog 86 #[.pointer (some ⟨b, 0, none⟩), .int .i64 most] w (KrdPost b (.slice a k m) k (bks z most p) p c q w) := by
  have hR := kread_strict b a k m z p c q most w h hz h0 h1 hm hk hby hmo hfw hq
  unfold KrdPost at hR
  clear h hz hby hq hfw
  go_enter Tryz.func86, Tryz.ntmps86
  go_wp2_with fail
  with_reducible refine hR.mono ?_
  rintro e w1 ⟨v, l, p', c', q', rfl, ho, hb⟩
  obtain ⟨Av, cv, rfl⟩ := ho.slice
  have HO := Lib.hid (And.intro ho hb)
  clear hR ho hb
  go_wp2
  go_ret
  exact ⟨_, l, p', c', q', rfl, HO.out⟩
def KRlPost (b : Nat) (s : Value) (k : Nat) (z : List Int) (most p c q : Int) (w : World) (e : Ending) (w' : World) : Prop :=
  ∃ v l p' c' q', e = .returned (.tuple #[v, .bool (decide (c' = 0) && decide (piece z p.toNat p'.toNat = bkb l))]) ∧ Own w' w.heap.size v l ∧ (∀ x ∈ l, 0 ≤ x ∧ x < 256) ∧ l.length ≤ 10000 ∧ Kp b w w' ∧ IsRd w' b s p' c' q' ∧ St [] k (bk z most p) p c q l p' c' q'
set_option maxHeartbeats 4000000 in
theorem kReadLoose_any (b : Nat) (a : Option Addr) (k m : Nat) (z : List Int) (p c q most : Int) (w : World) (h : IsRd w b (.slice a k m) p c q) (hz : Bs w a k z) (h0 : 0 ≤ p) (h1 : p ≤ k) (hm : k ≤ m) (hk : k ≤ 100000) (hby : ∀ x ∈ z, 0 ≤ x ∧ x < 256) (hmo : most ≤ 1048576) (hfw : c = 0 → Few z most p) (hq : c = 0 → q = 0) :
    Calls Tryz.prog 55 #[.pointer (some ⟨b, 0, none⟩), .int .i64 most] w (KRlPost b (.slice a k m) k z most p c q w) := by
  have hbN := below_one w (.cells #[.bool false] 120)
  have hbl : b < w.heap.size := Blk.lt h
  have hR := kread_loose b w.heap.size a k m z p c q most (w.alloc (.cells #[.bool false] 120)) (h.below hbN) (Blk.new w #[.bool false] 120) (by omega) (hz.below hbN) h0 h1 hm hk hby hmo hfw hq
  unfold KrlPost at hR
  have HBN := Lib.hid hbN
  clear h hz hby hq hbN hfw
  go_enter Tryz.func55, Tryz.ntmps55
  go_wp2_with fail
  with_reducible refine hR.mono ?_
  rintro e w1 ⟨v, l, p', c', q', f, rfl, ho, hlb, hll, hk1, hr1, hn1, hs1, hf⟩
  obtain ⟨Av, cv, rfl⟩ := ho.slice
  have HO := Lib.hid (own_base0 ho HBN.out.size)
  have HS := Lib.hid hs1
  have HF := Lib.hid hf
  have HLB := Lib.hid hlb
  have hkb : Kp b w w1 := by
    have h1 := HBN.out
    refine ⟨hk1.os.trans h1.os, hk1.tape.trans h1.tape, hk1.output.trans h1.output, Nat.le_trans h1.size hk1.size, fun j hj hne => ?_⟩
    exact (hk1.block j (Nat.lt_of_lt_of_le hj h1.size) (by rintro (e | e) <;> omega)).trans (h1.block j hj)
  have HKB := Lib.hid hkb
  obtain ⟨ll, hll2⟩ : ∃ ll, ll = l.length := ⟨_, rfl⟩
  rw [← hll2] at hll ⊢
  have HLL := Lib.hid hll2
  have hS : Blk w1.drew w.heap.size #[.bool f] 120 ∧ True := ⟨hn1, trivial⟩
  have L : ∀ w', (Blk w' w.heap.size #[.bool f] 120 ∧ True) → w'.cell? ⟨w.heap.size, 0, none⟩ = some (.bool f) := fun w' h => h.1.c1
  have HR1 := Lib.hid (hr1.drewN 1)
  clear hR ho hlb hk1 hr1 hn1 hs1 hf hkb hll2
  by_cases hc : c' = 0
  · subst hc
    have HFR : Hid (Value.bool (!f) = Value.bool (decide ((0 : Int) = 0) && decide (piece z p.toNat p'.toNat = bkb l))) := Lib.hid (by
      rw [HF.out]
      cases decide (piece z p.toNat p'.toNat = bkb l) <;> rfl)
    go_wp2_with fail
    refine Seq.wp_region_seq (fun w' => Blk w' w.heap.size #[.bool f] 120 ∧ True) (by kernel_rfl) (by kernel_rfl) hS ?_
    repeat (first | (refine Seq.Seq.skip (by rfl) ?_; (try simp only [Act.put, List.setIfInBounds_toArray, List.set_cons_zero, List.set_cons_succ])) | (refine Seq.Seq.det ?_ (by rfl) (fun w hS => ?_) ?_; rotate_left; ((try dsimp only at hS); go_simp; (try rw [if_pos (by omega)]); with_reducible rfl); (try simp only [Act.put, List.setIfInBounds_toArray, List.set_cons_zero, List.set_cons_succ])))
    refine Seq.Seq.make (by rfl) (by rfl) (fun K Q' hK => ?_)
    go_simp
    go_at_call 93
    refine (good_any _ _ _ _ _ _ HR1.out).mono ?_
    rintro e w2 ⟨rfl, hb2⟩
    have hS2 : Blk w2 w.heap.size #[.bool f] 120 ∧ True := ⟨hS.1.below hb2, trivial⟩
    have HB2 := Lib.hid ((below_one' w1).trans (hb2.mono (below_one' w1).size))
    have HR2 := Lib.hid (HR1.out.below hb2)
    clear hb2
    refine hK.out _ _ (hS2) ?_
    clear hK K
    try simp only [Act.put, List.setIfInBounds_toArray, List.set_cons_zero, List.set_cons_succ]
    repeat (first | (refine Seq.Seq.skip (by rfl) ?_; (try simp only [Act.put, List.setIfInBounds_toArray, List.set_cons_zero, List.set_cons_succ])) | (refine Seq.Seq.det ?_ (by rfl) (fun w hS => ?_) ?_; rotate_left; ((try dsimp only at hS); go_simp; (try rw [if_pos (by omega)]); with_reducible rfl); (try simp only [Act.put, List.setIfInBounds_toArray, List.set_cons_zero, List.set_cons_succ])))
    refine Seq.Seq.nil ?_
    clear L hS hS2
    go_wp2
    go_ret2
    refine ⟨.slice Av ll cv, l, p', 0, q', ?_, by rw [HLL.out]; exact own_below HO.out HB2.out, HLB.out, by rw [← HLL.out]; exact hll, HKB.out.trans (Kp.of_below HB2.out), HR2.out, HS.out⟩
    show Ending.returned (.tuple #[.slice Av ll cv, .bool (!f)]) = _
    exact congrArg (fun u => Ending.returned (.tuple #[.slice Av ll cv, u])) HFR.out
  · have hcb : (c' == 0) = false := by simpa using hc
    have HFR : Hid (Value.bool false = Value.bool (decide (c' = 0) && decide (piece z p.toNat p'.toNat = bkb l))) := Lib.hid (by rw [decide_eq_false hc]; rfl)
    clear hc
    go_wp2_with fail
    refine Seq.wp_region_seq (fun w' => Blk w' w.heap.size #[.bool f] 120 ∧ True) (by kernel_rfl) (by kernel_rfl) hS ?_
    repeat (first | (refine Seq.Seq.skip (by rfl) ?_; (try simp only [Act.put, List.setIfInBounds_toArray, List.set_cons_zero, List.set_cons_succ])) | (refine Seq.Seq.det ?_ (by rfl) (fun w hS => ?_) ?_; rotate_left; ((try dsimp only at hS); go_simp; (try rw [if_pos (by omega)]); with_reducible rfl); (try simp only [Act.put, List.setIfInBounds_toArray, List.set_cons_zero, List.set_cons_succ])))
    refine Seq.Seq.make (by rfl) (by rfl) (fun K Q' hK => ?_)
    go_simp
    go_at_call 93
    refine (good_any _ _ _ _ _ _ HR1.out).mono ?_
    rintro e w2 ⟨rfl, hb2⟩
    rw [hcb]
    have hS2 : Blk w2 w.heap.size #[.bool f] 120 ∧ True := ⟨hS.1.below hb2, trivial⟩
    have HB2 := Lib.hid ((below_one' w1).trans (hb2.mono (below_one' w1).size))
    have HR2 := Lib.hid (HR1.out.below hb2)
    clear hb2
    refine hK.out _ _ (hS2) ?_
    clear hK K
    try simp only [Act.put, List.setIfInBounds_toArray, List.set_cons_zero, List.set_cons_succ]
    repeat (first | (refine Seq.Seq.skip (by rfl) ?_; (try simp only [Act.put, List.setIfInBounds_toArray, List.set_cons_zero, List.set_cons_succ])) | (refine Seq.Seq.det ?_ (by rfl) (fun w hS => ?_) ?_; rotate_left; ((try dsimp only at hS); go_simp; (try rw [if_pos (by omega)]); with_reducible rfl); (try simp only [Act.put, List.setIfInBounds_toArray, List.set_cons_zero, List.set_cons_succ])))
    refine Seq.Seq.nil ?_
    clear L hS hS2
    go_wp2
    go_ret2
    refine ⟨.slice Av ll cv, l, p', c', q', ?_, by rw [HLL.out]; exact own_below HO.out HB2.out, HLB.out, by rw [← HLL.out]; exact hll, HKB.out.trans (Kp.of_below HB2.out), HR2.out, HS.out⟩
    exact congrArg (fun u => Ending.returned (.tuple #[.slice Av ll cv, u])) HFR.out
def gq (G : Rs (List Int)) : Int := if G.2.2.1 = 0 then 0 else G.2.2.2
end Go.Proofs.YtlealkfkddhnnaaGreat.Cur
namespace Go.Proofs.YtlealkfkddhnnaaGreat.Cur
open Go.RowKit Mem
set_option linter.unusedVariables false
set_option maxRecDepth 100000
theorem bc_place {z : List Int} (hby : ∀ x ∈ z, 0 ≤ x ∧ x < 256) {n x p : Int} (h0 : 0 ≤ p) (h1 : p ≤ z.length) (h : (bc z n x p).2.2.1 = 0) : p ≤ (bc z n x p).2.1 ∧ (bc z n x p).2.1 ≤ z.length := by
  unfold bc at h ⊢
  split at h
  · rename_i hx
    rw [if_pos hx]
    obtain ⟨k1, k2, k3⟩ := tk_once h0 h1 h
    rw [k3]
    exact ⟨by show p ≤ p + n; omega, by show p + n ≤ _; omega⟩
  · rename_i hx
    rw [if_neg hx]
    obtain ⟨g1, g2⟩ := Rs.bind_ok h
    obtain ⟨_, _, l1, l2⟩ := bl_once hby h0 h1 g1
    rw [g2] at h ⊢
    split at h
    · rename_i hc; exact absurd h hc
    · rename_i hc
      rw [if_neg hc]
      split at h
      · exact absurd h (by show ¬ (3 : Int) = 0; decide)
      · rename_i hl
        rw [if_neg hl]
        exact ⟨l1, l2⟩
theorem bk_place_at {z : List Int} (hby : ∀ x ∈ z, 0 ≤ x ∧ x < 256) {most s0 : Int} (i0 : 0 ≤ s0) (i1 : s0 ≤ z.length) (h : (bk z most s0).2.2.1 = 0) : s0 ≤ (bk z most s0).2.1 ∧ (bk z most s0).2.1 ≤ z.length := by
  unfold bk at h ⊢
  obtain ⟨g1, g2⟩ := Rs.bind_ok h
  obtain ⟨v1, v2, v3⟩ := vm_ok g1
  obtain ⟨_, _, _, o4, o5⟩ := vg_once hby i0 i1 v1
  rw [g2] at h ⊢
  rw [v3] at h ⊢
  obtain ⟨g3, g4⟩ := Rs.bind_ok h
  obtain ⟨_, t2, t3⟩ := tk_once (by omega) o5 g3
  have t4 : (tk z 1 (vg z s0).2.1).2.1 = (vg z s0).2.1 + 1 := by rw [t3]
  rw [g4] at h ⊢
  rw [t4] at h ⊢
  split at h
  · exact absurd h (by show ¬ (7 : Int) = 0; decide)
  · rename_i hx
    rw [if_neg hx]
    have := bc_place hby (by omega) (by omega) h
    omega
end Go.Proofs.YtlealkfkddhnnaaGreat.Cur
namespace Go.Proofs.YtlealkfkddhnnaaGreat.Cur
open Go.RowKit Go.Shelf Mem
attribute [local go_sem] Oper.semAt_some
set_option linter.unusedVariables false
set_option maxRecDepth 100000
def RBOPost (s : Value) (n : Nat) (g : Rs (List Int)) (p c q : Int) (w : World) (e : Ending) (w' : World) : Prop :=
  ∃ v l p' c' q', e = .returned (.tuple #[cv s p' c' q', v]) ∧ Below w.heap.size w w' ∧ St [] n g p c q l p' c' q' ∧ Own w' w.heap.size v l
theorem rtake_o (a : Option Addr) (n m : Nat) (z : List Int) (p c q x : Int) (w : World) (hz : Bs w a n z) (ha : a = none → m = 0) (h0 : 0 ≤ p) (h1 : p ≤ n) (hm : n ≤ m) (hn : n ≤ 1000000) :
    Calls Tryz.prog 100 #[cv (.slice a n m) p c q, .int .i64 x] w (RBOPost (.slice a n m) n (tk z x p) p c q w) := by
  refine (rtake_own a n m z p c q x w hz ha h0 h1 hm hn).mono ?_
  rintro e w' ⟨ok, p', c', q', A, k, m', rfl, hb, hs, ho⟩
  exact ⟨_, _, p', c', q', rfl, hb, hs.st hz.1 h0 h1, ho⟩
set_option maxHeartbeats 1000000 in
theorem rbread_o (a : Option Addr) (n m : Nat) (z : List Int) (p c q mo : Int) (w : World) (hz : Bs w a n z) (ha : a = none → m = 0) (h0 : 0 ≤ p) (h1 : p ≤ n) (hm : n ≤ m) (hn : n ≤ 1000000) (hby : ∀ x ∈ z, 0 ≤ x ∧ x < 256) (hmo : mo ≤ 9223372036854775807) :
    Calls Tryz.prog 101 #[cv (.slice a n m) p c q, .int .i64 mo] w (RBOPost (.slice a n m) n (bl z mo p) p c q w) := by
  have HBY := Lib.hid hby
  clear hby
  go_enter Tryz.func101, Tryz.ntmps101
  go_wp2_with fail
  refine (rint_any _ _ _ _ _ _ _ _ _ (hz.below (below_two _ _ _)) h0 h1 hm hn HBY.out hmo).mono ?_
  rintro e w1 ⟨x, p1, c1, q1, rfl, hb1, hs1⟩
  obtain ⟨hC, hR, hbd⟩ := two_new hb1
  have hst := hs1.st hz.1 h0 h1 HBY.out
  obtain ⟨p10, p11⟩ := hst.place
  have HS := Lib.hid hst
  have hbd2 := hbd.alloc hbd.size (.cells (cvs (.slice a n m) p1 c1 q1) 50)
  have hR2 := hR.alloc (.cells (cvs (.slice a n m) p1 c1 q1) 50)
  clear hs1 hst hb1 hC hR hbd
  go_wp2_with fail
  refine (rtake_o _ _ _ _ _ _ _ _ _ (hz.below hbd2) ha p10 p11 hm hn).mono ?_
  rintro e w2 ⟨v2, l, p2, c2, q2, rfl, hb2, hs2, ho2⟩
  have HS2 := Lib.hid (HS.out.bind (f := fun x p1 => tk z x p1) hs2)
  have hR3 := hR2.below hb2
  have hbd3 := hbd2.trans (hb2.mono hbd2.size)
  obtain ⟨r0, r1, r2, r3⟩ := hR3.c4
  obtain ⟨g0, g1, g2, g3⟩ := hR3.f4
  have ho3 : Own ((((w2.setCell ⟨w.heap.size + 1, 0, none⟩ (.slice a n m)).setCell ⟨w.heap.size + 1, 1, none⟩ (.int .i64 p2)).setCell ⟨w.heap.size + 1, 2, none⟩ (.int .i64 c2)).setCell ⟨w.heap.size + 1, 3, none⟩ (.int .i64 q2)) w.heap.size v2 l := by
    obtain ⟨_, hkp⟩ := set4 hR3 (.slice a n m) (.int .i64 p2) (.int .i64 c2) (.int .i64 q2)
    exact own_base0 (own_kp ho2 hkp (own_ne_blk ho2 hR3 (by decide))) hbd2.size
  have HO3 := Lib.hid ho3
  obtain ⟨A2, m2, rfl⟩ := ho2.slice
  clear hs2 hb2 hbd2 hR2 ho2 ho3
  go_wp2
  refine bodyPost_ret (v := .tuple #[cv (.slice a n m) p2 c2 q2, .slice A2 l.length m2]) (by simp [results, Tryz.results101, go_sem, r0, r1, r2, r3]) rfl ⟨_, l, p2, c2, q2, rfl, ?_, HS2.out, HO3.out⟩
  exact set4_below hbd3 (by omega) _ _ _ _
def RlPost (s : Value) (z : List Int) (n : Nat) (most s0 cc qq : Int) (w : World) (e : Ending) (w' : World) : Prop :=
  ∃ A k m l p' c' q', e = .returned (.tuple #[cv s p' c' q', .slice A k m, .bool (decide (c' = 0) && decide (piece z s0.toNat p'.toNat = bkb l))]) ∧ Below w.heap.size w w' ∧ St [] n (bk z most s0) s0 cc qq l p' c' q' ∧ Bs w' A k l ∧ (∀ x ∈ l, 0 ≤ x ∧ x < 256) ∧ (∀ ad, A = some ad → w.heap.size ≤ ad.block) ∧ k ≤ m ∧ (A = none → m = 0)
def LzS (eb cb : Nat) (s : Value) (s0 p : Int) (w' : World) : Prop := Blk w' eb (cvs s p 0 0) 50 ∧ Blk w' cb (cvs s s0 0 0) 50
theorem LzS.below {eb cb : Nat} {s : Value} {s0 p : Int} {w' w'' : World} (h : LzS eb cb s s0 p w') (hb : Below w'.heap.size w' w'') : LzS eb cb s s0 p w'' := ⟨h.1.below hb, h.2.below hb⟩
set_option maxHeartbeats 8000000 in
theorem rloose16_any (a : Option Addr) (n m : Nat) (z : List Int) (most s0 cc qq : Int) (w : World) (hz : Bs w a n z) (ha : a = none → m = 0) (i0 : 0 ≤ s0) (i1 : s0 ≤ n) (hm : n ≤ m) (hn : n ≤ 10000) (hby : ∀ x ∈ z, 0 ≤ x ∧ x < 256) (hmo : most ≤ 1048576) (hfw : cc = 0 → Few z most s0) (hq : cc = 0 → qq = 0) :
    Calls Tryz.prog 61 #[cv (.slice a n m) s0 cc qq, .int .i64 most] w (RlPost (.slice a n m) z n most s0 cc qq w) := by
  have hzl := hz.1
  have HBY := Lib.hid hby
  have HZ := Lib.hid hz
  have HA := Lib.hid ha
  have hn1 : n ≤ 1000000 := by omega
  have hmo1 : ¬ 1048576 < most := by omega
  have emin : min most 1048576 = most := by omega
  have EM := Lib.hid emin
  have HQ := Lib.hid hq
  have HFW := Lib.hid hfw
  clear hby ha hz emin hq hfw
  go_enter Tryz.func61, Tryz.ntmps61
  go_wp2_with fail
  refine (rint_any a n m z s0 cc qq most _ (HZ.out.below (below_two _ _ _)) i0 i1 hm hn1 HBY.out (by omega)).mono ?_
  rintro e w1 ⟨N, p1, c1, q1, rfl, hb1, hs1⟩
  obtain ⟨hC, hR, hbd⟩ := two_new hb1
  have hst := hs1.st hzl i0 i1 HBY.out
  obtain ⟨p10, p11⟩ := hst.place
  have hnb := vm_bd hst HBY.out
  have hnf : N ≤ 10000 := by
    by_cases hc : cc = 0
    · exact hst.val (P := fun n => n ≤ 10000) (by decide) (HFW.out hc)
    · rw [(hst.bad hc).1]; decide
  have hN : 0 ≤ N ∧ N ≤ 10000 := by omega
  have HS1 : Hid (St 0 n (vm z (min most 1048576) s0) s0 cc qq N p1 c1 q1) := Lib.hid (by rw [EM.out]; exact hst)
  have hlt1 : w.heap.size + 1 < w1.heap.size := hR.lt
  have hD := Blk.new w1 (cvs (.slice a n m) p1 c1 q1) 50
  replace hbd := hbd.alloc hbd.size (.cells (cvs (.slice a n m) p1 c1 q1) 50)
  replace hC := hC.alloc (.cells (cvs (.slice a n m) p1 c1 q1) 50)
  replace hR := hR.alloc (.cells (cvs (.slice a n m) p1 c1 q1) 50)
  clear hb1 hs1 hst hnb hnf hmo1
  go_wp2_with fail
  generalize w1.alloc (.cells (cvs (.slice a n m) p1 c1 q1) 50) = w2 at *
  generalize w1.heap.size = db at *
  refine (rtake_o a n m z p1 c1 q1 1 w2 (HZ.out.below hbd) HA.out p10 p11 hm hn1).mono ?_
  rintro e w3 ⟨v3, wy, p2, c2, q2, rfl, hb3, hs3, ho3⟩
  obtain ⟨A3, m3, rfl, hbs3, _, hcap3⟩ := ho3.parts
  obtain ⟨p20, p21⟩ := hs3.place
  have HS3 := Lib.hid hs3
  have hltd : db < w2.heap.size := hD.lt
  have hlte : w2.heap.size ≤ w3.heap.size := hb3.size
  replace hbd := hbd.trans (hb3.mono hbd.size)
  replace hC := hC.below hb3
  replace hR := hR.below hb3
  replace hD := hD.below hb3
  have hE := Blk.new w3 (cvs (.slice a n m) p2 c2 q2) 50
  replace hbd := hbd.alloc hbd.size (.cells (cvs (.slice a n m) p2 c2 q2) 50)
  replace hC := hC.alloc (.cells (cvs (.slice a n m) p2 c2 q2) 50)
  replace hR := hR.alloc (.cells (cvs (.slice a n m) p2 c2 q2) 50)
  replace hD := hD.alloc (.cells (cvs (.slice a n m) p2 c2 q2) 50)
  replace hbs3 := hbs3.alloc (.cells (cvs (.slice a n m) p2 c2 q2) 50)
  clear hb3 ho3 hs3
  by_cases hc2 : c2 = 0
  · subst hc2
    obtain ⟨hc1, g1, g2, gp2, hq2⟩ := HS3.out.good
    clear gp2
    subst hc1
    obtain ⟨gy1, gy2, gy3, gy4, hq1⟩ := HS1.out.good
    have hqq := HQ.out gy1
    clear gy2 gy3 gy4 HQ
    subst gy1
    subst hqq
    subst hq1
    subst hq2
    have hwl : wy.length = 1 := by
      obtain ⟨_, t2, t3⟩ := tk_once p10 (by rw [hzl]; exact p11) g1
      rw [g2, t3, length_piece hzl (by omega)]
      omega
    rw [hwl] at hbs3 ⊢
    obtain ⟨g3, o3, rfl, hcell⟩ := hbs3.at_ (k := 0) (by omega)
    rw [Nat.add_zero] at hcell
    obtain ⟨x, hx⟩ : ∃ x, x = wy.getD 0 0 := ⟨_, rfl⟩
    rw [← hx] at hcell
    have HX := Lib.hid hx
    clear hx g1 g2 hwl hbs3
    go_upto_region 7 with (fail)
    generalize w3.alloc (.cells (cvs (.slice a n m) p2 0 0) 50) = w4 at *
    generalize w3.heap.size = eb at *
    by_cases hx1 : 1 < x
    · obtain ⟨d0, d1, d2, d3⟩ := hD.c4
      obtain ⟨e0, e1, e2, e3⟩ := hE.c4
      clear d0 d2 d3 hC hD hE
      have HX1 := Lib.hid hx1
      go_wp2_with fail
      refine (rfail_any _ _ _ _ _ _ _ _ _).mono ?_
      rintro e w5 ⟨c5, q5, rfl, hb5, hf⟩
      have HST : Hid (St [] n (bk z most s0) s0 0 0 [] p2 c5 q5 ∧ c5 ≠ 0) := Lib.hid (by
        have hc5 : c5 ≠ 0 := by
          rcases hf with ⟨_, h, _⟩ | ⟨h, _⟩
          · rw [h]; decide
          · exact absurd rfl h
        exact ⟨bk_st HS1.out HS3.out (.inl ⟨by rw [← HX.out]; exact HX1.out, hf⟩) (St.stay p20 p21 hc5), hc5⟩)
      replace hbd := hbd.trans (hb5.mono hbd.size)
      replace hR := hR.below hb5
      obtain ⟨r0, r1, r2, r3⟩ := hR.c4
      obtain ⟨g0, g1, g2, g3⟩ := hR.f4
      have HBD := Lib.hid (set4_below hbd (show w.heap.size ≤ w.heap.size + 1 by omega) (.slice a n m) (.int .i64 p2) (.int .i64 c5) (.int .i64 q5))
      clear hbd hb5 hf hcell hR e0 e1 e2 e3 d1
      go_wp2
      refine bodyPost_ret (v := .tuple #[cv (.slice a n m) p2 c5 q5, .slice none 0 0, .bool false]) (by simp [results, Tryz.results61, go_sem, r0, r1, r2, r3]) rfl ⟨none, 0, 0, [], p2, c5, q5, by rw [decide_eq_false HST.out.2]; rfl, HBD.out, HST.out.1, Bs.none _, by simp, (fun _ h => by cases h), Nat.le_refl _, fun _ => rfl⟩
    · clear hD
      have HBC : Hid (∀ l p' c' q', St [] n (bc z N x p2) p2 0 0 l p' c' q' → St [] n (bk z most s0) s0 0 0 l p' c' q') := Lib.hid (fun l p' c' q' h => bk_st HS1.out HS3.out (.inr ⟨by rw [← HX.out]; exact hx1, rfl, rfl⟩) (by rw [← HX.out]; exact h))
      by_cases hx0 : x = 0
      · subst hx0
        obtain ⟨e0, e1, e2, e3⟩ := hE.c4
        go_wp2_with fail
        refine (rtake_o a n m z p2 0 0 N w4 (HZ.out.below hbd) HA.out p20 p21 hm hn1).mono ?_
        rintro e w5 ⟨v5, l, p3, c3, q3, rfl, hb5, hs5, ho5⟩
        obtain ⟨p30, p31⟩ := hs5.place
        have hfr := fun g hg => ho5.ge g hg
        have hwz := hbd.size
        obtain ⟨A11, m11, rfl, hbs, hn11, hk11⟩ := ho5.parts
        have HFR : Hid (∀ ad, A11 = some ad → w.heap.size ≤ ad.block) := Lib.hid (fun ad e => Nat.le_trans hwz (hfr ad.block (by rw [e]; rfl)))
        clear hfr hwz
        have hb := tk_byte HBY.out N p2
        have hll := hs5.val (P := fun l => (∀ y ∈ l, 0 ≤ y ∧ y < 256) ∧ l.length ≤ 10000) ⟨fun y h => absurd h (by simp), by simp⟩ ⟨hb.1, by omega⟩
        have HST : Hid (St [] n (bk z most s0) s0 0 0 l p3 c3 q3) := Lib.hid (HBC.out _ _ _ _ (by unfold bc; rw [if_pos rfl]; exact hs5))
        have HLB := Lib.hid hll.1
        have HN11 := Lib.hid hn11
        have hl2 := hll.2
        have HS5 := Lib.hid hs5
        have hneE := own_ne_blk ho5 (hE.below hb5) (by decide)
        replace hbd := hbd.trans (hb5.mono hbd.size)
        replace hR := hR.below hb5
        replace hC := hC.below hb5
        replace hE := hE.below hb5
        clear e0 e1 e2 e3 hb5 hs5 ho5 hb hll hn11 hcell
        obtain ⟨e0, e1, e2, e3⟩ := hE.c4
        obtain ⟨f0, f1, f2, f3⟩ := hE.f4
        obtain ⟨hE6, hk6⟩ := set4 hE (.slice a n m) (.int .i64 p3) (.int .i64 c3) (.int .i64 q3)
        have hbs6 := hbs.kp4 hE (by intro x; simp) (by intro x; simp) (by intro x; simp) (by intro x; simp) hk6
        have hR6 := blk_kp hR hk6 (by omega)
        have hC6 := blk_kp hC hk6 (by omega)
        have hbd6 := Kp.below hbd (Nat.le_refl _) hk6 (by omega)
        clear hbd hR hC hE hk6 hbs
        obtain ⟨k11, hk⟩ : ∃ k, k = l.length := ⟨_, rfl⟩
        rw [← hk] at hbs6 hk11 hl2 ⊢
        have HK11 := Lib.hid hk
        clear hk
        go_upto_region 21 with (fail)
        generalize (((w5.setCell ⟨eb, 0, none⟩ (.slice a n m)).setCell ⟨eb, 1, none⟩ (.int .i64 p3)).setCell ⟨eb, 2, none⟩ (.int .i64 c3)).setCell ⟨eb, 3, none⟩ (.int .i64 q3) = w6 at *
        have hE := hE6
        have hR := hR6
        have hC := hC6
        have hbd := hbd6
        have hbs := hbs6
        clear e0 e1 e2 e3 f0 f1 f2 f3 hE6 hR6 hC6 hbd6 hbs6
        by_cases hc3 : c3 = 0
        · subst hc3
          obtain ⟨gy1, gy2, gy3, gy4, hq3⟩ := HS5.out.good
          clear gy1 gy2 gy3 gy4
          subst hq3
          have hS : LzS eb w.heap.size (.slice a n m) s0 (p3) (w6).drew := ⟨hE, hC⟩
          have L : ∀ w' : World, LzS eb w.heap.size (.slice a n m) s0 (p3) w' → ((w'.cell? ⟨eb, 0, none⟩ = some (.slice a n m) ∧ w'.cell? ⟨eb, 1, none⟩ = some (.int .i64 (p3)) ∧ w'.cell? ⟨eb, 2, none⟩ = some (.int .i64 0) ∧ w'.cell? ⟨eb, 3, none⟩ = some (.int .i64 0)) ∧ w'.cell? ⟨w.heap.size, 1, none⟩ = some (.int .i64 s0)) := fun w' h => ⟨h.1.c4, h.2.c4.2.1⟩
          obtain ⟨A', M, hsl, hA', _, _⟩ := slice_lh (HZ.out.below hbd) m s0 (p3) i0 (by obtain ⟨_, u1, _, u2, _⟩ := HST.out.good; have := bk_place_at HBY.out i0 (by rw [hzl]; exact i1) u1; omega) (by omega) hm
          have hK := fun W (h : Below (w6).heap.size w6 W) => r16bytes_any (A := A11) (n := k11) (m := m11) (z := l) (hbs.below h) HN11.out HLB.out hk11 (by omega)
          have HK := Lib.hid hK
          have HHA := Lib.hid hA'
          have HBS := Lib.hid hbs
          have HR := Lib.hid hR
          have HBD := Lib.hid hbd
          have HPB : Hid (∀ x ∈ piece z s0.toNat (p3).toNat, 0 ≤ x ∧ x < 256) := Lib.hid (piece_byte HBY.out _ _)
          have HBB : Hid (∀ x ∈ bkb l, 0 ≤ x ∧ x < 256) := Lib.hid (bkb_byte (by have := HBS.out.1; omega) HLB.out)
          obtain ⟨E1, e0, e1, e2, e3⟩ : ∃ u : True, _ := ⟨trivial, hE.c4⟩
          clear E1 hK hA' hbs hR hbd hE hC
          go_wp2_with fail
          clear e0 e1 e2 e3
          refine Seq.wp_region_seq (LzS eb w.heap.size (.slice a n m) s0 (p3)) (by kernel_rfl) (by kernel_rfl) hS ?_
          repeat (first | (refine Seq.Seq.skip (by rfl) ?_; (try simp only [Act.put, List.setIfInBounds_toArray, List.set_cons_zero, List.set_cons_succ])) | (refine Seq.Seq.det ?_ (by rfl) (fun w hS => ?_) ?_; rotate_left; ((try dsimp only at hS); go_simp; (try rw [if_pos (by omega)]); with_reducible rfl); (try simp only [Act.put, List.setIfInBounds_toArray, List.set_cons_zero, List.set_cons_succ])))
          refine Seq.Seq.make (by rfl) (by rfl) (fun K Q' hK => ?_)
          go_simp
          go_at_call 51
          refine (HK.out _ (below_one' _)).mono ?_
          rintro e wb ⟨Ab, mb, rfl, hbb, hbsb, _⟩
          have hSb := hS.below hbb
          have HBd := Lib.hid ((below_one' w6).trans (hbb.mono (below_one' w6).size))
          have HBSb := Lib.hid hbsb
          clear hbb hbsb
          obtain ⟨lb, hlb⟩ : ∃ lb, lb = (bkb l).length := ⟨_, rfl⟩
          rw [← hlb] at HBSb ⊢
          clear hlb
          refine hK.out _ _ (hSb) ?_
          clear hK K
          try simp only [Act.put, List.setIfInBounds_toArray, List.set_cons_zero, List.set_cons_succ]
          repeat (first | (refine Seq.Seq.skip (by rfl) ?_; (try simp only [Act.put, List.setIfInBounds_toArray, List.set_cons_zero, List.set_cons_succ])) | (refine Seq.Seq.det ?_ (by rfl) (fun w hS => ?_) ?_; rotate_left; ((try dsimp only at hS); go_simp; (try rw [if_pos (by omega)]); with_reducible rfl); (try simp only [Act.put, List.setIfInBounds_toArray, List.set_cons_zero, List.set_cons_succ])))
          refine Seq.Seq.make (by rfl) (by rfl) (fun K Q' hK => ?_)
          go_simp
          go_at_call 13
          refine (bsame_any Ab A' lb _ mb M (bkb l) (piece z s0.toNat (p3).toNat) wb HBSb.out (HHA.out.below HBd.out) HBB.out HPB.out).mono ?_
          rintro e wc ⟨rfl, rfl⟩
          obtain ⟨of, hof⟩ : ∃ of, of = decide (bkb l = piece z s0.toNat (p3).toNat) := ⟨_, rfl⟩
          rw [← hof]
          have HOF := Lib.hid hof
          clear hof
          refine hK.out _ _ (hSb) ?_
          clear hK K
          try simp only [Act.put, List.setIfInBounds_toArray, List.set_cons_zero, List.set_cons_succ]
          repeat (first | (refine Seq.Seq.skip (by rfl) ?_; (try simp only [Act.put, List.setIfInBounds_toArray, List.set_cons_zero, List.set_cons_succ])) | (refine Seq.Seq.det ?_ (by rfl) (fun w hS => ?_) ?_; rotate_left; ((try dsimp only at hS); go_simp; (try rw [if_pos (by omega)]); with_reducible rfl); (try simp only [Act.put, List.setIfInBounds_toArray, List.set_cons_zero, List.set_cons_succ])))
          have hRb := HR.out.below HBd.out
          obtain ⟨r0, r1, r2, r3⟩ := hRb.c4
          obtain ⟨g0, g1, g2, g3⟩ := hRb.f4
          refine Seq.Seq.make (by rfl) (by rfl) (fun K Q' hK => ?_)
          go_simp
          obtain ⟨hR7, hk7⟩ := set4 hRb (.slice a n m) (.int .i64 (p3)) (.int .i64 0) (.int .i64 0)
          have hS7 : LzS eb w.heap.size (.slice a n m) s0 (p3) _ := ⟨blk_kp hSb.1 hk7 (by omega), blk_kp hSb.2 hk7 (by omega)⟩
          refine hK.out _ _ (hS7) ?_
          clear hK K
          try simp only [Act.put, List.setIfInBounds_toArray, List.set_cons_zero, List.set_cons_succ]
          have hbd7 := Kp.below (HBD.out.trans (HBd.out.mono HBD.out.size)) (Nat.le_refl _) hk7 (by omega)
          have hbs7 := (HBS.out.below HBd.out).kp4 hRb (by intro x; simp) (by intro x; simp) (by intro x; simp) (by intro x; simp) hk7
          obtain ⟨r0, r1, r2, r3⟩ := hR7.c4
          generalize (((wb.setCell ⟨w.heap.size + 1, 0, none⟩ (.slice a n m)).setCell ⟨w.heap.size + 1, 1, none⟩ (.int .i64 (p3))).setCell ⟨w.heap.size + 1, 2, none⟩ (.int .i64 0)).setCell ⟨w.heap.size + 1, 3, none⟩ (.int .i64 0) = w7 at *
          repeat (first | (refine Seq.Seq.skip (by rfl) ?_; (try simp only [Act.put, List.setIfInBounds_toArray, List.set_cons_zero, List.set_cons_succ])) | (refine Seq.Seq.det ?_ (by rfl) (fun w hS => ?_) ?_; rotate_left; ((try dsimp only at hS); go_simp; (try rw [if_pos (by omega)]); with_reducible rfl); (try simp only [Act.put, List.setIfInBounds_toArray, List.set_cons_zero, List.set_cons_succ])))
          refine Seq.Seq.nil ?_
          have HBS7 := Lib.hid hbs7
          have HBD7 := Lib.hid hbd7
          clear L hS hSb hS7 hsl hR7 hRb hbs7 hbd7 g0 g1 g2 g3 hk7
          go_wp2
          refine bodyPost_ret (v := .tuple #[cv (.slice a n m) (p3) 0 0, .slice A11 k11 m11, .bool of]) (by simp [results, Tryz.results61, go_sem, r0, r1, r2, r3]) rfl ⟨A11, k11, m11, l, p3, 0, 0, ?_, HBD7.out, HST.out, HBS7.out, HLB.out, HFR.out, hk11, HN11.out⟩
          have eof : decide (bkb l = piece z s0.toNat (p3).toNat) = decide (piece z s0.toNat (p3).toNat = bkb l) := decide_eq_decide.2 eq_comm
          rw [HOF.out, eof, decide_eq_true (rfl : (0 : Int) = 0), Bool.true_and]
        · have hcb3 : (c3 != 0) = true := by simpa using hc3
          have HNC := Lib.hid hc3
          have hl := HS5.out.nil hc3
          subst hl
          clear hbs hc3
          clear hC
          obtain ⟨e0, e1, e2, e3⟩ := hE.c4
          obtain ⟨r0, r1, r2, r3⟩ := hR.c4
          obtain ⟨g0, g1, g2, g3⟩ := hR.f4
          have HBD := Lib.hid (set4_below hbd (show w.heap.size ≤ w.heap.size + 1 by omega) (.slice a n m) (.int .i64 (p3)) (.int .i64 (c3)) (.int .i64 (q3)))
          clear hbd hE hR
          go_wp2
          refine bodyPost_ret (v := .tuple #[cv (.slice a n m) (p3) (c3) (q3), .slice none 0 0, .bool false]) (by simp [results, Tryz.results61, go_sem, r0, r1, r2, r3]) rfl ⟨none, 0, 0, [], p3, c3, q3, by rw [decide_eq_false HNC.out]; rfl, HBD.out, HST.out, Bs.none _, by simp, (fun _ h => by cases h), Nat.le_refl _, fun _ => rfl⟩
      · have hx0b : (x == 0) = false := by simpa using hx0
        have HX0 := Lib.hid hx0
        clear hx0
        obtain ⟨e0, e1, e2, e3⟩ := hE.c4
        go_wp2_with fail
        refine (rbread_o a n m z p2 0 0 1048576 w4 (HZ.out.below hbd) HA.out p20 p21 hm hn1 HBY.out (by omega)).mono ?_
        rintro e w5 ⟨v5, t, p3, c3, q3, rfl, hb5, hs5, ho5⟩
        obtain ⟨p30, p31⟩ := hs5.place
        obtain ⟨A12, m12, rfl, hbs, hn12, hk12⟩ := ho5.parts
        have hb := bl_byte HBY.out 1048576 p2
        obtain ⟨ht1, ht2⟩ := hs5.val (P := fun l => (∀ y ∈ l, 0 ≤ y ∧ y < 256) ∧ l.length ≤ 10000) ⟨fun y h => absurd h (by simp), by simp⟩ ⟨hb.1, by omega⟩
        have HS5 := Lib.hid hs5
        have HTB := Lib.hid ht1
        have HN12 := Lib.hid hn12
        have hltg : eb < w5.heap.size := (hE.below hb5).lt
        have hG := Blk.new w5 (cvs (.slice a n m) p3 c3 q3) 50
        have hbA := below_one w5 (.cells (cvs (.slice a n m) p3 c3 q3) 50)
        replace hbd := (hbd.trans (hb5.mono hbd.size)).trans (hbA.mono (hbd.trans (hb5.mono hbd.size)).size)
        replace hR := (hR.below hb5).below hbA
        replace hC := (hC.below hb5).below hbA
        replace hE := (hE.below hb5).below hbA
        replace hbs := hbs.below hbA
        obtain ⟨tl, htl⟩ : ∃ tl, tl = t.length := ⟨_, rfl⟩
        rw [← htl] at hbs hk12 ht2 ⊢
        have HTL := Lib.hid htl
        clear e0 e1 e2 e3 hb5 hs5 ho5 hb ht1 hn12 hcell hbA htl
        go_upto_region 13 with (fail)
        generalize w5.alloc (.cells (cvs (.slice a n m) p3 c3 q3) 50) = w6 at *
        generalize w5.heap.size = gb at *
        obtain ⟨i0, i1, i2, i3⟩ := hG.c4
        obtain ⟨e0, e1, e2, e3⟩ := hE.c4
        obtain ⟨f0, f1, f2, f3⟩ := hE.f4
        obtain ⟨hE7, hk7⟩ := set4 hE (.slice a n m) (.int .i64 p3) (.int .i64 c3) (.int .i64 q3)
        have hbs7 := hbs.kp4 hE (by intro x; simp) (by intro x; simp) (by intro x; simp) (by intro x; simp) hk7
        have hR7 := blk_kp hR hk7 (by omega)
        have hC7 := blk_kp hC hk7 (by omega)
        have hbd7 := Kp.below hbd (Nat.le_refl _) hk7 (by omega)
        clear hbd hR hC hE hk7 hbs hG
        go_upto_region 14 with (fail)
        generalize (((w6.setCell ⟨eb, 0, none⟩ (.slice a n m)).setCell ⟨eb, 1, none⟩ (.int .i64 p3)).setCell ⟨eb, 2, none⟩ (.int .i64 c3)).setCell ⟨eb, 3, none⟩ (.int .i64 q3) = w7 at *
        have hE := hE7
        have hR := hR7
        have hC := hC7
        have hbd := hbd7
        clear e0 e1 e2 e3 f0 f1 f2 f3 i0 i1 i2 i3 hE7 hR7 hC7 hbd7
        by_cases hc3 : c3 = 0
        · subst hc3
          obtain ⟨gy1, gy2, gy3, gy4, hq3⟩ := HS5.out.good
          subst hq3
          clear gy1 gy2 gy3 gy4
          have hB := reb_le (bound := N) (m := m12) hbs7 HN12.out hk12 (by omega) HTB.out (by omega)
          obtain ⟨g1, g2, _, _⟩ := exv_fine (z := t) (bound := N) HTB.out
          have g5 := exv_fp (z := t) (bound := N) HTB.out
          obtain ⟨G, hG⟩ : ∃ G, G = exv t N := ⟨_, rfl⟩
          rw [← hG] at hB g1 g2 g5
          have HG := Lib.hid hG
          clear hG hbs7
          obtain ⟨y, c4, q4⟩ := G
          simp only at g1 g2 g5
          rw [← HTL.out] at g5
          have HYB := Lib.hid g2
          obtain ⟨e0, e1, e2, e3⟩ := hE.c4
          clear g2
          go_wp2_with fail
          refine hB.mono ?_
          rintro e w8 ⟨v8, rfl, ho8, hb8⟩
          replace ho8 : Own w8 w7.heap.size v8 y := ho8
          have hfr := fun g hg => ho8.ge g hg
          have hwz := hbd.size
          obtain ⟨A11, m11, rfl, hbs, hn11, hk11⟩ := ho8.parts
          have HFR : Hid (∀ ad, A11 = some ad → w.heap.size ≤ ad.block) := Lib.hid (fun ad e => Nat.le_trans hwz (hfr ad.block (by rw [e]; rfl)))
          clear hfr hwz
          have hneE := hE.below hb8
          have hltf : eb < w8.heap.size := hneE.lt
          have hF := Blk.new w8 #[.int .i64 c4, .int .i64 q4] 48
          have hbA := below_one w8 (.cells #[.int .i64 c4, .int .i64 q4] 48)
          replace hbd := (hbd.trans (hb8.mono hbd.size)).trans (hbA.mono (hbd.trans (hb8.mono hbd.size)).size)
          replace hR := (hR.below hb8).below hbA
          replace hC := (hC.below hb8).below hbA
          replace hE := hneE.below hbA
          replace hbs := hbs.below hbA
          have HN11 := Lib.hid hn11
          have hyl : y.length ≤ 10000 := by omega
          obtain ⟨k11, hk⟩ : ∃ k, k = y.length := ⟨_, rfl⟩
          rw [← hk] at hbs hk11 hyl ⊢
          have HK11 := Lib.hid hk
          clear e0 e1 e2 e3 hb8 ho8 hbA hneE hn11 hB hk g1
          go_upto_region 16 with (fail)
          generalize w8.alloc (.cells #[.int .i64 c4, .int .i64 q4] 48) = w9 at *
          generalize w8.heap.size = fb at *
          obtain ⟨j0, j1⟩ := hF.c2
          obtain ⟨e0, e1, e2, e3⟩ := hE.c4
          by_cases hc4 : c4 = 0
          · subst hc4
            by_cases hlt : (k11 : Int) < N
            · clear hF j1
              go_wp2_with fail
              refine (rfail_any _ _ _ _ _ _ _ _ _).mono ?_
              rintro e w10 ⟨c9, q9, rfl, hb10, hf⟩
              have hc9 : c9 ≠ 0 := by
                rcases hf with ⟨_, h, _⟩ | ⟨h, _⟩
                · rw [h]; decide
                · exact absurd rfl h
              have HST : Hid (St [] n (bk z most s0) s0 0 0 [] p3 c9 q9) := Lib.hid (by
                obtain ⟨l', hl1, hl2⟩ := bc_st (q8 := q9) (c8 := c9) (c7 := 0) (q7 := 0) HX0.out HS5.out HG.out.symm (fun _ => rfl) (.inl ⟨rfl, rfl, rfl⟩) (.inl ⟨by rw [← HK11.out]; exact hlt, hf⟩)
                have := hl1.nil hc9
                subst this
                exact HBC.out _ _ _ _ hl1)
              clear hlt hf j0
              replace hbd := hbd.trans (hb10.mono hbd.size)
              replace hR := hR.below hb10
              replace hC := hC.below hb10
              replace hE := hE.below hb10
              clear e0 e1 e2 e3 hb10
              obtain ⟨e0, e1, e2, e3⟩ := hE.c4
              obtain ⟨f0, f1, f2, f3⟩ := hE.f4
              obtain ⟨hE6, hk6⟩ := set4 hE (.slice a n m) (.int .i64 p3) (.int .i64 c9) (.int .i64 q9)
              have hR6 := blk_kp hR hk6 (by omega)
              have hC6 := blk_kp hC hk6 (by omega)
              have hbd6 := Kp.below hbd (Nat.le_refl _) hk6 (by omega)
              clear hbd hR hC hE hk6 hbs
              go_upto_region 21 with (fail)
              generalize (((w10.setCell ⟨eb, 0, none⟩ (.slice a n m)).setCell ⟨eb, 1, none⟩ (.int .i64 p3)).setCell ⟨eb, 2, none⟩ (.int .i64 c9)).setCell ⟨eb, 3, none⟩ (.int .i64 q9) = w11 at *
              have hE := hE6
              have hR := hR6
              have hC := hC6
              have hbd := hbd6
              clear e0 e1 e2 e3 f0 f1 f2 f3 hE6 hR6 hC6 hbd6
              have hcb9 : (c9 != 0) = true := by simpa using hc9
              have HNC := Lib.hid hc9
              clear hc9
              clear hC
              obtain ⟨e0, e1, e2, e3⟩ := hE.c4
              obtain ⟨r0, r1, r2, r3⟩ := hR.c4
              obtain ⟨g0, g1, g2, g3⟩ := hR.f4
              have HBD := Lib.hid (set4_below hbd (show w.heap.size ≤ w.heap.size + 1 by omega) (.slice a n m) (.int .i64 (p3)) (.int .i64 (c9)) (.int .i64 (q9)))
              clear hbd hE hR
              go_wp2
              refine bodyPost_ret (v := .tuple #[cv (.slice a n m) (p3) (c9) (q9), .slice none 0 0, .bool false]) (by simp [results, Tryz.results61, go_sem, r0, r1, r2, r3]) rfl ⟨none, 0, 0, [], p3, c9, q9, by rw [decide_eq_false HNC.out]; rfl, HBD.out, HST.out, Bs.none _, by simp, (fun _ h => by cases h), Nat.le_refl _, fun _ => rfl⟩
            · have HST : Hid (St [] n (bk z most s0) s0 0 0 y p3 0 0) := Lib.hid (by
                obtain ⟨l', hl1, hl2⟩ := bc_st (q8 := 0) (c8 := 0) (c7 := 0) (q7 := 0) HX0.out HS5.out HG.out.symm (fun _ => rfl) (.inl ⟨rfl, rfl, rfl⟩) (.inr ⟨by rw [← HK11.out]; exact hlt, rfl, rfl⟩)
                rw [← hl2 rfl]
                exact HBC.out _ _ _ _ hl1)
              have HLB := HYB
              have hl2 := hyl
              obtain ⟨l, hl⟩ : ∃ l, l = y := ⟨_, rfl⟩
              rw [← hl] at HST HLB hbs
              clear hl HG HYB
              clear e0 e1 e2 e3 hF
              go_upto_region 21 with (fail)
              clear j0 j1 hlt
              have hS : LzS eb w.heap.size (.slice a n m) s0 (p3) (w9).drew := ⟨hE, hC⟩
              have L : ∀ w' : World, LzS eb w.heap.size (.slice a n m) s0 (p3) w' → ((w'.cell? ⟨eb, 0, none⟩ = some (.slice a n m) ∧ w'.cell? ⟨eb, 1, none⟩ = some (.int .i64 (p3)) ∧ w'.cell? ⟨eb, 2, none⟩ = some (.int .i64 0) ∧ w'.cell? ⟨eb, 3, none⟩ = some (.int .i64 0)) ∧ w'.cell? ⟨w.heap.size, 1, none⟩ = some (.int .i64 s0)) := fun w' h => ⟨h.1.c4, h.2.c4.2.1⟩
              obtain ⟨A', M, hsl, hA', _, _⟩ := slice_lh (HZ.out.below hbd) m s0 (p3) i0 (by obtain ⟨_, u1, _, u2, _⟩ := HST.out.good; have := bk_place_at HBY.out i0 (by rw [hzl]; exact i1) u1; omega) (by omega) hm
              have hK := fun W (h : Below (w9).heap.size w9 W) => r16bytes_any (A := A11) (n := k11) (m := m11) (z := l) (hbs.below h) HN11.out HLB.out hk11 (by omega)
              have HK := Lib.hid hK
              have HHA := Lib.hid hA'
              have HBS := Lib.hid hbs
              have HR := Lib.hid hR
              have HBD := Lib.hid hbd
              have HPB : Hid (∀ x ∈ piece z s0.toNat (p3).toNat, 0 ≤ x ∧ x < 256) := Lib.hid (piece_byte HBY.out _ _)
              have HBB : Hid (∀ x ∈ bkb l, 0 ≤ x ∧ x < 256) := Lib.hid (bkb_byte (by have := HBS.out.1; omega) HLB.out)
              obtain ⟨E1, e0, e1, e2, e3⟩ : ∃ u : True, _ := ⟨trivial, hE.c4⟩
              clear E1 hK hA' hbs hR hbd hE hC
              go_wp2_with fail
              clear e0 e1 e2 e3
              refine Seq.wp_region_seq (LzS eb w.heap.size (.slice a n m) s0 (p3)) (by kernel_rfl) (by kernel_rfl) hS ?_
              repeat (first | (refine Seq.Seq.skip (by rfl) ?_; (try simp only [Act.put, List.setIfInBounds_toArray, List.set_cons_zero, List.set_cons_succ])) | (refine Seq.Seq.det ?_ (by rfl) (fun w hS => ?_) ?_; rotate_left; ((try dsimp only at hS); go_simp; (try rw [if_pos (by omega)]); with_reducible rfl); (try simp only [Act.put, List.setIfInBounds_toArray, List.set_cons_zero, List.set_cons_succ])))
              refine Seq.Seq.make (by rfl) (by rfl) (fun K Q' hK => ?_)
              go_simp
              go_at_call 51
              refine (HK.out _ (below_one' _)).mono ?_
              rintro e wb ⟨Ab, mb, rfl, hbb, hbsb, _⟩
              have hSb := hS.below hbb
              have HBd := Lib.hid ((below_one' w9).trans (hbb.mono (below_one' w9).size))
              have HBSb := Lib.hid hbsb
              clear hbb hbsb
              obtain ⟨lb, hlb⟩ : ∃ lb, lb = (bkb l).length := ⟨_, rfl⟩
              rw [← hlb] at HBSb ⊢
              clear hlb
              refine hK.out _ _ (hSb) ?_
              clear hK K
              try simp only [Act.put, List.setIfInBounds_toArray, List.set_cons_zero, List.set_cons_succ]
              repeat (first | (refine Seq.Seq.skip (by rfl) ?_; (try simp only [Act.put, List.setIfInBounds_toArray, List.set_cons_zero, List.set_cons_succ])) | (refine Seq.Seq.det ?_ (by rfl) (fun w hS => ?_) ?_; rotate_left; ((try dsimp only at hS); go_simp; (try rw [if_pos (by omega)]); with_reducible rfl); (try simp only [Act.put, List.setIfInBounds_toArray, List.set_cons_zero, List.set_cons_succ])))
              refine Seq.Seq.make (by rfl) (by rfl) (fun K Q' hK => ?_)
              go_simp
              go_at_call 13
              refine (bsame_any Ab A' lb _ mb M (bkb l) (piece z s0.toNat (p3).toNat) wb HBSb.out (HHA.out.below HBd.out) HBB.out HPB.out).mono ?_
              rintro e wc ⟨rfl, rfl⟩
              obtain ⟨of, hof⟩ : ∃ of, of = decide (bkb l = piece z s0.toNat (p3).toNat) := ⟨_, rfl⟩
              rw [← hof]
              have HOF := Lib.hid hof
              clear hof
              refine hK.out _ _ (hSb) ?_
              clear hK K
              try simp only [Act.put, List.setIfInBounds_toArray, List.set_cons_zero, List.set_cons_succ]
              repeat (first | (refine Seq.Seq.skip (by rfl) ?_; (try simp only [Act.put, List.setIfInBounds_toArray, List.set_cons_zero, List.set_cons_succ])) | (refine Seq.Seq.det ?_ (by rfl) (fun w hS => ?_) ?_; rotate_left; ((try dsimp only at hS); go_simp; (try rw [if_pos (by omega)]); with_reducible rfl); (try simp only [Act.put, List.setIfInBounds_toArray, List.set_cons_zero, List.set_cons_succ])))
              have hRb := HR.out.below HBd.out
              obtain ⟨r0, r1, r2, r3⟩ := hRb.c4
              obtain ⟨g0, g1, g2, g3⟩ := hRb.f4
              refine Seq.Seq.make (by rfl) (by rfl) (fun K Q' hK => ?_)
              go_simp
              obtain ⟨hR7, hk7⟩ := set4 hRb (.slice a n m) (.int .i64 (p3)) (.int .i64 0) (.int .i64 0)
              have hS7 : LzS eb w.heap.size (.slice a n m) s0 (p3) _ := ⟨blk_kp hSb.1 hk7 (by omega), blk_kp hSb.2 hk7 (by omega)⟩
              refine hK.out _ _ (hS7) ?_
              clear hK K
              try simp only [Act.put, List.setIfInBounds_toArray, List.set_cons_zero, List.set_cons_succ]
              have hbd7 := Kp.below (HBD.out.trans (HBd.out.mono HBD.out.size)) (Nat.le_refl _) hk7 (by omega)
              have hbs7 := (HBS.out.below HBd.out).kp4 hRb (by intro x; simp) (by intro x; simp) (by intro x; simp) (by intro x; simp) hk7
              obtain ⟨r0, r1, r2, r3⟩ := hR7.c4
              generalize (((wb.setCell ⟨w.heap.size + 1, 0, none⟩ (.slice a n m)).setCell ⟨w.heap.size + 1, 1, none⟩ (.int .i64 (p3))).setCell ⟨w.heap.size + 1, 2, none⟩ (.int .i64 0)).setCell ⟨w.heap.size + 1, 3, none⟩ (.int .i64 0) = w7 at *
              repeat (first | (refine Seq.Seq.skip (by rfl) ?_; (try simp only [Act.put, List.setIfInBounds_toArray, List.set_cons_zero, List.set_cons_succ])) | (refine Seq.Seq.det ?_ (by rfl) (fun w hS => ?_) ?_; rotate_left; ((try dsimp only at hS); go_simp; (try rw [if_pos (by omega)]); with_reducible rfl); (try simp only [Act.put, List.setIfInBounds_toArray, List.set_cons_zero, List.set_cons_succ])))
              refine Seq.Seq.nil ?_
              have HBS7 := Lib.hid hbs7
              have HBD7 := Lib.hid hbd7
              clear L hS hSb hS7 hsl hR7 hRb hbs7 hbd7 g0 g1 g2 g3 hk7
              go_wp2
              refine bodyPost_ret (v := .tuple #[cv (.slice a n m) (p3) 0 0, .slice A11 k11 m11, .bool of]) (by simp [results, Tryz.results61, go_sem, r0, r1, r2, r3]) rfl ⟨A11, k11, m11, l, p3, 0, 0, ?_, HBD7.out, HST.out, HBS7.out, HLB.out, HFR.out, hk11, HN11.out⟩
              have eof : decide (bkb l = piece z s0.toNat (p3).toNat) = decide (piece z s0.toNat (p3).toNat = bkb l) := decide_eq_decide.2 eq_comm
              rw [HOF.out, eof, decide_eq_true (rfl : (0 : Int) = 0), Bool.true_and]
          · have hcb4 : (c4 != 0) = true := by simpa using hc4
            have ew1 : IntKind.i64.wrap (p3 - tl) = p3 - tl := IntWalk.i64_in _ (by omega)
            have ew2 : IntKind.i64.wrap (p3 - tl + q4) = p3 - tl + q4 := IntWalk.i64_in _ (by omega)
            have HC4 := Lib.hid hc4
            clear hF hc4
            go_wp2_with fail
            refine (rfail_any _ _ _ _ _ _ _ _ _).mono ?_
            rintro e w10 ⟨c9, q9, rfl, hb10, hf⟩
            have hc9 : c9 ≠ 0 := by
              rcases hf with ⟨_, h, _⟩ | ⟨h, _⟩
              · rw [h]; exact HC4.out
              · exact absurd rfl h
            have HST : Hid (St [] n (bk z most s0) s0 0 0 [] p3 c9 q9) := Lib.hid (by
              have hf7 : FailSt 0 0 c4 (fq c4 (q4 + (p3 - t.length))) c9 q9 := by
                have e : fq c4 (q4 + (p3 - t.length)) = p3 - tl + q4 := by
                  unfold fq
                  rw [if_neg HC4.out, HTL.out]
                  omega
                rw [e]
                exact hf
              obtain ⟨l', hl1, hl2⟩ : ∃ l', St [] n (bc z N x p2) p2 0 0 l' p3 c9 q9 ∧ (c9 = 0 → l' = y) := by
                by_cases hlt : (y.length : Int) < N
                · exact bc_st HX0.out HS5.out HG.out.symm (fun _ => rfl) hf7 (.inl ⟨hlt, .inr ⟨hc9, rfl, rfl⟩⟩)
                · exact bc_st HX0.out HS5.out HG.out.symm (fun _ => rfl) hf7 (.inr ⟨hlt, rfl, rfl⟩)
              have := hl1.nil hc9
              subst this
              exact HBC.out _ _ _ _ hl1)
            clear hf j0 j1 ew1 ew2
            replace hbd := hbd.trans (hb10.mono hbd.size)
            replace hR := hR.below hb10
            replace hC := hC.below hb10
            replace hE := hE.below hb10
            clear e0 e1 e2 e3 hb10
            obtain ⟨e0, e1, e2, e3⟩ := hE.c4
            obtain ⟨f0, f1, f2, f3⟩ := hE.f4
            obtain ⟨hE6, hk6⟩ := set4 hE (.slice a n m) (.int .i64 p3) (.int .i64 c9) (.int .i64 q9)
            have hR6 := blk_kp hR hk6 (by omega)
            have hC6 := blk_kp hC hk6 (by omega)
            have hbd6 := Kp.below hbd (Nat.le_refl _) hk6 (by omega)
            clear hbd hR hC hE hk6 hbs
            go_upto_region 21 with (fail)
            generalize (((w10.setCell ⟨eb, 0, none⟩ (.slice a n m)).setCell ⟨eb, 1, none⟩ (.int .i64 p3)).setCell ⟨eb, 2, none⟩ (.int .i64 c9)).setCell ⟨eb, 3, none⟩ (.int .i64 q9) = w11 at *
            have hE := hE6
            have hR := hR6
            have hC := hC6
            have hbd := hbd6
            clear e0 e1 e2 e3 f0 f1 f2 f3 hE6 hR6 hC6 hbd6
            have hcb9 : (c9 != 0) = true := by simpa using hc9
            have HNC := Lib.hid hc9
            clear hc9
            clear hC
            obtain ⟨e0, e1, e2, e3⟩ := hE.c4
            obtain ⟨r0, r1, r2, r3⟩ := hR.c4
            obtain ⟨g0, g1, g2, g3⟩ := hR.f4
            have HBD := Lib.hid (set4_below hbd (show w.heap.size ≤ w.heap.size + 1 by omega) (.slice a n m) (.int .i64 (p3)) (.int .i64 (c9)) (.int .i64 (q9)))
            clear hbd hE hR
            go_wp2
            refine bodyPost_ret (v := .tuple #[cv (.slice a n m) (p3) (c9) (q9), .slice none 0 0, .bool false]) (by simp [results, Tryz.results61, go_sem, r0, r1, r2, r3]) rfl ⟨none, 0, 0, [], p3, c9, q9, by rw [decide_eq_false HNC.out]; rfl, HBD.out, HST.out, Bs.none _, by simp, (fun _ h => by cases h), Nat.le_refl _, fun _ => rfl⟩
        · have hcb3 : (c3 == 0) = false := by simpa using hc3
          have hcb3' : (c3 != 0) = true := by simpa using hc3
          have HNC := Lib.hid hc3
          have HST : Hid (St [] n (bk z most s0) s0 0 0 [] p3 c3 q3) := Lib.hid (by
            have ht := HS5.out.nil hc3
            have hE0 : exv t N = ([], 0, 0) := by rw [ht]; exact exv_nil N
            obtain ⟨l', hl1, hl2⟩ : ∃ l', St [] n (bc z N x p2) p2 0 0 l' p3 c3 q3 ∧ (c3 = 0 → l' = []) := by
              by_cases hlt : (([] : List Int).length : Int) < N
              · exact bc_st (c7 := c3) (q7 := q3) HX0.out HS5.out hE0 (fun _ => rfl) (.inr ⟨hc3, rfl, rfl⟩) (.inl ⟨hlt, .inr ⟨hc3, rfl, rfl⟩⟩)
              · exact bc_st (c7 := c3) (q7 := q3) HX0.out HS5.out hE0 (fun _ => rfl) (.inr ⟨hc3, rfl, rfl⟩) (.inr ⟨hlt, rfl, rfl⟩)
            have := hl1.nil hc3
            subst this
            exact HBC.out _ _ _ _ hl1)
          clear hbs7 hc3
          clear hC
          obtain ⟨e0, e1, e2, e3⟩ := hE.c4
          obtain ⟨r0, r1, r2, r3⟩ := hR.c4
          obtain ⟨g0, g1, g2, g3⟩ := hR.f4
          have HBD := Lib.hid (set4_below hbd (show w.heap.size ≤ w.heap.size + 1 by omega) (.slice a n m) (.int .i64 (p3)) (.int .i64 (c3)) (.int .i64 (q3)))
          clear hbd hE hR
          go_wp2
          refine bodyPost_ret (v := .tuple #[cv (.slice a n m) (p3) (c3) (q3), .slice none 0 0, .bool false]) (by simp [results, Tryz.results61, go_sem, r0, r1, r2, r3]) rfl ⟨none, 0, 0, [], p3, c3, q3, by rw [decide_eq_false HNC.out]; rfl, HBD.out, HST.out, Bs.none _, by simp, (fun _ h => by cases h), Nat.le_refl _, fun _ => rfl⟩
  · have hcb : (c2 != 0) = true := by simpa using hc2
    have HNC := Lib.hid hc2
    have HST : Hid (St [] n (bk z most s0) s0 cc qq [] p2 c2 q2) := Lib.hid (by
      by_cases hy : 1 < wy.getD 0 0
      · exact bk_st HS1.out HS3.out (.inl ⟨hy, .inr ⟨hc2, rfl, rfl⟩⟩) (St.stay p20 p21 hc2)
      · exact bk_st HS1.out HS3.out (.inr ⟨hy, rfl, rfl⟩) (St.stay p20 p21 hc2))
    have hE0 := hE.c4
    clear hD hbs3 hc2
    go_upto_region 6 with (fail)
    clear hE0
    generalize w3.alloc (.cells (cvs (.slice a n m) p2 c2 q2) 50) = w4 at *
    generalize w3.heap.size = eb at *
    clear hC
    obtain ⟨e0, e1, e2, e3⟩ := hE.c4
    obtain ⟨r0, r1, r2, r3⟩ := hR.c4
    obtain ⟨g0, g1, g2, g3⟩ := hR.f4
    have HBD := Lib.hid (set4_below hbd (show w.heap.size ≤ w.heap.size + 1 by omega) (.slice a n m) (.int .i64 (p2)) (.int .i64 (c2)) (.int .i64 (q2)))
    clear hbd hE hR
    go_wp2
    refine bodyPost_ret (v := .tuple #[cv (.slice a n m) (p2) (c2) (q2), .slice none 0 0, .bool false]) (by simp [results, Tryz.results61, go_sem, r0, r1, r2, r3]) rfl ⟨none, 0, 0, [], p2, c2, q2, by rw [decide_eq_false HNC.out]; rfl, HBD.out, HST.out, Bs.none _, by simp, (fun _ h => by cases h), Nat.le_refl _, fun _ => rfl⟩
end Go.Proofs.YtlealkfkddhnnaaGreat.Cur
namespace Go.Proofs.YtlealkfkddhnnaaGreat.Cur
open Go.RowKit Go.Shelf Mem
attribute [local go_sem] Oper.semAt_some
set_option linter.unusedVariables false
set_option maxRecDepth 100000
def RrPost (s : Value) (z : List Int) (n : Nat) (most s0 cc qq : Int) (w : World) (e : Ending) (w' : World) : Prop :=
  ∃ A k m l p' c' q', e = .returned (.tuple #[cv s p' c' q', .slice A k m]) ∧ Below w.heap.size w w' ∧ St [] n (bks z most s0) s0 cc qq l p' c' q' ∧ Bs w' A k l ∧ (∀ x ∈ l, 0 ≤ x ∧ x < 256) ∧ (∀ ad, A = some ad → w.heap.size ≤ ad.block) ∧ k ≤ m ∧ (A = none → m = 0)
set_option maxHeartbeats 4000000 in
theorem rread16_any (a : Option Addr) (n m : Nat) (z : List Int) (most s0 cc qq : Int) (w : World) (hz : Bs w a n z) (ha : a = none → m = 0) (i0 : 0 ≤ s0) (i1 : s0 ≤ n) (hm : n ≤ m) (hn : n ≤ 10000) (hby : ∀ x ∈ z, 0 ≤ x ∧ x < 256) (hmo : most ≤ 1048576) (hfw : cc = 0 → Few z most s0) (hq : cc = 0 → qq = 0) :
    Calls Tryz.prog 60 #[cv (.slice a n m) s0 cc qq, .int .i64 most] w (RrPost (.slice a n m) z n most s0 cc qq w) := by
  have hL := fun W (h : Below w.heap.size w W) => rloose16_any a n m z most s0 cc qq W (hz.below h) ha i0 i1 hm hn hby hmo hfw hq
  unfold RlPost at hL
  have HL := Lib.hid hL
  clear hz hby ha hL hmo hfw hq i0 i1
  go_enter Tryz.func60, Tryz.ntmps60
  go_wp2_with fail
  with_reducible refine (HL.out _ (below_two _ _ _)).mono ?_
  rintro e w1 ⟨A, k, m1, l, p', c', q', rfl, hb1, hs1, hbs1, hlb, hfr, hkm, hnn⟩
  obtain ⟨hC, hR, hbd⟩ := two_new hb1
  obtain ⟨p10, p11⟩ := hs1.place
  obtain ⟨ow, how⟩ : ∃ ow, ow = (decide (c' = 0) && decide (piece z s0.toNat p'.toNat = bkb l)) := ⟨_, rfl⟩
  rw [← how]
  have HS := Lib.hid hs1
  have HLB := Lib.hid hlb
  have HFR : Hid (∀ ad, A = some ad → w.heap.size ≤ ad.block) := Lib.hid (fun ad e => by have := hfr ad e; simp at this; omega)
  have HNN := Lib.hid hnn
  clear hfr hnn
  have HOW := Lib.hid how
  have hD := Blk.new w1 (cvs (.slice a n m) p' c' q') 50
  replace hbd := hbd.alloc hbd.size (.cells (cvs (.slice a n m) p' c' q') 50)
  have hlt1 : w.heap.size + 1 < w1.heap.size := hR.lt
  replace hR := hR.alloc (.cells (cvs (.slice a n m) p' c' q') 50)
  replace hbs1 := hbs1.alloc (.cells (cvs (.slice a n m) p' c' q') 50)
  clear hb1 hs1 hC hlb how HL
  go_upto_region 2 with (fail)
  generalize w1.alloc (.cells (cvs (.slice a n m) p' c' q') 50) = w2 at *
  generalize w1.heap.size = db at *
  obtain ⟨d0, d1, d2, d3⟩ := hD.c4
  by_cases hc : c' = 0
  · subst hc
    by_cases ho : piece z s0.toNat p'.toNat = bkb l
    · have hw : ow = true := by rw [HOW.out, decide_eq_true rfl, decide_eq_true ho]; rfl
      have HST : Hid (St [] n (bks z most s0) s0 cc qq l p' 0 q') := Lib.hid (by
        unfold bks
        refine HS.out.bind ?_
        exact St.done (if_pos ho) p10 p11)
      clear ho HOW
      subst hw
      obtain ⟨c', hc'⟩ : ∃ c' : Int, c' = 0 := ⟨_, rfl⟩
      clear c' hc'
      obtain ⟨r0, r1, r2, r3⟩ := hR.c4
      obtain ⟨g0, g1, g2, g3⟩ := hR.f4
      obtain ⟨_, hk3⟩ := set4 hR (.slice a n m) (.int .i64 p') (.int .i64 0) (.int .i64 q')
      have HBD := Lib.hid (set4_below hbd (show w.heap.size ≤ w.heap.size + 1 by omega) (.slice a n m) (.int .i64 p') (.int .i64 0) (.int .i64 q'))
      have HBS := Lib.hid (hbs1.kp4 hR (by intro x; simp) (by intro x; simp) (by intro x; simp) (by intro x; simp) hk3)
      clear hbd hR hk3 hbs1 hD
      go_wp2
      refine bodyPost_ret (v := .tuple #[cv (.slice a n m) p' 0 q', .slice A k m1]) (by simp [results, Tryz.results60, go_sem, r0, r1, r2, r3]) rfl ⟨A, k, m1, l, p', 0, q', rfl, HBD.out, HST.out, HBS.out, HLB.out, HFR.out, hkm, HNN.out⟩
    · have hw : ow = false := by rw [HOW.out, decide_eq_true rfl, decide_eq_false ho]; rfl
      have HO := Lib.hid ho
      clear ho HOW
      subst hw
      go_wp2_with fail
      refine (rfail_any _ _ _ _ _ _ _ _ _).mono ?_
      rintro e w5 ⟨c5, q5, rfl, hb5, hf⟩
      have h5 : c5 = 12 ∧ q5 = p' := by
        rcases hf with ⟨_, e1, e2⟩ | ⟨h, _⟩
        · exact ⟨e1, by rw [e2]; rfl⟩
        · exact absurd rfl h
      obtain ⟨rfl, rfl⟩ := h5
      have HST : Hid (St [] n (bks z most s0) s0 cc qq [] q5 12 q5) := Lib.hid (by
        unfold bks
        refine HS.out.bind ?_
        exact St.fault (x := []) (y := 0) (if_neg HO.out) (by decide) p10 p11)
      replace hbd := hbd.trans (hb5.mono hbd.size)
      replace hR := hR.below hb5
      obtain ⟨r0, r1, r2, r3⟩ := hR.c4
      obtain ⟨g0, g1, g2, g3⟩ := hR.f4
      have HBD := Lib.hid (set4_below hbd (show w.heap.size ≤ w.heap.size + 1 by omega) (.slice a n m) (.int .i64 q5) (.int .i64 12) (.int .i64 q5))
      clear hbd hR hbs1 hD d0 d1 d2 d3 hb5 hf
      go_wp2
      refine bodyPost_ret (v := .tuple #[cv (.slice a n m) q5 12 q5, .slice none 0 0]) (by simp [results, Tryz.results60, go_sem, r0, r1, r2, r3]) rfl ⟨none, 0, 0, [], q5, 12, q5, rfl, HBD.out, HST.out, Bs.none _, by simp, (fun _ h => by cases h), Nat.le_refl _, fun _ => rfl⟩
  · have hcb : (c' == 0) = false := by simpa using hc
    have hl := HS.out.nil hc
    subst hl
    have HST : Hid (St [] n (bks z most s0) s0 cc qq [] p' c' q') := Lib.hid (by
      unfold bks
      refine HS.out.bind ?_
      exact St.stay p10 p11 hc)
    clear hc HOW
    obtain ⟨r0, r1, r2, r3⟩ := hR.c4
    obtain ⟨g0, g1, g2, g3⟩ := hR.f4
    obtain ⟨_, hk3⟩ := set4 hR (.slice a n m) (.int .i64 p') (.int .i64 c') (.int .i64 q')
    have HBD := Lib.hid (set4_below hbd (show w.heap.size ≤ w.heap.size + 1 by omega) (.slice a n m) (.int .i64 p') (.int .i64 c') (.int .i64 q'))
    have HBS := Lib.hid (hbs1.kp4 hR (by intro x; simp) (by intro x; simp) (by intro x; simp) (by intro x; simp) hk3)
    clear hbd hR hk3 hbs1 hD
    go_wp2
    refine bodyPost_ret (v := .tuple #[cv (.slice a n m) p' c' q', .slice A k m1]) (by simp [results, Tryz.results60, go_sem, r0, r1, r2, r3]) rfl ⟨A, k, m1, _, p', c', q', rfl, HBD.out, HST.out, HBS.out, HLB.out, HFR.out, hkm, HNN.out⟩
end Go.Proofs.YtlealkfkddhnnaaGreat.Cur
