/- As the seat's text, without what nothing here names. -/
import Derived.Test.YtmiimjgfainclaaGreatK16w
import Derived.Test.YtmiimjgfainclaaGreatK6w
import Derived.Test.YtmiimjgfainclaaGreatK12w
import Derived.Test.YtmiimjgfainclaaGreatK1w
import Derived.Test.YtmiimjgfainclaaGreatK17w
namespace Go.Proofs.YtmiimjgfainclaaGreat.Cur
open Go.RowKit Go.Shelf Mem
attribute [local go_sem] Oper.semAt_some
set_option linter.unusedVariables false
set_option maxRecDepth 100000
def pk (z : List Int) : Bool := decide (vsz (cps z).length + (cps z).length < z.length)
def bkb (z : List Int) : List Int := vz z.length ++ (if pk z then 1 :: (vz (cps z).length ++ cps z) else 0 :: z)
def bki (z : List Int) : List (List Int) := if pk z then [vz z.length, [1], vz (cps z).length, cps z] else [vz z.length, [0], z]
theorem bki_flat (z : List Int) : (bki z).flatten = bkb z := by
  unfold bki bkb
  split <;> simp
theorem bkb_len (z : List Int) : (bkb z).length ≤ z.length + 11 := by
  have := vsz_le (z.length : Int)
  unfold bkb
  split
  · rename_i h
    unfold pk at h
    rw [decide_eq_true_eq] at h
    simp [vz_length]
    omega
  · simp [vz_length]
    omega
theorem Wr.fresh {w : World} {B b : Nat} {r : Option Nat} {z : List Int} {M c : Int} (h : Wr w B b r z M c) {g : Nat} (hg : w.heap.size ≤ g) : ¬ WS b r g := by
  obtain ⟨v, rfl, hb, ho, _⟩ := h
  rintro (e | e)
  · have := hb.lt; omega
  · have := ho.lt _ e; omega
theorem gr_mono {r r' : Option Nat} {w w' : World} (h : Gr r r' w') (hs : w.heap.size ≤ w'.heap.size) : Gr r r' w := by
  rcases h with e | ⟨g, e, h⟩
  · exact .inl e
  · exact .inr ⟨g, e, Nat.le_trans hs h⟩
def BWrPost (z : List Int) (w : World) (e : Ending) (w' : World) : Prop :=
  ∃ A n m, e = .returned (.tuple #[.int .u8 (if pk z then 1 else 0), .slice A n m, .int .i64 0]) ∧ Below w.heap.size w w' ∧ Bs w' A n (cps z) ∧ n ≤ m ∧ (A = none → m = 0) ∧ (0 < n → ∀ a, A = some a → w.heap.size ≤ a.block)
set_option maxHeartbeats 2000000 in
theorem bwritten_any {w : World} {A : Option Addr} {n m : Nat} {z : List Int} (hz : Bs w A n z) (hby : ∀ x ∈ z, 0 ≤ x ∧ x < 256) (hm : n ≤ m) (hn : n ≤ 10000) : Calls Tryz.prog 162 #[.slice A n m] w (BWrPost z w) := by
  have hP := pbytes_any (m := m) hz hby hm hn
  have hcl := cps_len (z := z) (by rw [hz.1]; omega) hby
  rw [hz.1] at hcl
  have HK : Hid (pk z = decide (vsz (cps z).length + (cps z).length < n)) := Lib.hid (by unfold pk; rw [hz.1])
  unfold BWrPost
  obtain ⟨k, hk⟩ : ∃ k, k = pk z := ⟨_, rfl⟩
  rw [← hk] at HK ⊢
  have HKK := Lib.hid hk
  clear hz hby hk
  go_enter Tryz.func162, Tryz.ntmps162
  go_wp2_with fail
  with_reducible refine hP.mono ?_
  rintro e w1 ⟨A1, n1, m1, rfl, hb1, hbs, hm1, hA1, hge⟩
  have hl : (cps z).length = n1 := hbs.1
  rw [hl] at HK hcl
  have hbz := bsize_any (n1 : Int) w1 (by omega)
  rw [show max (n1 : Int) 0 = n1 by omega] at hbz
  have HB := Lib.hid hb1
  have HS := Lib.hid hbs
  have HGE := Lib.hid hge
  have hv := vsz_le (n1 : Int)
  clear hP hl hb1 hbs hge
  obtain ⟨v, hv'⟩ : ∃ v, v = vsz (n1 : Int) := ⟨_, rfl⟩
  rw [← hv'] at hv hbz HK
  clear hv'
  have HD : Hid (decide ((v : Int) + (n1 : Int) < (n : Int)) = k) := Lib.hid (by
    rw [HK.out]
    by_cases h : v + n1 < n
    · rw [decide_eq_true h, decide_eq_true (by omega)]
    · rw [decide_eq_false h, decide_eq_false (by omega)])
  go_wp2_with fail
  with_reducible refine hbz.mono ?_
  rintro e w2 ⟨rfl, rfl⟩
  clear hbz
  cases k
  · have hnl : ¬ (v : Int) + (n1 : Int) < (n : Int) := fun h => by have := HD.out; rw [decide_eq_true h] at this; cases this
    clear HD HK
    go_wp2
    go_ret3
    exact ⟨A1, n1, m1, rfl, HB.out, HS.out, hm1, hA1, HGE.out⟩
  · have hnl : (v : Int) + (n1 : Int) < (n : Int) := of_decide_eq_true HD.out
    clear HD HK
    go_wp2
    go_ret3
    exact ⟨A1, n1, m1, rfl, HB.out, HS.out, hm1, hA1, HGE.out⟩
set_option maxHeartbeats 2000000 in
theorem kput_any {w : World} {B b : Nat} {r : Option Nat} {z y : List Int} {M c : Int} (A : Option Addr) (n m : Nat) (h : Wr w B b r y M c) (hz : Bs w A n z) (hA : A = none → m = 0) (hoff : 0 < n → ∀ a, A = some a → ¬ WS b r a.block)
    (hby : ∀ x ∈ z, 0 ≤ x ∧ x < 256) (hm : n ≤ m) (hn : n ≤ 10000) (hsz : y.length ≤ 100000) (hBw : B ≤ w.heap.size) :
    Calls Tryz.prog 106 #[.pointer (some ⟨b, 0, none⟩), .slice A n m] w (WPutsPost B b r y (bki z) M c w) := by
  have hW := bwritten_any (m := m) hz hby hm hn
  unfold BWrPost at hW
  have hzl := hz.1
  have hcl := cps_len (z := z) (by rw [hz.1]; omega) hby
  have hlt : 0 < n → ∀ a, A = some a → a.block < w.heap.size := fun h0 => hz.lt h0
  have HZ := Lib.hid hz
  have HOFF := Lib.hid hoff
  have HLT := Lib.hid hlt
  have HKI : Hid (bki z = if pk z then [vz (n : Int), [1], vz (cps z).length, cps z] else [vz (n : Int), [0], z]) := Lib.hid (by unfold bki; rw [hzl])
  rw [hzl] at hcl
  clear hz hby hoff hlt hzl
  go_enter Tryz.func106, Tryz.ntmps106
  go_wp2_with fail
  with_reducible refine hW.mono ?_
  rintro e w1 ⟨A1, n1, m1, rfl, hb1, hbs, hm1, hA1, hge⟩
  have hc1 : (cps z).length = n1 := hbs.1
  rw [hc1] at hcl HKI
  have h1 := h.below hb1
  have HS := Lib.hid hbs
  have HGE := Lib.hid hge
  have HB := Lib.hid hb1
  have hle := putZ_le y (vz n) M c
  rw [vz_length] at hle
  have hv := vsz_le (n : Int)
  have HLE : Hid ((putZ y (vz n) M c).length ≤ 100010) := Lib.hid (by omega)
  clear hW hbs hge hc1 hle hv
  have hn0 : (0 : Int) ≤ n := by omega
  have hoff1 : 0 < n1 → ∀ a, A1 = some a → ¬ WS b r a.block := fun h0 a ha => h.fresh (HGE.out h0 a ha)
  have hlt1 : 0 < n1 → ∀ a, A1 = some a → a.block < w1.heap.size := fun h0 a ha => HS.out.lt h0 a ha
  have HOFF1 := Lib.hid hoff1
  have HLT1 := Lib.hid hlt1
  have HB0 := Lib.hid (Nat.le_trans hBw hb1.size)
  have HB1 := Lib.hid hb1
  clear hoff1 hlt1 hb1 h
  cases hk : pk z
  · rw [hk, if_neg (by decide)] at HKI
    rw [if_neg (by decide)]
    clear hk
    go_wp2_with fail
    with_reducible refine (vput_any (n : Int) h1 hn0 (by omega) (by omega) HB0.out).mono ?_
    rintro e w2 ⟨r2, rfl, hk2, hg2, hw2⟩
    have hbA := below_one w2 (.cells #[.int .u8 0] 5)
    have hwA := hw2.below hbA
    have hsA : Bs (w2.alloc (.cells #[.int .u8 0] 5)) (some ⟨w2.heap.size, 0, none⟩) 1 [0] := bs_new w2 [0] 5
    have hfr := hw2.fresh (Nat.le_refl _)
    have HLE2 : Hid ((putZ (putZ y (vz n) M c) [0] M (putC y (vz n) M c)).length ≤ 100011) := Lib.hid (by have h1 := putZ_le (putZ y (vz n) M c) [0] M (putC y (vz n) M c); have h2 := HLE.out; rw [List.length_singleton] at h1; omega)
    have HBA := Lib.hid (Nat.le_trans HB0.out (Nat.le_trans hk2.size hbA.size))
    go_wp2_with fail
    with_reducible refine (wput_any (some ⟨w2.heap.size, 0, none⟩) 1 1 hwA hsA (by simp) (fun _ a ha => by injection ha with ha; subst ha; exact hfr) (by have := HLE.out; omega) HBA.out).mono ?_
    rintro e w4 ⟨r4, rfl, hk4, hg4, hw4⟩
    have hk3 := Ks.wr hk2 hg2 ((Ks.of_below hbA).trans hk4)
    have HG14 := Lib.hid (hg2.trans (gr_mono hg4 hbA.size) hk2.size)
    have HOFF3 := Lib.hid (off_gr (fun h0 a ha => Nat.lt_of_lt_of_le (HLT.out h0 a ha) HB1.out.size) HOFF.out hg2)
    have HOFF4 := Lib.hid (off_gr (fun h0 a ha => Nat.lt_of_lt_of_le (HLT.out h0 a ha) HB1.out.size) HOFF.out HG14.out)
    have HOFF6 := Lib.hid (off_gr HLT1.out HOFF1.out hg2)
    have HOFF5 := Lib.hid (off_gr HLT1.out HOFF1.out HG14.out)
    have HB4 := Lib.hid (Nat.le_trans HB0.out hk3.size)
    have HK := Lib.hid ((Ks.of_below (S := WS b r) HB1.out).trans hk3)
    have HG := Lib.hid (gr_mono HG14.out HB1.out.size)
    have HGR := Lib.hid (fun j (hj : j < w.heap.size) (hs : WS b r4 j) => (show WS b r j from by
      rcases hs with e | e
      · exact .inl e
      · rcases HG.out with e2 | ⟨g, e2, h2⟩
        · exact .inr (by rw [← e2]; exact e)
        · rw [e2] at e; injection e with e; omega))
    clear hfr hsA hwA hw2 hg2 hg4
    have hz3 := (((HZ.out.below HB1.out).ks hk2 (fun h0 a ha => HOFF.out h0 a ha)).below hbA).ks hk4 (fun h0 a ha => HOFF3.out h0 a ha)
    clear hk3 hk4 hbA
    go_wp2_with fail
    with_reducible refine (wput_any A n m hw4 hz3 hA HOFF4.out (by have := HLE2.out; omega) HB4.out).mono ?_
    rintro e w5 ⟨r5, rfl, hk5, hg5, hw5⟩
    go_wp2
    go_end0
    refine ⟨r5, rfl, HK.out.trans' hk5 (fun j hj hs => HGR.out j hj hs), HG.out.trans hg5 HK.out.size, ?_⟩
    rw [HKI.out]
    exact hw5
  · rw [hk, if_pos rfl] at HKI
    rw [if_pos rfl]
    clear hk
    go_wp2_with fail
    with_reducible refine (vput_any (n : Int) h1 hn0 (by omega) (by omega) HB0.out).mono ?_
    rintro e w2 ⟨r2, rfl, hk2, hg2, hw2⟩
    have hbA := below_one w2 (.cells #[.int .u8 1] 5)
    have hwA := hw2.below hbA
    have hsA : Bs (w2.alloc (.cells #[.int .u8 1] 5)) (some ⟨w2.heap.size, 0, none⟩) 1 [1] := bs_new w2 [1] 5
    have hfr := hw2.fresh (Nat.le_refl _)
    have HLE2 : Hid ((putZ (putZ y (vz n) M c) [1] M (putC y (vz n) M c)).length ≤ 100011) := Lib.hid (by have h1 := putZ_le (putZ y (vz n) M c) [1] M (putC y (vz n) M c); have h2 := HLE.out; rw [List.length_singleton] at h1; omega)
    have HBA := Lib.hid (Nat.le_trans HB0.out (Nat.le_trans hk2.size hbA.size))
    go_wp2_with fail
    with_reducible refine (wput_any (some ⟨w2.heap.size, 0, none⟩) 1 1 hwA hsA (by simp) (fun _ a ha => by injection ha with ha; subst ha; exact hfr) (by have := HLE.out; omega) HBA.out).mono ?_
    rintro e w4 ⟨r4, rfl, hk4, hg4, hw4⟩
    have hk3 := Ks.wr hk2 hg2 ((Ks.of_below hbA).trans hk4)
    have HG14 := Lib.hid (hg2.trans (gr_mono hg4 hbA.size) hk2.size)
    have HOFF3 := Lib.hid (off_gr (fun h0 a ha => Nat.lt_of_lt_of_le (HLT.out h0 a ha) HB1.out.size) HOFF.out hg2)
    have HOFF4 := Lib.hid (off_gr (fun h0 a ha => Nat.lt_of_lt_of_le (HLT.out h0 a ha) HB1.out.size) HOFF.out HG14.out)
    have HOFF6 := Lib.hid (off_gr HLT1.out HOFF1.out hg2)
    have HOFF5 := Lib.hid (off_gr HLT1.out HOFF1.out HG14.out)
    have HB4 := Lib.hid (Nat.le_trans HB0.out hk3.size)
    have HK := Lib.hid ((Ks.of_below (S := WS b r) HB1.out).trans hk3)
    have HG := Lib.hid (gr_mono HG14.out HB1.out.size)
    have HGR := Lib.hid (fun j (hj : j < w.heap.size) (hs : WS b r4 j) => (show WS b r j from by
      rcases hs with e | e
      · exact .inl e
      · rcases HG.out with e2 | ⟨g, e2, h2⟩
        · exact .inr (by rw [← e2]; exact e)
        · rw [e2] at e; injection e with e; omega))
    clear hfr hsA hwA hw2 hg2 hg4
    have hz3 := ((HS.out.ks hk2 (fun h0 a ha => HOFF1.out h0 a ha)).below hbA).ks hk4 (fun h0 a ha => HOFF6.out h0 a ha)
    clear hk3 hk4 hbA
    go_wp2_with fail
    with_reducible refine (bput_any A1 n1 m1 hw4 hz3 hA1 HOFF5.out (by have := HLE2.out; omega) HB4.out).mono ?_
    rintro e w5 ⟨r5, rfl, hk5, hg5, hw5⟩
    go_wp2
    go_end0
    refine ⟨r5, rfl, HK.out.trans' hk5 (fun j hj hs => HGR.out j hj hs), HG.out.trans hg5 HK.out.size, ?_⟩
    rw [HKI.out]
    exact hw5
def RPkPost (z : List Int) (w : World) (e : Ending) (w' : World) : Prop := e = .returned (.bool (pk z)) ∧ Below w.heap.size w w'
set_option maxHeartbeats 2000000 in
theorem rpacked_any {w : World} {A : Option Addr} {n m : Nat} {z : List Int} (hz : Bs w A n z) (hby : ∀ x ∈ z, 0 ≤ x ∧ x < 256) (hm : n ≤ m) (hn : n ≤ 10000) : Calls Tryz.prog 129 #[.slice A n m] w (RPkPost z w) := by
  have hP := r15bytes_any (m := m) hz hby hm hn
  have hcl := cps_len (z := z) (by rw [hz.1]; omega) hby
  rw [hz.1] at hcl
  have HK : Hid (pk z = decide (vsz (cps z).length + (cps z).length < n)) := Lib.hid (by unfold pk; rw [hz.1])
  unfold RPkPost
  obtain ⟨k, hk⟩ : ∃ k, k = pk z := ⟨_, rfl⟩
  rw [← hk] at HK ⊢
  clear hz hby hk
  go_enter Tryz.func129, Tryz.ntmps129
  go_wp2_with fail
  with_reducible refine hP.mono ?_
  rintro e w1 ⟨A1, n1, m1, rfl, hb1, hbs, hA1⟩
  have hl : (cps z).length = n1 := hbs.1
  rw [hl] at HK hcl
  have hv := vsz_le (n1 : Int)
  have hR := rbbytes_any A1 n1 m1 (cps z) w1 hbs hA1 (by omega)
  unfold RowPost at hR
  rw [List.length_append, vz_length, hl] at hR
  have HB := Lib.hid hb1
  clear hP hl hb1 hbs
  go_wp2_with fail
  with_reducible refine hR.mono ?_
  rintro e w2 ⟨A2, m2, rfl, hb2, _⟩
  have HB2 := Lib.hid hb2
  clear hR hb2
  generalize vsz (n1 : Int) = v at *
  have HD : Hid (decide ((v : Int) + (n1 : Int) < (n : Int)) = k) := Lib.hid (by
    rw [HK.out]
    by_cases h : v + n1 < n
    · rw [decide_eq_true h, decide_eq_true (by omega)]
    · rw [decide_eq_false h, decide_eq_false (by omega)])
  go_wp2
  go_ret
  refine ⟨?_, HB.out.trans (HB2.out.mono HB.out.size)⟩
  rw [← HD.out]
  rfl
set_option maxHeartbeats 4000000 in
theorem r16bytes_any {w : World} {A : Option Addr} {n m : Nat} {z : List Int} (hz : Bs w A n z) (hA : A = none → m = 0) (hby : ∀ x ∈ z, 0 ≤ x ∧ x < 256) (hm : n ≤ m) (hn : n ≤ 10000) : Calls Tryz.prog 80 #[.slice A n m] w (RowPost (bkb z) w) := by
  have hcl := cps_len (z := z) (by rw [hz.1]; omega) hby
  have hzl := hz.1
  have HBK : Hid (bkb z = vz (n : Int) ++ (if pk z then 1 :: (vz (cps z).length ++ cps z) else 0 :: z)) := Lib.hid (by unfold bkb; rw [hzl])
  have hP := fun W (h : Below w.heap.size w W) => rpacked_any (m := m) (hz.below h) hby hm hn
  have hR := fun W (h : Below w.heap.size w W) => r15bytes_any (m := m) (hz.below h) hby hm hn
  unfold RPkPost at hP
  have HP := Lib.hid hP
  have HR := Lib.hid hR
  have HZ := Lib.hid hz
  rw [hzl] at hcl
  have HL := Lib.hid (vz_length (n : Int))
  have hv := vsz_le (n : Int)
  have hn0 : (0 : Int) ≤ n := by omega
  clear hz hby hzl hP hR
  go_enter Tryz.func80, Tryz.ntmps80
  go_wp2_with fail
  with_reducible refine (rbytes_any 10 _ _ (vsz_le _) hn0 (by omega)).mono ?_
  rintro e w1 ⟨A1, m1, rfl, hb1, _, _, _, ho1⟩
  have HB1 := Lib.hid hb1
  have HO1 := Lib.hid ho1
  clear hb1 ho1
  go_wp2_with fail
  with_reducible refine (HP.out _ HB1.out).mono ?_
  rintro e w2 ⟨rfl, hb2⟩
  have hbd := HB1.out.trans (hb2.mono HB1.out.size)
  have ho2 := HO1.out.below hb2
  clear hb2
  cases hk : pk z
  · rw [hk, if_neg (by decide)] at HBK
    clear hk HR
    have hbA := below_one w2 (.cells #[.int .u8 0] 5)
    have hoA := ho2.below hbA
    have hbdA := hbd.trans (hbA.mono hbd.size)
    have hsA : Bs (w2.alloc (.cells #[.int .u8 0] 5)) (some ⟨w2.heap.size, 0, none⟩) 1 [0] := bs_new w2 [0] 5
    have hBA := hbdA.size
    clear ho2 hbd hbA
    have HNIL : Hid (A = none → m = 0) := Lib.hid hA
    clear hA
    go_wp2_with (at_builtin; go_must (first | (refine list_append_gr rfl (.tmp 18) (.tmp 19) rfl w.heap.size _ (vz (n : Int)) rfl hoA _ 1 _ [0] rfl hsA (by simp) (by rw [HL.out]; omega) hBA ?_; intro v' w3 ho' hg hgr; have hb3 := Own.belowOf hbdA hBA hoA hg; clear hg hgr hoA hsA; obtain ⟨y3, hy3⟩ : ∃ y3, y3 = vz (n : Int) ++ [0] := ⟨_, rfl⟩; rw [← hy3] at ho'; have HY3 := Lib.hid hy3; clear hy3; have hy3 : Hid (y3.length ≤ 100) := Lib.hid (by rw [HY3.out, List.length_append, HL.out]; simp; omega); obtain ⟨A3, c3, rfl⟩ := ho'.slice; have hz3 := HZ.out.below hb3; have hB3 := hb3.size) | (refine list_append_gr rfl (.tmp 21) (.tmp 22) rfl w.heap.size _ y3 rfl ho' _ n m z rfl hz3 HNIL.out (by have := hy3.out; omega) hB3 ?_; intro v'' w4 ho'' hg4 hgr4; have hb4 := Own.belowOf hb3 hB3 ho' hg4; clear hg4 hgr4 ho' hz3 hb3; obtain ⟨y4, hy4⟩ : ∃ y4, y4 = y3 ++ z := ⟨_, rfl⟩; rw [← hy4] at ho''; have HY4 := Lib.hid hy4; clear hy4; obtain ⟨A4, c4, rfl⟩ := ho''.slice; have HO4 := Lib.hid ho''; have HB4 := Lib.hid hb4; clear ho'' hb4)))
    go_ret
    have hy : y4 = bkb z := by rw [HY4.out, HY3.out, HBK.out]; simp
    rw [← hy]
    exact Own.rowPost (B := 0) HO4.out HB4.out
  · rw [hk, if_pos rfl] at HBK
    clear hk
    have hbA := below_one w2 (.cells #[.int .u8 1] 5)
    have hoA := ho2.below hbA
    have hbdA := hbd.trans (hbA.mono hbd.size)
    have hsA : Bs (w2.alloc (.cells #[.int .u8 1] 5)) (some ⟨w2.heap.size, 0, none⟩) 1 [1] := bs_new w2 [1] 5
    have hBA := hbdA.size
    clear ho2 hbd hbA
    go_wp2_with (first | (at_builtin; (refine list_append_gr rfl (.tmp 10) (.tmp 11) rfl w.heap.size _ (vz (n : Int)) rfl hoA _ 1 _ [1] rfl hsA (by simp) (by rw [HL.out]; omega) hBA ?_; intro v' w3 ho' hg hgr; have hb3 := Own.belowOf hbdA hBA hoA hg; clear hg hgr hoA hsA; obtain ⟨y3, hy3⟩ : ∃ y3, y3 = vz (n : Int) ++ [1] := ⟨_, rfl⟩; rw [← hy3] at ho'; have HY3 := Lib.hid hy3; clear hy3; have hy3 : Hid (y3.length ≤ 100) := Lib.hid (by rw [HY3.out, List.length_append, HL.out]; simp; omega); obtain ⟨A3, c3, rfl⟩ := ho'.slice; have HO3 := Lib.hid ho'; have HB3 := Lib.hid hb3; clear ho' hb3)) | fail)
    with_reducible refine (HR.out _ HB3.out).mono ?_
    rintro e w5 ⟨A5, n5, m5, rfl, hb5, hbs5, hA5⟩
    have hc5 : (cps z).length = n5 := hbs5.1
    rw [hc5] at hcl HBK
    have hO5 := HO3.out.below hb5
    have hBD5 := HB3.out.trans (hb5.mono HB3.out.size)
    have hRB := rbbytes_any A5 n5 m5 (cps z) w5 hbs5 hA5 (by omega)
    have HC5 := Lib.hid hc5
    clear hb5 hbs5 hc5
    go_wp2_with fail
    with_reducible refine hRB.mono ?_
    rintro e w6 ⟨A6, m6, rfl, hb6, hbs6, hA6, _⟩
    have ho' := hO5.below hb6
    have hb3 := hBD5.trans (hb6.mono hBD5.size)
    have hB3 := hb3.size
    obtain ⟨y6, hy6⟩ : ∃ y6, y6 = vz (n5 : Int) ++ cps z := ⟨_, rfl⟩
    have hl6 : y6.length ≤ 220000 := by have := vsz_le (n5 : Int); rw [hy6, List.length_append, vz_length, HC5.out]; omega
    rw [← hy6] at hbs6 ⊢
    have HY6 := Lib.hid hy6
    clear hRB hb6 hO5 hBD5 hy6
    go_wp2_with (at_builtin; go_must (refine list_append_gr rfl (.tmp 13) (.tmp 16) rfl w.heap.size _ y3 rfl ho' _ _ _ y6 rfl hbs6 hA6 (by have := hy3.out; omega) hB3 ?_; intro v'' w4 ho'' hg4 hgr4; have hb4 := Own.belowOf hb3 hB3 ho' hg4; clear hg4 hgr4 ho' hbs6 hb3; obtain ⟨y4, hy4⟩ : ∃ y4, y4 = y3 ++ y6 := ⟨_, rfl⟩; rw [← hy4] at ho''; have HY4 := Lib.hid hy4; clear hy4; obtain ⟨A4, c4, rfl⟩ := ho''.slice; have HO4 := Lib.hid ho''; have HB4 := Lib.hid hb4; clear ho'' hb4))
    go_ret
    have hy : y4 = bkb z := by rw [HY4.out, HY3.out, HY6.out, HBK.out]; simp
    rw [← hy]
    exact Own.rowPost (B := 0) HO4.out HB4.out
end Go.Proofs.YtmiimjgfainclaaGreat.Cur
namespace Go.Proofs.YtmiimjgfainclaaGreat.Cur
open Go.RowKit Go.Shelf Mem
attribute [local go_sem] Oper.semAt_some
set_option linter.unusedVariables false
set_option maxRecDepth 100000
end Go.Proofs.YtmiimjgfainclaaGreat.Cur
namespace Go.Proofs.YtmiimjgfainclaaGreat.Cur
open Go.RowKit Go.Shelf Mem
attribute [local go_sem] Oper.semAt_some
set_option linter.unusedVariables false
set_option maxRecDepth 100000
theorem St.val {α : Type} {P : α → Prop} {d : α} {n : Nat} {g : Rs α} {p c q : Int} {v : α} {p' c' q' : Int} (h : St d n g p c q v p' c' q') (hd : P d) (hg : P g.1) : P v := by
  obtain ⟨_, _, ⟨_, rfl, _⟩ | ⟨_, _, rfl, _⟩ | ⟨_, _, rfl, _⟩⟩ := h
  · exact hd
  · exact hg
  · exact hd
end Go.Proofs.YtmiimjgfainclaaGreat.Cur
namespace Go.Proofs.YtmiimjgfainclaaGreat.Cur
open Go.RowKit Go.Shelf Mem
attribute [local go_sem] Oper.semAt_some
set_option linter.unusedVariables false
set_option maxRecDepth 100000
end Go.Proofs.YtmiimjgfainclaaGreat.Cur
namespace Go.Proofs.YtmiimjgfainclaaGreat.Cur
open Go.RowKit Go.Shelf Mem
attribute [local go_sem] Oper.semAt_some
set_option linter.unusedVariables false
set_option maxRecDepth 100000
def gq (G : Rs (List Int)) : Int := if G.2.2.1 = 0 then 0 else G.2.2.2
end Go.Proofs.YtmiimjgfainclaaGreat.Cur
namespace Go.Proofs.YtmiimjgfainclaaGreat.Cur
open Go.RowKit Mem
set_option linter.unusedVariables false
set_option maxRecDepth 100000
end Go.Proofs.YtmiimjgfainclaaGreat.Cur
namespace Go.Proofs.YtmiimjgfainclaaGreat.Cur
open Go.RowKit Go.Shelf Mem
attribute [local go_sem] Oper.semAt_some
set_option linter.unusedVariables false
set_option maxRecDepth 100000
def LzS (eb cb : Nat) (s : Value) (s0 p : Int) (w' : World) : Prop := Blk w' eb (cvs s p 0 0) 56 ∧ Blk w' cb (cvs s s0 0 0) 56
theorem LzS.below {eb cb : Nat} {s : Value} {s0 p : Int} {w' w'' : World} (h : LzS eb cb s s0 p w') (hb : Below w'.heap.size w' w'') : LzS eb cb s s0 p w'' := ⟨h.1.below hb, h.2.below hb⟩
end Go.Proofs.YtmiimjgfainclaaGreat.Cur
namespace Go.Proofs.YtmiimjgfainclaaGreat.Cur
open Go.RowKit Go.Shelf Mem
attribute [local go_sem] Oper.semAt_some
set_option linter.unusedVariables false
set_option maxRecDepth 100000
end Go.Proofs.YtmiimjgfainclaaGreat.Cur
