/- As the seat's text, without what nothing here names. -/
import Derived.Test.YtlealkfkddhnnaaGreatK16y
import Derived.Test.YtlealkfkddhnnaaGreatK6y
import Derived.Test.YtlealkfkddhnnaaGreatK12y
import Derived.Test.YtlealkfkddhnnaaGreatK1y
import Derived.Test.YtlealkfkddhnnaaGreatK17y
namespace Go.Proofs.YtlealkfkddhnnaaGreat.Cur
open Go.RowKit Go.Shelf Mem
attribute [local go_sem] Oper.semAt_some
set_option linter.unusedVariables false
set_option maxRecDepth 100000
def pk (z : List Int) : Bool := decide (vsz (cps z).length + (cps z).length < z.length)
def bkb (z : List Int) : List Int := vz z.length ++ (if pk z then 1 :: (vz (cps z).length ++ cps z) else 0 :: z)
def bki (z : List Int) : List (List Int) := if pk z then [vz z.length, [1], vz (cps z).length, cps z] else [vz z.length, [0], z]
theorem bki_flat (z : List Int) : (bki z).flatten = bkb z := by
  unfold bki bkb
  split <;> simp
theorem bkb_len (z : List Int) : (bkb z).length ≤ z.length + 11 := by
  have := vsz_le (z.length : Int)
  unfold bkb
  split
  · rename_i h
    unfold pk at h
    rw [decide_eq_true_eq] at h
    simp [vz_length]
    omega
  · simp [vz_length]
    omega
theorem Wr.fresh {w : World} {B b : Nat} {r : Option Nat} {z : List Int} {M c : Int} (h : Wr w B b r z M c) {g : Nat} (hg : w.heap.size ≤ g) : ¬ WS b r g := by
  obtain ⟨v, rfl, hb, ho, _⟩ := h
  rintro (e | e)
  · have := hb.lt; omega
  · have := ho.lt _ e; omega
theorem gr_mono {r r' : Option Nat} {w w' : World} (h : Gr r r' w') (hs : w.heap.size ≤ w'.heap.size) : Gr r r' w := by
  rcases h with e | ⟨g, e, h⟩
  · exact .inl e
  · exact .inr ⟨g, e, Nat.le_trans hs h⟩
def BWrPost (z : List Int) (w : World) (e : Ending) (w' : World) : Prop :=
  ∃ A n m, e = .returned (.tuple #[.int .u8 (if pk z then 1 else 0), .slice A n m, .int .i64 0]) ∧ Below w.heap.size w w' ∧ Bs w' A n (cps z) ∧ n ≤ m ∧ (A = none → m = 0) ∧ (0 < n → ∀ a, A = some a → w.heap.size ≤ a.block)
set_option maxHeartbeats 2000000 in
theorem bwritten_any {w : World} {A : Option Addr} {n m : Nat} {z : List Int} (hz : Bs w A n z) (hby : ∀ x ∈ z, 0 ≤ x ∧ x < 256) (hm : n ≤ m) (hn : n ≤ 10000) : Calls Tryz.prog 70 #[.slice A n m] w (BWrPost z w) := by
  have hP := pbytes_any (m := m) hz hby hm hn
  have hcl := cps_len (z := z) (by rw [hz.1]; omega) hby
  rw [hz.1] at hcl
  have HK : Hid (pk z = decide (vsz (cps z).length + (cps z).length < n)) := Lib.hid (by unfold pk; rw [hz.1])
  unfold BWrPost
  obtain ⟨k, hk⟩ : ∃ k, k = pk z := ⟨_, rfl⟩
  rw [← hk] at HK ⊢
  have HKK := Lib.hid hk
  clear hz hby hk
  go_enter Tryz.func70, Tryz.ntmps70
  go_wp2_with fail
  with_reducible refine hP.mono ?_
  rintro e w1 ⟨A1, n1, m1, rfl, hb1, hbs, hm1, hA1, hge⟩
  have hl : (cps z).length = n1 := hbs.1
  rw [hl] at HK hcl
  have hbz := bsize_any (n1 : Int) w1 (by omega)
  rw [show max (n1 : Int) 0 = n1 by omega] at hbz
  have HB := Lib.hid hb1
  have HS := Lib.hid hbs
  have HGE := Lib.hid hge
  have hv := vsz_le (n1 : Int)
  clear hP hl hb1 hbs hge
  obtain ⟨v, hv'⟩ : ∃ v, v = vsz (n1 : Int) := ⟨_, rfl⟩
  rw [← hv'] at hv hbz HK
  clear hv'
  have HD : Hid (decide ((v : Int) + (n1 : Int) < (n : Int)) = k) := Lib.hid (by
    rw [HK.out]
    by_cases h : v + n1 < n
    · rw [decide_eq_true h, decide_eq_true (by omega)]
    · rw [decide_eq_false h, decide_eq_false (by omega)])
  go_wp2_with fail
  with_reducible refine hbz.mono ?_
  rintro e w2 ⟨rfl, rfl⟩
  clear hbz
  cases k
  · have hnl : ¬ (v : Int) + (n1 : Int) < (n : Int) := fun h => by have := HD.out; rw [decide_eq_true h] at this; cases this
    clear HD HK
    go_wp2
    go_ret3
    exact ⟨A1, n1, m1, rfl, HB.out, HS.out, hm1, hA1, HGE.out⟩
  · have hnl : (v : Int) + (n1 : Int) < (n : Int) := of_decide_eq_true HD.out
    clear HD HK
    go_wp2
    go_ret3
    exact ⟨A1, n1, m1, rfl, HB.out, HS.out, hm1, hA1, HGE.out⟩
set_option maxHeartbeats 2000000 in
theorem kput_any {w : World} {B b : Nat} {r : Option Nat} {z y : List Int} {M c : Int} (A : Option Addr) (n m : Nat) (h : Wr w B b r y M c) (hz : Bs w A n z) (hA : A = none → m = 0) (hoff : 0 < n → ∀ a, A = some a → ¬ WS b r a.block)
    (hby : ∀ x ∈ z, 0 ≤ x ∧ x < 256) (hm : n ≤ m) (hn : n ≤ 10000) (hsz : y.length ≤ 100000) (hBw : B ≤ w.heap.size) :
    Calls Tryz.prog 36 #[.pointer (some ⟨b, 0, none⟩), .slice A n m] w (WPutsPost B b r y (bki z) M c w) := by
  have hW := bwritten_any (m := m) hz hby hm hn
  unfold BWrPost at hW
  have hzl := hz.1
  have hcl := cps_len (z := z) (by rw [hz.1]; omega) hby
  have hlt : 0 < n → ∀ a, A = some a → a.block < w.heap.size := fun h0 => hz.lt h0
  have HZ := Lib.hid hz
  have HOFF := Lib.hid hoff
  have HLT := Lib.hid hlt
  have HKI : Hid (bki z = if pk z then [vz (n : Int), [1], vz (cps z).length, cps z] else [vz (n : Int), [0], z]) := Lib.hid (by unfold bki; rw [hzl])
  rw [hzl] at hcl
  clear hz hby hoff hlt hzl
  go_enter Tryz.func36, Tryz.ntmps36
  go_wp2_with fail
  with_reducible refine hW.mono ?_
  rintro e w1 ⟨A1, n1, m1, rfl, hb1, hbs, hm1, hA1, hge⟩
  have hc1 : (cps z).length = n1 := hbs.1
  rw [hc1] at hcl HKI
  have h1 := h.below hb1
  have HS := Lib.hid hbs
  have HGE := Lib.hid hge
  have HB := Lib.hid hb1
  have hle := putZ_le y (vz n) M c
  rw [vz_length] at hle
  have hv := vsz_le (n : Int)
  have HLE : Hid ((putZ y (vz n) M c).length ≤ 100010) := Lib.hid (by omega)
  clear hW hbs hge hc1 hle hv
  have hn0 : (0 : Int) ≤ n := by omega
  have hoff1 : 0 < n1 → ∀ a, A1 = some a → ¬ WS b r a.block := fun h0 a ha => h.fresh (HGE.out h0 a ha)
  have hlt1 : 0 < n1 → ∀ a, A1 = some a → a.block < w1.heap.size := fun h0 a ha => HS.out.lt h0 a ha
  have HOFF1 := Lib.hid hoff1
  have HLT1 := Lib.hid hlt1
  have HB0 := Lib.hid (Nat.le_trans hBw hb1.size)
  have HB1 := Lib.hid hb1
  clear hoff1 hlt1 hb1 h
  cases hk : pk z
  · rw [hk, if_neg (by decide)] at HKI
    rw [if_neg (by decide)]
    clear hk
    go_wp2_with fail
    with_reducible refine (vput_any (n : Int) h1 hn0 (by omega) (by omega) HB0.out).mono ?_
    rintro e w2 ⟨r2, rfl, hk2, hg2, hw2⟩
    have hbA := below_one w2 (.cells #[.int .u8 0] 5)
    have hwA := hw2.below hbA
    have hsA : Bs (w2.alloc (.cells #[.int .u8 0] 5)) (some ⟨w2.heap.size, 0, none⟩) 1 [0] := bs_new w2 [0] 5
    have hfr := hw2.fresh (Nat.le_refl _)
    have HLE2 : Hid ((putZ (putZ y (vz n) M c) [0] M (putC y (vz n) M c)).length ≤ 100011) := Lib.hid (by have h1 := putZ_le (putZ y (vz n) M c) [0] M (putC y (vz n) M c); have h2 := HLE.out; rw [List.length_singleton] at h1; omega)
    have HBA := Lib.hid (Nat.le_trans HB0.out (Nat.le_trans hk2.size hbA.size))
    go_wp2_with fail
    with_reducible refine (wput_any (some ⟨w2.heap.size, 0, none⟩) 1 1 hwA hsA (by simp) (fun _ a ha => by injection ha with ha; subst ha; exact hfr) (by have := HLE.out; omega) HBA.out).mono ?_
    rintro e w4 ⟨r4, rfl, hk4, hg4, hw4⟩
    have hk3 := Ks.wr hk2 hg2 ((Ks.of_below hbA).trans hk4)
    have HG14 := Lib.hid (hg2.trans (gr_mono hg4 hbA.size) hk2.size)
    have HOFF3 := Lib.hid (off_gr (fun h0 a ha => Nat.lt_of_lt_of_le (HLT.out h0 a ha) HB1.out.size) HOFF.out hg2)
    have HOFF4 := Lib.hid (off_gr (fun h0 a ha => Nat.lt_of_lt_of_le (HLT.out h0 a ha) HB1.out.size) HOFF.out HG14.out)
    have HOFF6 := Lib.hid (off_gr HLT1.out HOFF1.out hg2)
    have HOFF5 := Lib.hid (off_gr HLT1.out HOFF1.out HG14.out)
    have HB4 := Lib.hid (Nat.le_trans HB0.out hk3.size)
    have HK := Lib.hid ((Ks.of_below (S := WS b r) HB1.out).trans hk3)
    have HG := Lib.hid (gr_mono HG14.out HB1.out.size)
    have HGR := Lib.hid (fun j (hj : j < w.heap.size) (hs : WS b r4 j) => (show WS b r j from by
      rcases hs with e | e
      · exact .inl e
      · rcases HG.out with e2 | ⟨g, e2, h2⟩
        · exact .inr (by rw [← e2]; exact e)
        · rw [e2] at e; injection e with e; omega))
    clear hfr hsA hwA hw2 hg2 hg4
    have hz3 := (((HZ.out.below HB1.out).ks hk2 (fun h0 a ha => HOFF.out h0 a ha)).below hbA).ks hk4 (fun h0 a ha => HOFF3.out h0 a ha)
    clear hk3 hk4 hbA
    go_wp2_with fail
    with_reducible refine (wput_any A n m hw4 hz3 hA HOFF4.out (by have := HLE2.out; omega) HB4.out).mono ?_
    rintro e w5 ⟨r5, rfl, hk5, hg5, hw5⟩
    go_wp2
    go_end0
    refine ⟨r5, rfl, HK.out.trans' hk5 (fun j hj hs => HGR.out j hj hs), HG.out.trans hg5 HK.out.size, ?_⟩
    rw [HKI.out]
    exact hw5
  · rw [hk, if_pos rfl] at HKI
    rw [if_pos rfl]
    clear hk
    go_wp2_with fail
    with_reducible refine (vput_any (n : Int) h1 hn0 (by omega) (by omega) HB0.out).mono ?_
    rintro e w2 ⟨r2, rfl, hk2, hg2, hw2⟩
    have hbA := below_one w2 (.cells #[.int .u8 1] 5)
    have hwA := hw2.below hbA
    have hsA : Bs (w2.alloc (.cells #[.int .u8 1] 5)) (some ⟨w2.heap.size, 0, none⟩) 1 [1] := bs_new w2 [1] 5
    have hfr := hw2.fresh (Nat.le_refl _)
    have HLE2 : Hid ((putZ (putZ y (vz n) M c) [1] M (putC y (vz n) M c)).length ≤ 100011) := Lib.hid (by have h1 := putZ_le (putZ y (vz n) M c) [1] M (putC y (vz n) M c); have h2 := HLE.out; rw [List.length_singleton] at h1; omega)
    have HBA := Lib.hid (Nat.le_trans HB0.out (Nat.le_trans hk2.size hbA.size))
    go_wp2_with fail
    with_reducible refine (wput_any (some ⟨w2.heap.size, 0, none⟩) 1 1 hwA hsA (by simp) (fun _ a ha => by injection ha with ha; subst ha; exact hfr) (by have := HLE.out; omega) HBA.out).mono ?_
    rintro e w4 ⟨r4, rfl, hk4, hg4, hw4⟩
    have hk3 := Ks.wr hk2 hg2 ((Ks.of_below hbA).trans hk4)
    have HG14 := Lib.hid (hg2.trans (gr_mono hg4 hbA.size) hk2.size)
    have HOFF3 := Lib.hid (off_gr (fun h0 a ha => Nat.lt_of_lt_of_le (HLT.out h0 a ha) HB1.out.size) HOFF.out hg2)
    have HOFF4 := Lib.hid (off_gr (fun h0 a ha => Nat.lt_of_lt_of_le (HLT.out h0 a ha) HB1.out.size) HOFF.out HG14.out)
    have HOFF6 := Lib.hid (off_gr HLT1.out HOFF1.out hg2)
    have HOFF5 := Lib.hid (off_gr HLT1.out HOFF1.out HG14.out)
    have HB4 := Lib.hid (Nat.le_trans HB0.out hk3.size)
    have HK := Lib.hid ((Ks.of_below (S := WS b r) HB1.out).trans hk3)
    have HG := Lib.hid (gr_mono HG14.out HB1.out.size)
    have HGR := Lib.hid (fun j (hj : j < w.heap.size) (hs : WS b r4 j) => (show WS b r j from by
      rcases hs with e | e
      · exact .inl e
      · rcases HG.out with e2 | ⟨g, e2, h2⟩
        · exact .inr (by rw [← e2]; exact e)
        · rw [e2] at e; injection e with e; omega))
    clear hfr hsA hwA hw2 hg2 hg4
    have hz3 := ((HS.out.ks hk2 (fun h0 a ha => HOFF1.out h0 a ha)).below hbA).ks hk4 (fun h0 a ha => HOFF6.out h0 a ha)
    clear hk3 hk4 hbA
    go_wp2_with fail
    with_reducible refine (bput_any A1 n1 m1 hw4 hz3 hA1 HOFF5.out (by have := HLE2.out; omega) HB4.out).mono ?_
    rintro e w5 ⟨r5, rfl, hk5, hg5, hw5⟩
    go_wp2
    go_end0
    refine ⟨r5, rfl, HK.out.trans' hk5 (fun j hj hs => HGR.out j hj hs), HG.out.trans hg5 HK.out.size, ?_⟩
    rw [HKI.out]
    exact hw5
def KBPost (z : List Int) (w : World) (e : Ending) (w' : World) : Prop :=
  ∃ g, e = .returned (.tuple #[.slice (some ⟨g, 0, none⟩) (bkb z).length (bkb z).length, .int .i64 0]) ∧ w.heap.size ≤ g ∧ Below w.heap.size w w' ∧ Blk w' g ((bkb z).map (Value.int .u8)).toArray 5
set_option maxHeartbeats 2000000 in
theorem kbytes_any {w : World} (A : Option Addr) (n m : Nat) {z : List Int} (hz : Bs w A n z) (hA : A = none → m = 0) (hby : ∀ x ∈ z, 0 ≤ x ∧ x < 256) (hm : n ≤ m) (hn : n ≤ 10000) : Calls Tryz.prog 157 #[.slice A n m] w (KBPost z w) := by
  have HZ := Lib.hid hz
  have HBY := Lib.hid hby
  have hbl := bkb_len z
  rw [hz.1] at hbl
  have HBL := Lib.hid hbl
  clear hz hby hbl
  go_enter Tryz.func157, Tryz.ntmps157
  go_wp2_with fail
  refine (wnew_any _ w (by omega)).mono ?_
  rintro e w1 ⟨b, rfl, hbb, hb1, hw1⟩
  rw [if_neg (by omega)] at hw1
  have hM := hw1.most.2
  have HP : Hid (puts (bki z) [] 9223372036854775807 0 = (bkb z, 0)) := Lib.hid (by
    have := puts_fits (xs := bki z) (z := []) (M := 9223372036854775807) (by rw [bki_flat]; have := HBL.out; simp; omega)
    rw [this, bki_flat]; rfl)
  generalize (9223372036854775807 : Int) = M at hw1 HP
  clear hM
  go_wp2_with fail
  with_reducible refine (kput_any A n m hw1 (HZ.out.below hb1) hA (fun h0 a' ha => hw1.off_lt (HZ.out.lt h0 a' ha)) HBY.out hm hn (by simp) hb1.size).mono ?_
  rintro e w2 ⟨r2, rfl, hk2, hg2, hw2⟩
  rw [HP.out] at hw2
  have hB2 := Wr.belowOf hb1 (Nat.le_refl _) hw1 hk2 (Nat.le_refl _)
  have HB2 := Lib.hid hB2
  clear hk2 hg2 hw1 hb1 hB2
  go_wp2_with fail
  with_reducible refine (wbytes_good hw2 (by have := HBL.out; show (bkb z).length ≤ 1000000; omega)).mono ?_
  rintro e w3 ⟨g, rfl, hg, hb3, hblk⟩
  have HB3 := Lib.hid hb3
  have HG := Lib.hid hg
  clear hw2 hb3 hg
  go_wp2
  go_ret2
  exact ⟨g, rfl, Nat.le_trans HB2.out.size HG.out, HB2.out.trans (HB3.out.mono HB2.out.size), hblk⟩
end Go.Proofs.YtlealkfkddhnnaaGreat.Cur
namespace Go.Proofs.YtlealkfkddhnnaaGreat.Cur
open Go.RowKit Go.Shelf Mem
attribute [local go_sem] Oper.semAt_some
set_option linter.unusedVariables false
set_option maxRecDepth 100000
end Go.Proofs.YtlealkfkddhnnaaGreat.Cur
namespace Go.Proofs.YtlealkfkddhnnaaGreat.Cur
open Go.RowKit Go.Shelf Mem
attribute [local go_sem] Oper.semAt_some
set_option linter.unusedVariables false
set_option maxRecDepth 100000
def bc (z : List Int) (n way p : Int) : Rs (List Int) := if way = 0 then tk z n p else (bl z 1048576 p).bind [] fun t p1 =>
  if (exv t n).2.1 ≠ 0 then ([], 0, (exv t n).2.1, p1 - t.length + (exv t n).2.2) else if ((exv t n).1.length : Int) < n then ([], 0, 3, p1) else ((exv t n).1, p1, 0, 0)
def bk (z : List Int) (most p : Int) : Rs (List Int) := (vm z (min most 1048576) p).bind [] fun n p1 => (tk z 1 p1).bind [] fun wy p2 => if 1 < wy.getD 0 0 then ([], 0, 7, p1) else bc z n (wy.getD 0 0) p2
def bks (z : List Int) (most p : Int) : Rs (List Int) := (bk z most p).bind [] fun y p' => if piece z p.toNat p'.toNat = bkb y then (y, p', 0, 0) else ([], 0, 12, p')
def Few (z : List Int) (mo p : Int) : Prop := (vm z mo p).1 ≤ 10000
theorem piece_byte {z : List Int} (hby : ∀ x ∈ z, 0 ≤ x ∧ x < 256) (a b : Nat) : ∀ x ∈ piece z a b, 0 ≤ x ∧ x < 256 := fun x hx => hby x (List.mem_of_mem_drop (List.mem_of_mem_take hx))
theorem piece_len {z : List Int} (a b : Nat) : (piece z a b).length ≤ z.length := by
  unfold piece
  have := List.length_take_le (b - a) (z.drop a)
  rw [List.length_take, List.length_drop]
  omega
theorem tk_byte {z : List Int} (hby : ∀ x ∈ z, 0 ≤ x ∧ x < 256) (x p : Int) : (∀ y ∈ (tk z x p).1, 0 ≤ y ∧ y < 256) ∧ (tk z x p).1.length ≤ z.length := by
  unfold tk
  split
  · exact ⟨fun y h => absurd h (by simp), by simp⟩
  · split
    · exact ⟨fun y h => absurd h (by simp), by simp⟩
    · exact ⟨piece_byte hby _ _, piece_len _ _⟩
theorem bl_byte {z : List Int} (hby : ∀ x ∈ z, 0 ≤ x ∧ x < 256) (mo p : Int) : (∀ y ∈ (bl z mo p).1, 0 ≤ y ∧ y < 256) ∧ (bl z mo p).1.length ≤ z.length := by
  unfold bl Rs.bind
  split
  · exact ⟨fun y h => absurd h (by simp), by simp⟩
  · exact tk_byte hby _ _
theorem St.val {α : Type} {P : α → Prop} {d : α} {n : Nat} {g : Rs α} {p c q : Int} {v : α} {p' c' q' : Int} (h : St d n g p c q v p' c' q') (hd : P d) (hg : P g.1) : P v := by
  obtain ⟨_, _, ⟨_, rfl, _⟩ | ⟨_, _, rfl, _⟩ | ⟨_, _, rfl, _⟩⟩ := h
  · exact hd
  · exact hg
  · exact hd
theorem bkb_byte {z : List Int} (hz : z.length ≤ 1000000) (hby : ∀ x ∈ z, 0 ≤ x ∧ x < 256) : ∀ x ∈ bkb z, 0 ≤ x ∧ x < 256 := by
  intro x hx
  unfold bkb at hx
  rcases List.mem_append.1 hx with hx | hx
  · exact vz_byte _ (by omega) (by have := cps_len hz hby; omega) x hx
  · split at hx
    · rcases List.mem_cons.1 hx with rfl | hx
      · omega
      · rcases List.mem_append.1 hx with hx | hx
        · exact vz_byte _ (by omega) (by have := cps_len hz hby; omega) x hx
        · exact cps_byte hz hby x hx
    · rcases List.mem_cons.1 hx with rfl | hx
      · omega
      · exact hby x hx
theorem fshift_any (c q d : Int) (w : World) (h : -1000000000000 ≤ q + d ∧ q + d ≤ 1000000000000) :
    Calls Tryz.prog 156 #[.agg #[.int .i64 c, .int .i64 q], .int .i64 d] w fun e w' => e = .returned (.agg #[.int .i64 c, .int .i64 (fq c (q + d))]) ∧ Below w.heap.size w w' := by
  have hX := (Blk.new w #[.int .i64 c, .int .i64 q] 48).alloc (.cells #[.int .i64 0, .int .i64 0] 48)
  have hF := Blk.new (w.alloc (.cells #[.int .i64 c, .int .i64 q] 48)) #[.int .i64 0, .int .i64 0] 48
  rw [World.size_alloc] at hF
  have hb2 := below_two w (.cells #[.int .i64 c, .int .i64 q] 48) (.cells #[.int .i64 0, .int .i64 0] 48)
  obtain ⟨x0, x1⟩ := hX.c2
  have ew : IntKind.i64.wrap (q + d) = q + d := IntWalk.i64_in _ (by omega)
  have HF := Lib.hid hF
  have HB := Lib.hid hb2
  clear hX hF hb2 h
  go_enter Tryz.func156, Tryz.ntmps156
  go_wp2_with fail
  refine (fat_any _ _ _).mono ?_
  rintro e w1 ⟨rfl, hb1⟩
  have hF1 := HF.out.below hb1
  obtain ⟨f0, f1⟩ := hF1.c2
  obtain ⟨k0, k1⟩ := hF1.f2
  have hbd := HB.out.trans (hb1.mono HB.out.size)
  have HBD := Lib.hid hbd
  clear hb1 hbd x0 x1 ew
  go_wp2
  have hs1 : w.heap.size ≤ w.heap.size + 1 := Nat.le_succ _
  refine bodyPost_ret (v := .agg #[.int .i64 c, .int .i64 (fq c (q + d))]) (by simp [results, Tryz.results156, go_sem, f0, f1]) rfl ⟨rfl, ?_⟩
  exact (HBD.out.setCell (p := ⟨w.heap.size + 1, 0, none⟩) hs1 _).setCell (p := ⟨w.heap.size + 1, 1, none⟩) hs1 _
theorem kisown_any {w : World} (A B : Option Addr) (n m k l : Nat) {y z : List Int} (hy : Bs w A n y) (hz : Bs w B k z) (hB : B = none → l = 0) (hyb : ∀ x ∈ y, 0 ≤ x ∧ x < 256) (hby : ∀ x ∈ z, 0 ≤ x ∧ x < 256) (hm : k ≤ l) (hk : k ≤ 10000) :
    Calls Tryz.prog 129 #[.slice A n m, .slice B k l] w (BPost (.bool (decide (y = bkb z))) w) := by
  unfold BPost
  have hK := kbytes_any B k l hz hB hby hm hk
  unfold KBPost at hK
  have hbb := bkb_byte (z := z) (by rw [hz.1]; omega) hby
  obtain ⟨r, hr⟩ : ∃ r, r = decide (y = bkb z) := ⟨_, rfl⟩
  rw [← hr]
  have HR := Lib.hid hr
  clear hr
  have HY := Lib.hid hy
  have HYB := Lib.hid hyb
  have HBB := Lib.hid hbb
  obtain ⟨bl, hbl⟩ : ∃ bl, bl = (bkb z).length := ⟨_, rfl⟩
  rw [← hbl] at hK
  have HBL := Lib.hid hbl
  clear hy hz hyb hby hbb hbl
  go_enter Tryz.func129, Tryz.ntmps129
  go_wp2_with fail
  with_reducible refine hK.mono ?_
  rintro e w1 ⟨g, rfl, hg, hb1, hblk⟩
  have hs := Bs.of_block hblk
  rw [← HBL.out] at hs
  have hbe := beq_any A (some ⟨g, 0, none⟩) n bl m bl y (bkb z) w1 (HY.out.below hb1) hs HYB.out HBB.out
  rw [← HR.out] at hbe
  have HB := Lib.hid hb1
  clear hK hb1 hblk hs hg
  go_wp2_with fail
  with_reducible refine hbe.mono ?_
  rintro e w2 ⟨rfl, rfl⟩
  clear hbe
  go_wp2
  go_ret
  exact ⟨rfl, HB.out⟩
theorem own_base0 {w : World} {B B' e size n : Nat} {v : Value} {xs : List Value} (h : w.ownsRow B e size v n xs) (hs : B' ≤ B) : w.ownsRow B' e size v n xs := own_base h fun g hg => Nat.le_trans hs (own_geg h g hg)
theorem bc_st {k : Nat} {z t y : List Int} {n x p c q p1 c1 q1 c2 q2 c7 q7 c8 q8 : Int} (hx0 : x ≠ 0) (hS : St [] k (bl z 1048576 p) p c q t p1 c1 q1) (hG : exv t n = (y, c2, q2)) (hq : c = 0 → q = 0)
    (h7 : FailSt c1 q1 c2 (fq c2 (q2 + (p1 - t.length))) c7 q7) (h8 : ((y.length : Int) < n ∧ FailSt c7 q7 3 p1 c8 q8) ∨ (¬ (y.length : Int) < n ∧ c8 = c7 ∧ q8 = q7)) : ∃ l', St [] k (bc z n x p) p c q l' p1 c8 q8 ∧ (c8 = 0 → l' = y) := by
  unfold bc
  rw [if_neg hx0]
  obtain ⟨p10, p11⟩ := hS.place
  by_cases hc1 : c1 = 0
  · subst hc1
    obtain ⟨hc, _, _, _, hq1⟩ := hS.good
    have hq0 : q1 = 0 := by rw [hq1]; exact hq hc
    rcases h7 with ⟨_, e7, f7⟩ | ⟨h, _⟩
    · by_cases hc2 : c2 = 0
      · have e7' : c7 = 0 := by rw [e7, hc2]
        have f7' : q7 = 0 := by rw [f7, hc2]; rfl
        rcases h8 with ⟨h8, h8'⟩ | ⟨h8, e8, f8⟩
        · rcases h8' with ⟨_, e8, f8⟩ | ⟨h, _⟩
          · refine ⟨[], hS.bind (St.fault (x := []) (y := 0) ?_ (by rw [e8]; decide) p10 p11), fun h => ?_⟩
            · rw [hG]
              simp only
              rw [if_neg (by rw [hc2]; simp), if_pos h8, e8, f8]
              rfl
            · rw [e8] at h; exact absurd h (by decide)
          · exact absurd e7' h
        · have e : c8 = 0 := by rw [e8, e7']
          have f : q8 = q1 := by rw [f8, f7', hq0]
          subst e f
          refine ⟨y, hS.bind (St.done ?_ p10 p11), fun _ => rfl⟩
          rw [hG]
          simp only
          rw [if_neg (by rw [hc2]; simp), if_neg h8]
      · have hc7 : c7 ≠ 0 := by rw [e7]; exact hc2
        have h88 : c8 = c7 ∧ q8 = q7 := by
          rcases h8 with ⟨_, h8'⟩ | ⟨_, e8, f8⟩
          · rcases h8' with ⟨h, _⟩ | ⟨_, e8, f8⟩
            · exact absurd h hc7
            · exact ⟨e8, f8⟩
          · exact ⟨e8, f8⟩
        obtain ⟨rfl, rfl⟩ := h88
        refine ⟨[], hS.bind (St.fault (x := []) (y := 0) ?_ hc7 p10 p11), fun h => absurd h hc7⟩
        rw [hG]
        simp only
        rw [if_pos hc2, e7, f7]
        unfold fq
        rw [if_neg hc2, if_neg hc2]
        congr 3
        omega
    · exact absurd rfl h
  · rcases h7 with ⟨h, _⟩ | ⟨_, rfl, rfl⟩
    · exact absurd h hc1
    · have h88 : c8 = c7 ∧ q8 = q7 := by
        rcases h8 with ⟨_, h8'⟩ | ⟨_, e8, f8⟩
        · rcases h8' with ⟨h, _⟩ | ⟨_, e8, f8⟩
          · exact absurd h hc1
          · exact ⟨e8, f8⟩
        · exact ⟨e8, f8⟩
      obtain ⟨rfl, rfl⟩ := h88
      exact ⟨[], hS.bind (St.stay p10 p11 hc1), fun h => absurd h hc1⟩
theorem tk_lenx {z : List Int} {x p : Int} (h : 0 ≤ x) : ((tk z x p).1.length : Int) ≤ x := by
  unfold tk
  split
  · show (([] : List Int).length : Int) ≤ x; simp; exact h
  · split
    · show (([] : List Int).length : Int) ≤ x; simp; exact h
    · show ((piece z p.toNat (p + x).toNat).length : Int) ≤ x
      unfold piece
      have := List.length_take_le ((p + x).toNat - p.toNat) (z.drop p.toNat)
      omega
def KcPost (b : Nat) (s : Value) (k : Nat) (g : Rs (List Int)) (p c q : Int) (w : World) (e : Ending) (w' : World) : Prop :=
  ∃ v l l' p' c' q', e = .returned v ∧ Own w' w.heap.size v l ∧ (∀ x ∈ l, 0 ≤ x ∧ x < 256) ∧ l.length ≤ 10000 ∧ Kp b w w' ∧ IsRd w' b s p' c' q' ∧ St [] k g p c q l' p' c' q' ∧ (c' = 0 → l' = l)
set_option maxHeartbeats 4000000 in
theorem kcontent_any (b : Nat) (a : Option Addr) (k m : Nat) (z : List Int) (p c q x n : Int) (w : World) (h : IsRd w b (.slice a k m) p c q) (hz : Bs w a k z) (h0 : 0 ≤ p) (h1 : p ≤ k) (hm : k ≤ m) (hk : k ≤ 100000) (hby : ∀ x ∈ z, 0 ≤ x ∧ x < 256) (hx : 0 ≤ x ∧ x < 256) (hn : 0 ≤ n ∧ n ≤ 10000) (hq : c = 0 → q = 0) :
    Calls Tryz.prog 128 #[.pointer (some ⟨b, 0, none⟩), .int .u8 x, .int .i64 n] w (KcPost b (.slice a k m) k (bc z n x p) p c q w) := by
  have hzl := hz.1
  by_cases hx0 : x = 0
  · subst hx0
    have hT := take_st b a k m z p c q n w h hz h0 h1 hm (by omega)
    unfold BRPost at hT
    have HBY := Lib.hid hby
    clear h hz hby
    go_enter Tryz.func128, Tryz.ntmps128
    go_wp2_with fail
    with_reducible refine hT.mono ?_
    rintro e w1 ⟨v, l, p', c', q', rfl, ho, hk1, hr1, hs1⟩
    have hb := tk_byte HBY.out n p
    have hbx := tk_lenx (z := z) (p := p) hn.1
    have HP := Lib.hid (hs1.val (P := fun l => (∀ y ∈ l, 0 ≤ y ∧ y < 256) ∧ l.length ≤ 10000) ⟨fun y h => absurd h (by simp), by simp⟩ ⟨hb.1, by omega⟩)
    obtain ⟨Av, cv, rfl⟩ := ho.slice
    have HO := Lib.hid ho
    have HK := Lib.hid hk1
    have HR := Lib.hid hr1
    have HS := Lib.hid hs1
    clear hT hb hbx ho hk1 hr1 hs1
    go_wp2
    go_ret
    exact ⟨_, l, l, p', c', q', rfl, HO.out, HP.out.1, HP.out.2, HK.out, HR.out, by unfold bc; rw [if_pos rfl]; exact HS.out, fun _ => rfl⟩
  · have hxb : (x == 0) = false := by simpa using hx0
    have hT := bread_any b a k m z p c q 1048576 w h hz h0 h1 hm (by omega) hby (by omega)
    unfold BRPost at hT
    have HBY := Lib.hid hby
    have HZ := Lib.hid hz
    have HH := Lib.hid h
    have HX0 := Lib.hid hx0
    clear h hz hby hx0 hx
    go_enter Tryz.func128, Tryz.ntmps128
    go_wp2_with fail
    with_reducible refine hT.mono ?_
    rintro e w1 ⟨v1, t, p1, c1, q1, rfl, ho1, hk1, hr1, hs1⟩
    have hb := bl_byte HBY.out 1048576 p
    obtain ⟨ht1, ht2⟩ := hs1.val (P := fun l => (∀ y ∈ l, 0 ≤ y ∧ y < 256) ∧ l.length ≤ 100000) ⟨fun y h => absurd h (by simp), by simp⟩ ⟨hb.1, by omega⟩
    obtain ⟨p10, p11⟩ := hs1.place
    obtain ⟨A1, n1, rfl⟩ := ho1.slice
    have hE := eb_le (m := n1) (bound := n) ho1.bs.2 ho1.cap (by omega) ht1 (by omega)
    obtain ⟨g1, g2, g3, g4⟩ := exv_fine (z := t) (bound := n) ht1
    have g5 := exv_fp (z := t) (bound := n) ht1
    have HS1 := Lib.hid hs1
    have HX : Hid (exv t n = ((exv t n).1, (exv t n).2.1, (exv t n).2.2)) := Lib.hid rfl
    have HXN := Lib.hid (fun h : t = [] => (show exv t n = ([], 0, 0) from by rw [h]; rfl))
    obtain ⟨G, hG⟩ : ∃ G, G = exv t n := ⟨_, rfl⟩
    rw [← hG] at hE g1 g2 g3 g4 g5 HX HXN
    have HG := Lib.hid hG
    clear hG
    obtain ⟨y, c2, q2⟩ := G
    simp only at g1 g2 g3 g4 g5
    obtain ⟨tl, htl⟩ : ∃ tl, tl = t.length := ⟨_, rfl⟩
    rw [← htl] at hE ht2 g5 ⊢
    have HTL := Lib.hid htl
    have HG2 := Lib.hid g2
    have HG3 := Lib.hid g3
    have HG4 := Lib.hid g4
    have HO1 := Lib.hid hk1
    clear hT hb ht1 ho1 hs1 htl HX g2 g3 g4 hk1
    go_wp2_with fail
    with_reducible refine hE.mono ?_
    rintro e w2 ⟨v2, rfl, ho2, hb2⟩
    have ho2 : Own w2 w1.heap.size v2 y := ho2
    obtain ⟨A2, n2, rfl⟩ := ho2.slice
    have hX := Blk.new w2 #[.int .i64 c2, .int .i64 q2] 48
    have hbX := below_one w2 (.cells #[.int .i64 c2, .int .i64 q2] 48)
    replace ho2 := ho2.below hbX
    have hr2 := (hr1.below hb2).below hbX
    have hK2 : Kp b w w2 := HO1.out.trans (Kp.of_below hb2)
    have hyl : y.length ≤ 10000 := by omega
    have HYL := Lib.hid hyl
    obtain ⟨yl, hyl2⟩ : ∃ yl, yl = y.length := ⟨_, rfl⟩
    rw [← hyl2] at g1 hyl ⊢
    have HYE := Lib.hid hyl2
    have HKX := Lib.hid (hK2.trans (Kp.of_below hbX))
    have hxs : b < w2.heap.size := (hr1.below hb2).lt
    have HKW := Lib.hid (Nat.le_trans HO1.out.size hb2.size)
    clear hE hb2 hbX hr1 hK2 hyl2
    go_wp2_with fail
    generalize hW : w2.alloc (.cells #[.int .i64 c2, .int .i64 q2] 48) = w3 at *
    have hbne : b ≠ w2.heap.size := by omega
    have ew : IntKind.i64.wrap (p1 - tl) = p1 - tl := IntWalk.i64_in _ (by omega)
    have hS : Blk w3.drew w2.heap.size #[.int .i64 c2, .int .i64 q2] 48 := hX
    have L : ∀ w', Blk w' w2.heap.size #[.int .i64 c2, .int .i64 q2] 48 → w'.cell? ⟨w2.heap.size, 0, none⟩ = some (.int .i64 c2) ∧ w'.cell? ⟨w2.heap.size, 1, none⟩ = some (.int .i64 q2) := fun w' h => h.c2
    have HR2 := Lib.hid (hr2.drewN 1)
    have HO2 := Lib.hid ho2
    clear hW hX hr2 ho2
    refine Seq.wp_region_last (fun w' => Blk w' w2.heap.size #[.int .i64 c2, .int .i64 q2] 48) (by kernel_rfl) (by kernel_rfl) (by kernel_rfl) hS ?_
    repeat (first | (refine Seq.SeqE.skip (by rfl) ?_; (try simp only [Act.put, List.setIfInBounds_toArray, List.set_cons_zero, List.set_cons_succ])) | (refine Seq.SeqE.det ?_ (by rfl) (fun w hS => ?_) ?_; rotate_left; ((try dsimp only at hS); go_simp; (try rw [if_pos (by omega)]); with_reducible rfl); (try simp only [Act.put, List.setIfInBounds_toArray, List.set_cons_zero, List.set_cons_succ])))
    refine Seq.SeqE.make (by rfl) (by rfl) (fun K Q' hK => ?_)
    go_simp
    go_at_call 90
    refine (at_any _ _ _ _ _ _ HR2.out).mono ?_
    rintro e w4 ⟨rfl, rfl⟩
    refine hK.out _ _ (hS) ?_
    clear hK K
    try simp only [Act.put, List.setIfInBounds_toArray, List.set_cons_zero, List.set_cons_succ]
    repeat (first | (refine Seq.SeqE.skip (by rfl) ?_; (try simp only [Act.put, List.setIfInBounds_toArray, List.set_cons_zero, List.set_cons_succ])) | (refine Seq.SeqE.det ?_ (by rfl) (fun w hS => ?_) ?_; rotate_left; ((try dsimp only at hS); go_simp; (try rw [if_pos (by omega)]); with_reducible rfl); (try simp only [Act.put, List.setIfInBounds_toArray, List.set_cons_zero, List.set_cons_succ])))
    refine Seq.SeqE.make (by rfl) (by rfl) (fun K Q' hK => ?_)
    go_simp
    go_at_call 156
    refine (fshift_any c2 q2 (p1 - tl) _ (by omega)).mono ?_
    rintro e w5 ⟨rfl, hb5⟩
    have hS5 := hS.below hb5
    have hr5 := HR2.out.below hb5
    have ho5 := (HO2.out.below (below_one' w3)).below hb5
    have hk5 := (HKX.out.trans (Kp.of_below (below_one' w3))).trans (Kp.of_below hb5)
    obtain ⟨Q, hQ⟩ : ∃ Q, Q = fq c2 (q2 + (p1 - tl)) := ⟨_, rfl⟩
    rw [← hQ]
    have HQ := Lib.hid hQ
    have HB5 := Lib.hid hb5
    clear hb5 hQ ew HR2 HO2 HKX
    refine hK.out _ _ (hS5) ?_
    clear hK K
    try simp only [Act.put, List.setIfInBounds_toArray, List.set_cons_zero, List.set_cons_succ]
    repeat (first | (refine Seq.SeqE.skip (by rfl) ?_; (try simp only [Act.put, List.setIfInBounds_toArray, List.set_cons_zero, List.set_cons_succ])) | (refine Seq.SeqE.det ?_ (by rfl) (fun w hS => ?_) ?_; rotate_left; ((try dsimp only at hS); go_simp; (try rw [if_pos (by omega)]); with_reducible rfl); (try simp only [Act.put, List.setIfInBounds_toArray, List.set_cons_zero, List.set_cons_succ])))
    obtain ⟨s0, s1⟩ := hS5.c2
    obtain ⟨u0, u1⟩ := hS5.f2
    refine Seq.SeqE.last (by rfl) (by rfl) (fun K Q' hK => ?_)
    go_simp
    refine hK.out _ _ ?_
    clear hK K
    try simp only [Act.put, List.setIfInBounds_toArray, List.set_cons_zero, List.set_cons_succ]
    have hX6 : Blk ((w5.setCell ⟨w2.heap.size, 0, none⟩ (.int .i64 c2)).setCell ⟨w2.heap.size, 1, none⟩ (.int .i64 Q)) w2.heap.size #[.int .i64 c2, .int .i64 Q] 48 := (hS5.set 0 _).set 1 _
    have hr6 := (hr5.kp (Kp.setCell w5 w2.heap.size 0 (.int .i64 c2)) hbne).kp (Kp.setCell _ w2.heap.size 1 (.int .i64 Q)) hbne
    have hk6 : Kp b w ((w5.setCell ⟨w2.heap.size, 0, none⟩ (.int .i64 c2)).setCell ⟨w2.heap.size, 1, none⟩ (.int .i64 Q)) := (hk5.far (p := ⟨w2.heap.size, 0, none⟩) (by have := HKW.out; exact this) (.int .i64 c2)).far (p := ⟨w2.heap.size, 1, none⟩) (by have := HKW.out; exact this) (.int .i64 Q)
    have ho6 := own_kp (own_kp ho5 (Kp.setCell w5 w2.heap.size 0 (.int .i64 c2)) (own_ne_blk ho5 hS5 (by decide))) (Kp.setCell _ w2.heap.size 1 (.int .i64 Q)) (own_ne_blk ho5 hS5 (by decide))
    generalize (w5.setCell ⟨w2.heap.size, 0, none⟩ (.int .i64 c2)).setCell ⟨w2.heap.size, 1, none⟩ (.int .i64 Q) = w6 at *
    obtain ⟨x0, x1⟩ := hX6.c2
    clear hS5 hS hr5 ho5 hk5 s0 s1 u0 u1 L
    go_wp2_with fail
    with_reducible refine (fail_any b _ p1 c1 q1 c2 Q w6 hr6).mono ?_
    rintro e w7 ⟨c7, q7, rfl, hk7, hr7, hf7⟩
    have hne : (Value.slice A2 y.length n2).ownBlock ≠ some b := fun e => by
      have h1 := own_geg ho6 b e
      have h2 : b < w.heap.size := Blk.lt HH.out
      have h3 := HO1.out.size
      omega
    have ho7 := own_kp ho6 hk7 hne
    have hkk := hk6.trans hk7
    have HF7 := Lib.hid hf7
    clear hk6 hk7 hr6 ho6 hX6 hf7 x0 x1
    by_cases hlt : (yl : Int) < n
    · go_wp2_with fail
      refine (at_any _ _ _ _ _ _ hr7).mono ?_
      rintro e w8 ⟨rfl, rfl⟩
      go_wp2_with fail
      with_reducible refine (fail_any b _ p1 c7 q7 3 p1 _ hr7).mono ?_
      rintro e w9 ⟨c8, q8, rfl, hk9, hr9, hf9⟩
      have HO9 := Lib.hid (own_kp ho7 hk9 hne)
      have HK9 := Lib.hid (hkk.trans hk9)
      have HR9 := Lib.hid hr9
      obtain ⟨l', hl1, hl2⟩ := bc_st (q8 := q8) (c8 := c8) HX0.out HS1.out HG.out.symm hq (by rw [← HTL.out, ← HQ.out]; exact HF7.out) (.inl ⟨by rw [← HYE.out]; exact hlt, hf9⟩)
      have HL := Lib.hid (And.intro hl1 hl2)
      clear hr7 ho7 hkk hk9 hr9 hf9 hl1 hl2 hq
      go_wp2
      go_ret
      exact ⟨_, y, l', p1, c8, q8, rfl, (by show Own _ w.heap.size (.slice A2 yl n2) y; rw [HYE.out]; exact own_base0 HO9.out HO1.out.size), HG2.out, HYL.out, HK9.out, HR9.out, HL.out.1, HL.out.2⟩
    · obtain ⟨l', hl1, hl2⟩ := bc_st (q8 := q7) (c8 := c7) HX0.out HS1.out HG.out.symm hq (by rw [← HTL.out, ← HQ.out]; exact HF7.out) (.inr ⟨by rw [← HYE.out]; exact hlt, rfl, rfl⟩)
      have HL := Lib.hid (And.intro hl1 hl2)
      have HO9 := Lib.hid ho7
      have HK9 := Lib.hid hkk
      have HR9 := Lib.hid hr7
      clear hr7 ho7 hkk hl1 hl2 hq
      go_wp2
      go_ret
      exact ⟨_, y, l', p1, c7, q7, rfl, (by show Own _ w.heap.size (.slice A2 yl n2) y; rw [HYE.out]; exact own_base0 HO9.out HO1.out.size), HG2.out, HYL.out, HK9.out, HR9.out, HL.out.1, HL.out.2⟩
end Go.Proofs.YtlealkfkddhnnaaGreat.Cur
namespace Go.Proofs.YtlealkfkddhnnaaGreat.Cur
open Go.RowKit Go.Shelf Mem
attribute [local go_sem] Oper.semAt_some
set_option linter.unusedVariables false
set_option maxRecDepth 100000
def By3 (wy : List Int) (c2 q2 p1 c3 q3 : Int) : Prop := (1 < wy.getD 0 0 ∧ FailSt c2 q2 7 p1 c3 q3) ∨ (¬ 1 < wy.getD 0 0 ∧ c3 = c2 ∧ q3 = q2)
theorem bk_st {k : Nat} {z wy l : List Int} {most p c q n p1 c1 q1 p2 c2 q2 c3 q3 p4 c4 q4 : Int} (h1 : St 0 k (vm z (min most 1048576) p) p c q n p1 c1 q1) (h2 : St [] k (tk z 1 p1) p1 c1 q1 wy p2 c2 q2)
    (h3 : By3 wy c2 q2 p1 c3 q3) (h4 : St [] k (bc z n (wy.getD 0 0) p2) p2 c3 q3 l p4 c4 q4) : St [] k (bk z most p) p c q l p4 c4 q4 := by
  unfold bk
  refine h1.bind (h2.bind ?_)
  obtain ⟨p40, p41⟩ := h4.place
  rcases h3 with ⟨hx, ⟨rfl, rfl, rfl⟩ | ⟨hc, rfl, rfl⟩⟩ | ⟨hx, rfl, rfl⟩
  · rw [if_pos hx]
    obtain ⟨rfl, rfl, rfl⟩ := h4.bad (by decide)
    exact St.fault (x := []) (y := 0) rfl (by decide) p40 p41
  · rw [if_pos hx]
    obtain ⟨rfl, rfl, rfl⟩ := h4.bad hc
    exact St.stay p40 p41 hc
  · rw [if_neg hx]
    exact h4
theorem piece_back {z : List Int} {a b : Nat} (h : b ≤ a) : piece z a b = [] := by
  unfold piece
  rw [show b - a = 0 by omega, List.take_zero]
theorem since_st (b : Nat) (a : Option Addr) (n m : Nat) (z : List Int) (p c q f : Int) (w : World) (h : IsRd w b (.slice a n m) p c q) (hz : Bs w a n z) (h0 : 0 ≤ p) (h1 : p ≤ n) (hm : n ≤ m) (hn : n ≤ 1000000) (hf : 0 ≤ f) :
    Calls Tryz.prog 130 #[.pointer (some ⟨b, 0, none⟩), .int .i64 f] w fun e w' => ∃ A k m', e = .returned (.slice A k m') ∧ Below w.heap.size w w' ∧ Bs w' A k (piece z f.toNat p.toNat) := by
  refine (since_any b a n m z p c q f w h hz h0 h1 hm hn).mono ?_
  rintro e w' ⟨hb, ⟨_, hfp, g, rfl, _, hblk⟩ | ⟨hor, rfl⟩⟩
  · have := Bs.of_block hblk
    rw [length_piece hz.1 (by omega)] at this
    exact ⟨_, _, _, rfl, hb, this⟩
  · refine ⟨none, 0, 0, rfl, hb, ?_⟩
    rw [piece_back (by omega)]
    exact Bs.none _
def KrdPost (b : Nat) (s : Value) (k : Nat) (g : Rs (List Int)) (p c q : Int) (w : World) (e : Ending) (w' : World) : Prop :=
  ∃ v l p' c' q', e = .returned v ∧ Own w' w.heap.size v l ∧ (∀ x ∈ l, 0 ≤ x ∧ x < 256) ∧ l.length ≤ 10000 ∧ Kp b w w' ∧ IsRd w' b s p' c' q' ∧ St [] k g p c q l p' c' q'
set_option maxHeartbeats 8000000 in
theorem kread_strict (b : Nat) (a : Option Addr) (k m : Nat) (z : List Int) (p c q most : Int) (w : World) (h : IsRd w b (.slice a k m) p c q) (hz : Bs w a k z) (h0 : 0 ≤ p) (h1 : p ≤ k) (hm : k ≤ m) (hk : k ≤ 100000) (hby : ∀ x ∈ z, 0 ≤ x ∧ x < 256) (hmo : most ≤ 1048576) (hfw : c = 0 → Few z most p) (hq : c = 0 → q = 0) :
    Calls Tryz.prog 94 #[.pointer (some ⟨b, 0, none⟩), .int .i64 most, .func (.func 92) #[.pointer (some ⟨b, 0, none⟩)] #[]] w (KrdPost b (.slice a k m) k (bks z most p) p c q w) := by
  have hzl := hz.1
  have HZ := Lib.hid hz
  have HBY := Lib.hid hby
  have HQ := Lib.hid hq
  have HFW := Lib.hid hfw
  have emin : min most 1048576 = most := by omega
  have hI := vint_any b a k m z p c q most w h hz h0 h1 (by omega) hby (by omega)
  unfold IntPost at hI
  have HH := Lib.hid h
  clear hz hby hq h hfw
  go_enter Tryz.func94, Tryz.ntmps94
  go_wp2_with fail
  refine (at_any _ _ _ _ _ _ HH.out).mono ?_
  rintro e w0 ⟨rfl, rfl⟩
  go_wp2_with fail
  with_reducible refine hI.mono ?_
  rintro e w1 ⟨n, p1, c1, q1, rfl, hk1, hr1, hi1⟩
  have hs1 := hi1.st HZ.out.1 h0 h1 HBY.out
  obtain ⟨p10, p11⟩ := hs1.place
  have hnb := vm_bd hs1 HBY.out
  have hnf : n ≤ 10000 := by
    by_cases hc : c = 0
    · exact hs1.val (P := fun n => n ≤ 10000) (by decide) (HFW.out hc)
    · rw [(hs1.bad hc).1]; decide
  have hz1 : Bs w1 a k z := HZ.out.kp HH.out (by simp) hk1
  rw [← emin] at hs1
  rw [emin] at hs1
  have HS1 := Lib.hid hs1
  have hn2 : 0 ≤ n ∧ n ≤ 10000 := by omega
  clear hI hi1 hs1 hnb hnf
  go_wp2_with fail
  refine (at_any _ _ _ _ _ _ hr1).mono ?_
  rintro e w2 ⟨rfl, rfl⟩
  have hB := byte_any b a k m z p1 c1 q1 w1 hr1 hz1 p10 p11 (by omega)
  unfold BytePost at hB
  go_wp2_with fail
  with_reducible refine hB.mono ?_
  rintro e w2 ⟨ok, p2, c2, q2, hk2, hr2, hsk, rfl⟩
  have hs2 := hsk.st HZ.out.1 p10 p11
  obtain ⟨wy, hwy⟩ : ∃ wy, wy = (if ok = true then piece z p1.toNat (p1 + 1).toNat else []) := ⟨_, rfl⟩
  rw [← hwy] at hs2
  obtain ⟨x, hx⟩ : ∃ x, x = (if ok = true then z.getD p1.toNat 0 else 0) := ⟨_, rfl⟩
  have hxw : wy.getD 0 0 = x := by
    rw [hwy, hx]
    cases ok
    · rfl
    · rw [if_pos rfl, if_pos rfl, piece_head z p1 p10]
  have hxb : 0 ≤ x ∧ x < 256 := by
    rw [hx]
    cases ok
    · rw [if_neg (by decide)]; omega
    · rw [if_pos rfl, List.getD_eq_getElem?_getD]
      cases hg : z[p1.toNat]? with
      | none => simp
      | some y => exact HBY.out y (List.mem_of_getElem? hg)
  rw [← hx]
  obtain ⟨p20, p21⟩ := hs2.place
  have hz2 : Bs w2 a k z := hz1.kp hr1 (by simp) hk2
  have HS2 := Lib.hid hs2
  have HXW := Lib.hid hxw
  have HK12 := Lib.hid (hk1.trans hk2)
  have HQ2 := Lib.hid (fun e : c2 = 0 => (show q2 = 0 from by
    subst e
    obtain ⟨e1, _, _, _, e2⟩ := hs2.good
    subst e1
    obtain ⟨e3, _, _, _, e4⟩ := HS1.out.good
    rw [e2, e4]
    exact HQ.out e3))
  clear hB hsk hwy hx hxw hk1 hk2 hr1 hz1 hs2
  by_cases hx1 : 1 < x
  · go_wp2_with fail
    with_reducible refine (fail_any b _ p2 c2 q2 7 p1 _ hr2).mono ?_
    rintro e w3 ⟨c3, q3, rfl, hk3, hr3, hf3⟩
    have hz3 : Bs w3 a k z := hz2.kp hr2 (by simp) hk3
    have HK3 := Lib.hid (HK12.out.trans hk3)
    have H3 : Hid (By3 wy c2 q2 p1 c3 q3) := Lib.hid (.inl ⟨by rw [HXW.out]; exact hx1, hf3⟩)
    have hq3 : c3 = 0 → q3 = 0 := fun e => by
      rcases hf3 with ⟨_, e3, _⟩ | ⟨h, e3, _⟩
      · omega
      · exact absurd (e3.symm.trans e) h
    clear hf3 hk3 hr2 hz2 hx1
    have hC := kcontent_any b a k m z p2 c3 q3 x n w3 hr3 hz3 p20 p21 hm hk HBY.out hxb hn2 hq3
    unfold KcPost at hC
    go_wp2_with fail
    with_reducible refine hC.mono ?_
    rintro e w4 ⟨v4, l, l', p4, c4, q4, rfl, ho4, hlb, hll, hk4, hr4, hs4, hl4⟩
    rw [← HXW.out] at hs4
    have hbk := bk_st (most := most) (by rw [emin]; exact HS1.out) HS2.out H3.out hs4
    obtain ⟨p40, p41⟩ := hs4.place
    have hz4 : Bs w4 a k z := hz3.kp hr3 (by simp) hk4
    have HK4 := Lib.hid (HK3.out.trans hk4)
    obtain ⟨Av, cv, rfl, hbv, hnv, hcv⟩ := ho4.parts
    have HBK := Lib.hid hbk
    have HLB := Lib.hid hlb
    have HL4 := Lib.hid hl4
    have HV := Lib.hid hbv
    have HNV := Lib.hid hnv
    have HO4 := Lib.hid (own_base0 ho4 HK3.out.size)
    obtain ⟨ll, hll2⟩ : ∃ ll, ll = l.length := ⟨_, rfl⟩
    rw [← hll2] at hcv hll ⊢
    have HLL := Lib.hid hll2
    clear hC hs4 hk4 hbk hlb hl4 hbv hnv ho4 hr3 hz3 hll2
    go_wp2_with fail
    refine (good_any _ _ _ _ _ _ hr4).mono ?_
    rintro e w5 ⟨rfl, hb5⟩
    have hr5 := hr4.below hb5
    have hz5 := hz4.below hb5
    have HV5 := Lib.hid (HV.out.below hb5)
    have HK5 := Lib.hid (HK4.out.trans (Kp.of_below hb5))
    have HO5 := Lib.hid (own_below HO4.out hb5)
    clear hr4 hz4 hb5
    by_cases hc4 : c4 = 0
    · subst hc4
      obtain rfl := HL4.out rfl
      go_wp2_with fail
      with_reducible refine (since_st b a k m z p4 0 q4 p _ hr5 hz5 p40 p41 hm (by omega) h0).mono ?_
      rintro e w6 ⟨A6, k6, m6, rfl, hb6, hs6⟩
      have hr6 := hr5.below hb6
      have HK6 := Lib.hid (HK5.out.trans (Kp.of_below hb6))
      have HO6 := Lib.hid (own_below HO5.out hb6)
      have hW := kisown_any A6 Av k6 m6 ll cv (y := piece z p.toNat p4.toNat) hs6 (by rw [HLL.out]; exact HV5.out.below hb6) HNV.out (piece_byte HBY.out _ _) HLB.out hcv (by omega)
      unfold BPost at hW
      clear hr5 hz5 hb6 hs6
      by_cases hr : piece z p.toNat p4.toNat = bkb l'
      · rw [decide_eq_true hr] at hW
        have HR := Lib.hid hr
        clear hr
        go_wp2_with fail
        with_reducible refine hW.mono ?_
        rintro e w7 ⟨rfl, hb7⟩
        have hr7 := hr6.below hb7
        have HK7 := Lib.hid (HK6.out.trans (Kp.of_below hb7))
        have HO7 := Lib.hid (own_below HO6.out hb7)
        clear hW hr6 hb7
        go_wp2_with fail
        refine (good_any _ _ _ _ _ _ hr7).mono ?_
        rintro e w8 ⟨rfl, hb8⟩
        have HK8 := Lib.hid (HK7.out.trans (Kp.of_below hb8))
        have HO8 := Lib.hid (own_below HO7.out hb8)
        have HR8 := Lib.hid (hr7.below hb8)
        clear hr7 hb8
        go_wp2
        go_ret
        exact ⟨_, l', p4, 0, q4, rfl, by show Own _ w.heap.size (.slice Av ll cv) l'; rw [HLL.out]; exact HO8.out, HLB.out, by rw [← HLL.out]; exact hll, HK8.out, HR8.out, by unfold bks; exact HBK.out.bind (St.done (by rw [if_pos HR.out]) p40 p41)⟩
      · rw [decide_eq_false hr] at hW
        have HR := Lib.hid hr
        clear hr
        go_wp2_with fail
        with_reducible refine hW.mono ?_
        rintro e w7 ⟨rfl, hb7⟩
        have hr7 := hr6.below hb7
        have HK7 := Lib.hid (HK6.out.trans (Kp.of_below hb7))
        have HO7 := Lib.hid (own_below HO6.out hb7)
        clear hW hr6 hb7
        go_wp2_with fail
        refine (at_any _ _ _ _ _ _ hr7).mono ?_
        rintro e w8 ⟨rfl, rfl⟩
        go_wp2_with fail
        with_reducible refine (fail_any b _ p4 0 q4 12 p4 _ hr7).mono ?_
        rintro e w9 ⟨c9, q9, rfl, hk9, hr9, hf9⟩
        have hc9 : c9 = 12 ∧ q9 = p4 := by
          rcases hf9 with ⟨_, e1, e2⟩ | ⟨h, _⟩
          · exact ⟨e1, by rw [e2]; rfl⟩
          · exact absurd rfl h
        obtain ⟨rfl, rfl⟩ := hc9
        go_wp2_with fail
        refine (good_any _ _ _ _ _ _ hr9).mono ?_
        rintro e w10 ⟨rfl, hb10⟩
        have HK10 := Lib.hid ((HK7.out.trans hk9).trans (Kp.of_below hb10))
        have HR10 := Lib.hid (hr9.below hb10)
        clear hr7 hk9 hr9 hf9 hb10
        go_wp2
        go_ret
        exact ⟨_, [], q9, 12, q9, rfl, Own.nil _ _, fun x h => absurd h (by simp), by simp, HK10.out, HR10.out, by unfold bks; exact HBK.out.bind (St.fault (x := []) (y := 0) (by rw [if_neg HR.out]) (by decide) p40 p41)⟩
    · have hcb : (c4 == 0) = false := by simpa using hc4
      have HC4 := Lib.hid hc4
      clear hz5 hc4
      go_wp2_with fail
      refine (good_any _ _ _ _ _ _ hr5).mono ?_
      rintro e w8 ⟨rfl, hb8⟩
      rw [hcb]
      have HK8 := Lib.hid (HK5.out.trans (Kp.of_below hb8))
      have HR8 := Lib.hid (hr5.below hb8)
      clear hr5 hb8
      go_wp2
      go_ret
      exact ⟨_, [], p4, c4, q4, rfl, Own.nil _ _, fun x h => absurd h (by simp), by simp, HK8.out, HR8.out, by unfold bks; rw [HBK.out.nil HC4.out] at HBK; exact HBK.out.bind (St.stay p40 p41 HC4.out)⟩
  · have hr3 := hr2
    have hz3 := hz2
    have HK3 := HK12
    have H3 : Hid (By3 wy c2 q2 p1 c2 q2) := Lib.hid (.inr ⟨by rw [HXW.out]; exact hx1, rfl, rfl⟩)
    have hq3 := HQ2.out
    clear hr2 hz2
    have hC := kcontent_any b a k m z p2 c2 q2 x n w2 hr3 hz3 p20 p21 hm hk HBY.out hxb hn2 hq3
    unfold KcPost at hC
    go_wp2_with fail
    with_reducible refine hC.mono ?_
    rintro e w4 ⟨v4, l, l', p4, c4, q4, rfl, ho4, hlb, hll, hk4, hr4, hs4, hl4⟩
    rw [← HXW.out] at hs4
    have hbk := bk_st (most := most) (by rw [emin]; exact HS1.out) HS2.out H3.out hs4
    obtain ⟨p40, p41⟩ := hs4.place
    have hz4 : Bs w4 a k z := hz3.kp hr3 (by simp) hk4
    have HK4 := Lib.hid (HK3.out.trans hk4)
    obtain ⟨Av, cv, rfl, hbv, hnv, hcv⟩ := ho4.parts
    have HBK := Lib.hid hbk
    have HLB := Lib.hid hlb
    have HL4 := Lib.hid hl4
    have HV := Lib.hid hbv
    have HNV := Lib.hid hnv
    have HO4 := Lib.hid (own_base0 ho4 HK3.out.size)
    obtain ⟨ll, hll2⟩ : ∃ ll, ll = l.length := ⟨_, rfl⟩
    rw [← hll2] at hcv hll ⊢
    have HLL := Lib.hid hll2
    clear hC hs4 hk4 hbk hlb hl4 hbv hnv ho4 hr3 hz3 hll2
    go_wp2_with fail
    refine (good_any _ _ _ _ _ _ hr4).mono ?_
    rintro e w5 ⟨rfl, hb5⟩
    have hr5 := hr4.below hb5
    have hz5 := hz4.below hb5
    have HV5 := Lib.hid (HV.out.below hb5)
    have HK5 := Lib.hid (HK4.out.trans (Kp.of_below hb5))
    have HO5 := Lib.hid (own_below HO4.out hb5)
    clear hr4 hz4 hb5
    by_cases hc4 : c4 = 0
    · subst hc4
      obtain rfl := HL4.out rfl
      go_wp2_with fail
      with_reducible refine (since_st b a k m z p4 0 q4 p _ hr5 hz5 p40 p41 hm (by omega) h0).mono ?_
      rintro e w6 ⟨A6, k6, m6, rfl, hb6, hs6⟩
      have hr6 := hr5.below hb6
      have HK6 := Lib.hid (HK5.out.trans (Kp.of_below hb6))
      have HO6 := Lib.hid (own_below HO5.out hb6)
      have hW := kisown_any A6 Av k6 m6 ll cv (y := piece z p.toNat p4.toNat) hs6 (by rw [HLL.out]; exact HV5.out.below hb6) HNV.out (piece_byte HBY.out _ _) HLB.out hcv (by omega)
      unfold BPost at hW
      clear hr5 hz5 hb6 hs6
      by_cases hr : piece z p.toNat p4.toNat = bkb l'
      · rw [decide_eq_true hr] at hW
        have HR := Lib.hid hr
        clear hr
        go_wp2_with fail
        with_reducible refine hW.mono ?_
        rintro e w7 ⟨rfl, hb7⟩
        have hr7 := hr6.below hb7
        have HK7 := Lib.hid (HK6.out.trans (Kp.of_below hb7))
        have HO7 := Lib.hid (own_below HO6.out hb7)
        clear hW hr6 hb7
        go_wp2_with fail
        refine (good_any _ _ _ _ _ _ hr7).mono ?_
        rintro e w8 ⟨rfl, hb8⟩
        have HK8 := Lib.hid (HK7.out.trans (Kp.of_below hb8))
        have HO8 := Lib.hid (own_below HO7.out hb8)
        have HR8 := Lib.hid (hr7.below hb8)
        clear hr7 hb8
        go_wp2
        go_ret
        exact ⟨_, l', p4, 0, q4, rfl, by show Own _ w.heap.size (.slice Av ll cv) l'; rw [HLL.out]; exact HO8.out, HLB.out, by rw [← HLL.out]; exact hll, HK8.out, HR8.out, by unfold bks; exact HBK.out.bind (St.done (by rw [if_pos HR.out]) p40 p41)⟩
      · rw [decide_eq_false hr] at hW
        have HR := Lib.hid hr
        clear hr
        go_wp2_with fail
        with_reducible refine hW.mono ?_
        rintro e w7 ⟨rfl, hb7⟩
        have hr7 := hr6.below hb7
        have HK7 := Lib.hid (HK6.out.trans (Kp.of_below hb7))
        have HO7 := Lib.hid (own_below HO6.out hb7)
        clear hW hr6 hb7
        go_wp2_with fail
        refine (at_any _ _ _ _ _ _ hr7).mono ?_
        rintro e w8 ⟨rfl, rfl⟩
        go_wp2_with fail
        with_reducible refine (fail_any b _ p4 0 q4 12 p4 _ hr7).mono ?_
        rintro e w9 ⟨c9, q9, rfl, hk9, hr9, hf9⟩
        have hc9 : c9 = 12 ∧ q9 = p4 := by
          rcases hf9 with ⟨_, e1, e2⟩ | ⟨h, _⟩
          · exact ⟨e1, by rw [e2]; rfl⟩
          · exact absurd rfl h
        obtain ⟨rfl, rfl⟩ := hc9
        go_wp2_with fail
        refine (good_any _ _ _ _ _ _ hr9).mono ?_
        rintro e w10 ⟨rfl, hb10⟩
        have HK10 := Lib.hid ((HK7.out.trans hk9).trans (Kp.of_below hb10))
        have HR10 := Lib.hid (hr9.below hb10)
        clear hr7 hk9 hr9 hf9 hb10
        go_wp2
        go_ret
        exact ⟨_, [], q9, 12, q9, rfl, Own.nil _ _, fun x h => absurd h (by simp), by simp, HK10.out, HR10.out, by unfold bks; exact HBK.out.bind (St.fault (x := []) (y := 0) (by rw [if_neg HR.out]) (by decide) p40 p41)⟩
    · have hcb : (c4 == 0) = false := by simpa using hc4
      have HC4 := Lib.hid hc4
      clear hz5 hc4
      go_wp2_with fail
      refine (good_any _ _ _ _ _ _ hr5).mono ?_
      rintro e w8 ⟨rfl, hb8⟩
      rw [hcb]
      have HK8 := Lib.hid (HK5.out.trans (Kp.of_below hb8))
      have HR8 := Lib.hid (hr5.below hb8)
      clear hr5 hb8
      go_wp2
      go_ret
      exact ⟨_, [], p4, c4, q4, rfl, Own.nil _ _, fun x h => absurd h (by simp), by simp, HK8.out, HR8.out, by unfold bks; rw [HBK.out.nil HC4.out] at HBK; exact HBK.out.bind (St.stay p40 p41 HC4.out)⟩
theorem krefuse_any (nb : Nat) (x y : Int) (f : Bool) (w : World) (h : Blk w nb #[.bool f] 120) :
    Calls Tryz.prog 95 #[.pointer (some ⟨nb, 0, none⟩), .int .i64 x, .int .i64 y] w fun e w' => e = .returned (.tuple #[]) ∧ w' = w.setCell ⟨nb, 0, none⟩ (.bool true) := by
  have c0 := h.c1
  have f0 := h.free 0
  clear h
  go_enter Tryz.func95, Tryz.ntmps95
  go_wp2
  go_end0
  exact ⟨rfl, rfl⟩
def KrlPost (b nb : Nat) (s : Value) (k : Nat) (z : List Int) (most p c q : Int) (w : World) (e : Ending) (w' : World) : Prop :=
  ∃ v l p' c' q' f, e = .returned v ∧ Own w' w.heap.size v l ∧ (∀ x ∈ l, 0 ≤ x ∧ x < 256) ∧ l.length ≤ 10000 ∧ Ks (fun j => j = b ∨ j = nb) w w' ∧ IsRd w' b s p' c' q' ∧ Blk w' nb #[.bool f] 120 ∧ St [] k (bk z most p) p c q l p' c' q' ∧ f = (decide (c' = 0) && !decide (piece z p.toNat p'.toNat = bkb l))
set_option maxHeartbeats 8000000 in
theorem kread_loose (b nb : Nat) (a : Option Addr) (k m : Nat) (z : List Int) (p c q most : Int) (w : World) (h : IsRd w b (.slice a k m) p c q) (hN : Blk w nb #[.bool false] 120) (hnb : nb ≠ b) (hz : Bs w a k z) (h0 : 0 ≤ p) (h1 : p ≤ k) (hm : k ≤ m) (hk : k ≤ 100000) (hby : ∀ x ∈ z, 0 ≤ x ∧ x < 256) (hmo : most ≤ 1048576) (hfw : c = 0 → Few z most p) (hq : c = 0 → q = 0) :
    Calls Tryz.prog 94 #[.pointer (some ⟨b, 0, none⟩), .int .i64 most, .func (.func 95) #[.pointer (some ⟨nb, 0, none⟩)] #[]] w (KrlPost b nb (.slice a k m) k z most p c q w) := by
  have HN := Lib.hid hN
  clear hN
  have hzl := hz.1
  have HZ := Lib.hid hz
  have HBY := Lib.hid hby
  have HQ := Lib.hid hq
  have HFW := Lib.hid hfw
  have emin : min most 1048576 = most := by omega
  have hI := vint_any b a k m z p c q most w h hz h0 h1 (by omega) hby (by omega)
  unfold IntPost at hI
  have HH := Lib.hid h
  clear hz hby hq h hfw
  go_enter Tryz.func94, Tryz.ntmps94
  go_wp2_with fail
  refine (at_any _ _ _ _ _ _ HH.out).mono ?_
  rintro e w0 ⟨rfl, rfl⟩
  go_wp2_with fail
  with_reducible refine hI.mono ?_
  rintro e w1 ⟨n, p1, c1, q1, rfl, hk1, hr1, hi1⟩
  have hs1 := hi1.st HZ.out.1 h0 h1 HBY.out
  obtain ⟨p10, p11⟩ := hs1.place
  have hnb := vm_bd hs1 HBY.out
  have hnf : n ≤ 10000 := by
    by_cases hc : c = 0
    · exact hs1.val (P := fun n => n ≤ 10000) (by decide) (HFW.out hc)
    · rw [(hs1.bad hc).1]; decide
  have hz1 : Bs w1 a k z := HZ.out.kp HH.out (by simp) hk1
  rw [← emin] at hs1
  rw [emin] at hs1
  have HS1 := Lib.hid hs1
  have hn2 : 0 ≤ n ∧ n ≤ 10000 := by omega
  clear hI hi1 hs1 hnb hnf
  go_wp2_with fail
  refine (at_any _ _ _ _ _ _ hr1).mono ?_
  rintro e w2 ⟨rfl, rfl⟩
  have hB := byte_any b a k m z p1 c1 q1 w1 hr1 hz1 p10 p11 (by omega)
  unfold BytePost at hB
  go_wp2_with fail
  with_reducible refine hB.mono ?_
  rintro e w2 ⟨ok, p2, c2, q2, hk2, hr2, hsk, rfl⟩
  have hs2 := hsk.st HZ.out.1 p10 p11
  obtain ⟨wy, hwy⟩ : ∃ wy, wy = (if ok = true then piece z p1.toNat (p1 + 1).toNat else []) := ⟨_, rfl⟩
  rw [← hwy] at hs2
  obtain ⟨x, hx⟩ : ∃ x, x = (if ok = true then z.getD p1.toNat 0 else 0) := ⟨_, rfl⟩
  have hxw : wy.getD 0 0 = x := by
    rw [hwy, hx]
    cases ok
    · rfl
    · rw [if_pos rfl, if_pos rfl, piece_head z p1 p10]
  have hxb : 0 ≤ x ∧ x < 256 := by
    rw [hx]
    cases ok
    · rw [if_neg (by decide)]; omega
    · rw [if_pos rfl, List.getD_eq_getElem?_getD]
      cases hg : z[p1.toNat]? with
      | none => simp
      | some y => exact HBY.out y (List.mem_of_getElem? hg)
  rw [← hx]
  obtain ⟨p20, p21⟩ := hs2.place
  have hz2 : Bs w2 a k z := hz1.kp hr1 (by simp) hk2
  have HS2 := Lib.hid hs2
  have HXW := Lib.hid hxw
  have HK12 := Lib.hid (hk1.trans hk2)
  have HQ2 := Lib.hid (fun e : c2 = 0 => (show q2 = 0 from by
    subst e
    obtain ⟨e1, _, _, _, e2⟩ := hs2.good
    subst e1
    obtain ⟨e3, _, _, _, e4⟩ := HS1.out.good
    rw [e2, e4]
    exact HQ.out e3))
  clear hB hsk hwy hx hxw hk1 hk2 hr1 hz1 hs2
  by_cases hx1 : 1 < x
  · go_wp2_with fail
    with_reducible refine (fail_any b _ p2 c2 q2 7 p1 _ hr2).mono ?_
    rintro e w3 ⟨c3, q3, rfl, hk3, hr3, hf3⟩
    have hz3 : Bs w3 a k z := hz2.kp hr2 (by simp) hk3
    have HK3 := Lib.hid (HK12.out.trans hk3)
    have H3 : Hid (By3 wy c2 q2 p1 c3 q3) := Lib.hid (.inl ⟨by rw [HXW.out]; exact hx1, hf3⟩)
    have hq3 : c3 = 0 → q3 = 0 := fun e => by
      rcases hf3 with ⟨_, e3, _⟩ | ⟨h, e3, _⟩
      · omega
      · exact absurd (e3.symm.trans e) h
    clear hf3 hk3 hr2 hz2 hx1
    have hC := kcontent_any b a k m z p2 c3 q3 x n w3 hr3 hz3 p20 p21 hm hk HBY.out hxb hn2 hq3
    unfold KcPost at hC
    go_wp2_with fail
    with_reducible refine hC.mono ?_
    rintro e w4 ⟨v4, l, l', p4, c4, q4, rfl, ho4, hlb, hll, hk4, hr4, hs4, hl4⟩
    rw [← HXW.out] at hs4
    have hbk := bk_st (most := most) (by rw [emin]; exact HS1.out) HS2.out H3.out hs4
    obtain ⟨p40, p41⟩ := hs4.place
    have hz4 : Bs w4 a k z := hz3.kp hr3 (by simp) hk4
    have HK4 := Lib.hid (HK3.out.trans hk4)
    obtain ⟨Av, cv, rfl, hbv, hnv, hcv⟩ := ho4.parts
    have HBK := Lib.hid hbk
    have HLB := Lib.hid hlb
    have HL4 := Lib.hid hl4
    have HV := Lib.hid hbv
    have HNV := Lib.hid hnv
    have HO4 := Lib.hid (own_base0 ho4 HK3.out.size)
    obtain ⟨ll, hll2⟩ : ∃ ll, ll = l.length := ⟨_, rfl⟩
    rw [← hll2] at hcv hll ⊢
    have HLL := Lib.hid hll2
    clear hC hs4 hk4 hbk hlb hl4 hbv hnv ho4 hr3 hz3 hll2
    go_wp2_with fail
    refine (good_any _ _ _ _ _ _ hr4).mono ?_
    rintro e w5 ⟨rfl, hb5⟩
    have hr5 := hr4.below hb5
    have hz5 := hz4.below hb5
    have HV5 := Lib.hid (HV.out.below hb5)
    have HK5 := Lib.hid (HK4.out.trans (Kp.of_below hb5))
    have HO5 := Lib.hid (own_below HO4.out hb5)
    clear hr4 hz4 hb5
    by_cases hc4 : c4 = 0
    · subst hc4
      obtain rfl := HL4.out rfl
      go_wp2_with fail
      with_reducible refine (since_st b a k m z p4 0 q4 p _ hr5 hz5 p40 p41 hm (by omega) h0).mono ?_
      rintro e w6 ⟨A6, k6, m6, rfl, hb6, hs6⟩
      have hr6 := hr5.below hb6
      have HK6 := Lib.hid (HK5.out.trans (Kp.of_below hb6))
      have HO6 := Lib.hid (own_below HO5.out hb6)
      have hW := kisown_any A6 Av k6 m6 ll cv (y := piece z p.toNat p4.toNat) hs6 (by rw [HLL.out]; exact HV5.out.below hb6) HNV.out (piece_byte HBY.out _ _) HLB.out hcv (by omega)
      unfold BPost at hW
      clear hr5 hz5 hb6 hs6
      by_cases hr : piece z p.toNat p4.toNat = bkb l'
      · rw [decide_eq_true hr] at hW
        have HR := Lib.hid hr
        clear hr
        go_wp2_with fail
        with_reducible refine hW.mono ?_
        rintro e w7 ⟨rfl, hb7⟩
        have hr7 := hr6.below hb7
        have HK7 := Lib.hid (HK6.out.trans (Kp.of_below hb7))
        have HO7 := Lib.hid (own_below HO6.out hb7)
        clear hW hr6 hb7
        go_wp2_with fail
        refine (good_any _ _ _ _ _ _ hr7).mono ?_
        rintro e w8 ⟨rfl, hb8⟩
        have HK8 := Lib.hid (HK7.out.trans (Kp.of_below hb8))
        have HO8 := Lib.hid (own_below HO7.out hb8)
        have HR8 := Lib.hid (hr7.below hb8)
        clear hr7 hb8
        go_wp2
        go_ret
        exact ⟨_, l', p4, 0, q4, false, rfl, by show Own _ w.heap.size (.slice Av ll cv) l'; rw [HLL.out]; exact HO8.out, HLB.out, by rw [← HLL.out]; exact hll, Ks.of_kp HK8.out (.inl rfl), HR8.out, blk_kp HN.out HK8.out hnb, HBK.out, by rw [decide_eq_true HR.out]; rfl⟩
      · rw [decide_eq_false hr] at hW
        have HR := Lib.hid hr
        clear hr
        go_wp2_with fail
        with_reducible refine hW.mono ?_
        rintro e w7 ⟨rfl, hb7⟩
        have hr7 := hr6.below hb7
        have HK7 := Lib.hid (HK6.out.trans (Kp.of_below hb7))
        have HO7 := Lib.hid (own_below HO6.out hb7)
        clear hW hr6 hb7
        go_wp2_with fail
        refine (at_any _ _ _ _ _ _ hr7).mono ?_
        rintro e w8 ⟨rfl, rfl⟩
        have hN7 := blk_kp HN.out HK7.out hnb
        go_wp2_with fail
        with_reducible refine (krefuse_any nb 12 p4 false _ hN7).mono ?_
        rintro e w9 ⟨rfl, hw9⟩
        have hr9 : IsRd w9 b (.slice a k m) p4 0 q4 := by rw [hw9]; exact hr7.kp (Kp.setCell _ nb 0 (.bool true)) hnb.symm
        have HN9 : Hid (Blk w9 nb #[.bool true] 120) := Lib.hid (by rw [hw9]; exact hN7.set 0 (.bool true))
        have HK9 : Hid (Ks (fun j => j = b ∨ j = nb) w w9) := Lib.hid (by rw [hw9]; exact (Ks.of_kp HK7.out (.inl rfl)).trans (Ks.setCell _ nb 0 (.bool true) (.inr rfl)))
        have HO9 : Hid (Own w9 w.heap.size (.slice Av l'.length cv) l') := Lib.hid (by rw [hw9]; exact own_kp HO7.out (Kp.setCell _ nb 0 (.bool true)) (own_ne_blk HO7.out hN7 (by decide)))
        clear hw9 hN7 hr7
        go_wp2_with fail
        refine (good_any _ _ _ _ _ _ hr9).mono ?_
        rintro e w10 ⟨rfl, hb10⟩
        have HK10 := Lib.hid (HK9.out.trans (Ks.of_below hb10))
        have HR10 := Lib.hid (hr9.below hb10)
        have HN10 := Lib.hid (HN9.out.below hb10)
        have HO10 := Lib.hid (own_below HO9.out hb10)
        clear hr9 hb10
        go_wp2
        go_ret
        exact ⟨_, l', p4, 0, q4, true, rfl, by show Own _ w.heap.size (.slice Av ll cv) l'; rw [HLL.out]; exact HO10.out, HLB.out, by rw [← HLL.out]; exact hll, HK10.out, HR10.out, HN10.out, HBK.out, by rw [decide_eq_false HR.out]; rfl⟩
    · have hcb : (c4 == 0) = false := by simpa using hc4
      have HC4 := Lib.hid hc4
      clear hz5 hc4
      go_wp2_with fail
      refine (good_any _ _ _ _ _ _ hr5).mono ?_
      rintro e w8 ⟨rfl, hb8⟩
      rw [hcb]
      have HK8 := Lib.hid (HK5.out.trans (Kp.of_below hb8))
      have HR8 := Lib.hid (hr5.below hb8)
      clear hr5 hb8
      go_wp2
      go_ret
      exact ⟨_, [], p4, c4, q4, false, rfl, Own.nil _ _, fun x h => absurd h (by simp), by simp, Ks.of_kp HK8.out (.inl rfl), HR8.out, blk_kp HN.out HK8.out hnb, by rw [HBK.out.nil HC4.out] at HBK; exact HBK.out, by rw [decide_eq_false HC4.out]; rfl⟩
  · have hr3 := hr2
    have hz3 := hz2
    have HK3 := HK12
    have H3 : Hid (By3 wy c2 q2 p1 c2 q2) := Lib.hid (.inr ⟨by rw [HXW.out]; exact hx1, rfl, rfl⟩)
    have hq3 := HQ2.out
    clear hr2 hz2
    have hC := kcontent_any b a k m z p2 c2 q2 x n w2 hr3 hz3 p20 p21 hm hk HBY.out hxb hn2 hq3
    unfold KcPost at hC
    go_wp2_with fail
    with_reducible refine hC.mono ?_
    rintro e w4 ⟨v4, l, l', p4, c4, q4, rfl, ho4, hlb, hll, hk4, hr4, hs4, hl4⟩
    rw [← HXW.out] at hs4
    have hbk := bk_st (most := most) (by rw [emin]; exact HS1.out) HS2.out H3.out hs4
    obtain ⟨p40, p41⟩ := hs4.place
    have hz4 : Bs w4 a k z := hz3.kp hr3 (by simp) hk4
    have HK4 := Lib.hid (HK3.out.trans hk4)
    obtain ⟨Av, cv, rfl, hbv, hnv, hcv⟩ := ho4.parts
    have HBK := Lib.hid hbk
    have HLB := Lib.hid hlb
    have HL4 := Lib.hid hl4
    have HV := Lib.hid hbv
    have HNV := Lib.hid hnv
    have HO4 := Lib.hid (own_base0 ho4 HK3.out.size)
    obtain ⟨ll, hll2⟩ : ∃ ll, ll = l.length := ⟨_, rfl⟩
    rw [← hll2] at hcv hll ⊢
    have HLL := Lib.hid hll2
    clear hC hs4 hk4 hbk hlb hl4 hbv hnv ho4 hr3 hz3 hll2
    go_wp2_with fail
    refine (good_any _ _ _ _ _ _ hr4).mono ?_
    rintro e w5 ⟨rfl, hb5⟩
    have hr5 := hr4.below hb5
    have hz5 := hz4.below hb5
    have HV5 := Lib.hid (HV.out.below hb5)
    have HK5 := Lib.hid (HK4.out.trans (Kp.of_below hb5))
    have HO5 := Lib.hid (own_below HO4.out hb5)
    clear hr4 hz4 hb5
    by_cases hc4 : c4 = 0
    · subst hc4
      obtain rfl := HL4.out rfl
      go_wp2_with fail
      with_reducible refine (since_st b a k m z p4 0 q4 p _ hr5 hz5 p40 p41 hm (by omega) h0).mono ?_
      rintro e w6 ⟨A6, k6, m6, rfl, hb6, hs6⟩
      have hr6 := hr5.below hb6
      have HK6 := Lib.hid (HK5.out.trans (Kp.of_below hb6))
      have HO6 := Lib.hid (own_below HO5.out hb6)
      have hW := kisown_any A6 Av k6 m6 ll cv (y := piece z p.toNat p4.toNat) hs6 (by rw [HLL.out]; exact HV5.out.below hb6) HNV.out (piece_byte HBY.out _ _) HLB.out hcv (by omega)
      unfold BPost at hW
      clear hr5 hz5 hb6 hs6
      by_cases hr : piece z p.toNat p4.toNat = bkb l'
      · rw [decide_eq_true hr] at hW
        have HR := Lib.hid hr
        clear hr
        go_wp2_with fail
        with_reducible refine hW.mono ?_
        rintro e w7 ⟨rfl, hb7⟩
        have hr7 := hr6.below hb7
        have HK7 := Lib.hid (HK6.out.trans (Kp.of_below hb7))
        have HO7 := Lib.hid (own_below HO6.out hb7)
        clear hW hr6 hb7
        go_wp2_with fail
        refine (good_any _ _ _ _ _ _ hr7).mono ?_
        rintro e w8 ⟨rfl, hb8⟩
        have HK8 := Lib.hid (HK7.out.trans (Kp.of_below hb8))
        have HO8 := Lib.hid (own_below HO7.out hb8)
        have HR8 := Lib.hid (hr7.below hb8)
        clear hr7 hb8
        go_wp2
        go_ret
        exact ⟨_, l', p4, 0, q4, false, rfl, by show Own _ w.heap.size (.slice Av ll cv) l'; rw [HLL.out]; exact HO8.out, HLB.out, by rw [← HLL.out]; exact hll, Ks.of_kp HK8.out (.inl rfl), HR8.out, blk_kp HN.out HK8.out hnb, HBK.out, by rw [decide_eq_true HR.out]; rfl⟩
      · rw [decide_eq_false hr] at hW
        have HR := Lib.hid hr
        clear hr
        go_wp2_with fail
        with_reducible refine hW.mono ?_
        rintro e w7 ⟨rfl, hb7⟩
        have hr7 := hr6.below hb7
        have HK7 := Lib.hid (HK6.out.trans (Kp.of_below hb7))
        have HO7 := Lib.hid (own_below HO6.out hb7)
        clear hW hr6 hb7
        go_wp2_with fail
        refine (at_any _ _ _ _ _ _ hr7).mono ?_
        rintro e w8 ⟨rfl, rfl⟩
        have hN7 := blk_kp HN.out HK7.out hnb
        go_wp2_with fail
        with_reducible refine (krefuse_any nb 12 p4 false _ hN7).mono ?_
        rintro e w9 ⟨rfl, hw9⟩
        have hr9 : IsRd w9 b (.slice a k m) p4 0 q4 := by rw [hw9]; exact hr7.kp (Kp.setCell _ nb 0 (.bool true)) hnb.symm
        have HN9 : Hid (Blk w9 nb #[.bool true] 120) := Lib.hid (by rw [hw9]; exact hN7.set 0 (.bool true))
        have HK9 : Hid (Ks (fun j => j = b ∨ j = nb) w w9) := Lib.hid (by rw [hw9]; exact (Ks.of_kp HK7.out (.inl rfl)).trans (Ks.setCell _ nb 0 (.bool true) (.inr rfl)))
        have HO9 : Hid (Own w9 w.heap.size (.slice Av l'.length cv) l') := Lib.hid (by rw [hw9]; exact own_kp HO7.out (Kp.setCell _ nb 0 (.bool true)) (own_ne_blk HO7.out hN7 (by decide)))
        clear hw9 hN7 hr7
        go_wp2_with fail
        refine (good_any _ _ _ _ _ _ hr9).mono ?_
        rintro e w10 ⟨rfl, hb10⟩
        have HK10 := Lib.hid (HK9.out.trans (Ks.of_below hb10))
        have HR10 := Lib.hid (hr9.below hb10)
        have HN10 := Lib.hid (HN9.out.below hb10)
        have HO10 := Lib.hid (own_below HO9.out hb10)
        clear hr9 hb10
        go_wp2
        go_ret
        exact ⟨_, l', p4, 0, q4, true, rfl, by show Own _ w.heap.size (.slice Av ll cv) l'; rw [HLL.out]; exact HO10.out, HLB.out, by rw [← HLL.out]; exact hll, HK10.out, HR10.out, HN10.out, HBK.out, by rw [decide_eq_false HR.out]; rfl⟩
    · have hcb : (c4 == 0) = false := by simpa using hc4
      have HC4 := Lib.hid hc4
      clear hz5 hc4
      go_wp2_with fail
      refine (good_any _ _ _ _ _ _ hr5).mono ?_
      rintro e w8 ⟨rfl, hb8⟩
      rw [hcb]
      have HK8 := Lib.hid (HK5.out.trans (Kp.of_below hb8))
      have HR8 := Lib.hid (hr5.below hb8)
      clear hr5 hb8
      go_wp2
      go_ret
      exact ⟨_, [], p4, c4, q4, false, rfl, Own.nil _ _, fun x h => absurd h (by simp), by simp, Ks.of_kp HK8.out (.inl rfl), HR8.out, blk_kp HN.out HK8.out hnb, by rw [HBK.out.nil HC4.out] at HBK; exact HBK.out, by rw [decide_eq_false HC4.out]; rfl⟩
end Go.Proofs.YtlealkfkddhnnaaGreat.Cur
namespace Go.Proofs.YtlealkfkddhnnaaGreat.Cur
open Go.RowKit Go.Shelf Mem
attribute [local go_sem] Oper.semAt_some
set_option linter.unusedVariables false
set_option maxRecDepth 100000
theorem kRead_any (b : Nat) (a : Option Addr) (k m : Nat) (z : List Int) (p c q most : Int) (w : World) (h : IsRd w b (.slice a k m) p c q) (hz : Bs w a k z) (h0 : 0 ≤ p) (h1 : p ≤ k) (hm : k ≤ m) (hk : k ≤ 100000) (hby : ∀ x ∈ z, 0 ≤ x ∧ x < 256) (hmo : most ≤ 1048576) (hfw : c = 0 → Few z most p) (hq : c = 0 → q = 0) :
    Calls Tryz.prog 86 #[.pointer (some ⟨b, 0, none⟩), .int .i64 most] w (KrdPost b (.slice a k m) k (bks z most p) p c q w) := by
  have hR := kread_strict b a k m z p c q most w h hz h0 h1 hm hk hby hmo hfw hq
  unfold KrdPost at hR
  clear h hz hby hq hfw
  go_enter Tryz.func86, Tryz.ntmps86
  go_wp2_with fail
  with_reducible refine hR.mono ?_
  rintro e w1 ⟨v, l, p', c', q', rfl, ho, hb⟩
  obtain ⟨Av, cv, rfl⟩ := ho.slice
  have HO := Lib.hid (And.intro ho hb)
  clear hR ho hb
  go_wp2
  go_ret
  exact ⟨_, l, p', c', q', rfl, HO.out⟩
def KRlPost (b : Nat) (s : Value) (k : Nat) (z : List Int) (most p c q : Int) (w : World) (e : Ending) (w' : World) : Prop :=
  ∃ v l p' c' q', e = .returned (.tuple #[v, .bool (decide (c' = 0) && decide (piece z p.toNat p'.toNat = bkb l))]) ∧ Own w' w.heap.size v l ∧ (∀ x ∈ l, 0 ≤ x ∧ x < 256) ∧ l.length ≤ 10000 ∧ Kp b w w' ∧ IsRd w' b s p' c' q' ∧ St [] k (bk z most p) p c q l p' c' q'
set_option maxHeartbeats 4000000 in
theorem kReadLoose_any (b : Nat) (a : Option Addr) (k m : Nat) (z : List Int) (p c q most : Int) (w : World) (h : IsRd w b (.slice a k m) p c q) (hz : Bs w a k z) (h0 : 0 ≤ p) (h1 : p ≤ k) (hm : k ≤ m) (hk : k ≤ 100000) (hby : ∀ x ∈ z, 0 ≤ x ∧ x < 256) (hmo : most ≤ 1048576) (hfw : c = 0 → Few z most p) (hq : c = 0 → q = 0) :
    Calls Tryz.prog 55 #[.pointer (some ⟨b, 0, none⟩), .int .i64 most] w (KRlPost b (.slice a k m) k z most p c q w) := by
  have hbN := below_one w (.cells #[.bool false] 120)
  have hbl : b < w.heap.size := Blk.lt h
  have hR := kread_loose b w.heap.size a k m z p c q most (w.alloc (.cells #[.bool false] 120)) (h.below hbN) (Blk.new w #[.bool false] 120) (by omega) (hz.below hbN) h0 h1 hm hk hby hmo hfw hq
  unfold KrlPost at hR
  have HBN := Lib.hid hbN
  clear h hz hby hq hbN hfw
  go_enter Tryz.func55, Tryz.ntmps55
  go_wp2_with fail
  with_reducible refine hR.mono ?_
  rintro e w1 ⟨v, l, p', c', q', f, rfl, ho, hlb, hll, hk1, hr1, hn1, hs1, hf⟩
  obtain ⟨Av, cv, rfl⟩ := ho.slice
  have HO := Lib.hid (own_base0 ho HBN.out.size)
  have HS := Lib.hid hs1
  have HF := Lib.hid hf
  have HLB := Lib.hid hlb
  have hkb : Kp b w w1 := by
    have h1 := HBN.out
    refine ⟨hk1.os.trans h1.os, hk1.tape.trans h1.tape, hk1.output.trans h1.output, Nat.le_trans h1.size hk1.size, fun j hj hne => ?_⟩
    exact (hk1.block j (Nat.lt_of_lt_of_le hj h1.size) (by rintro (e | e) <;> omega)).trans (h1.block j hj)
  have HKB := Lib.hid hkb
  obtain ⟨ll, hll2⟩ : ∃ ll, ll = l.length := ⟨_, rfl⟩
  rw [← hll2] at hll ⊢
  have HLL := Lib.hid hll2
  have hS : Blk w1.drew w.heap.size #[.bool f] 120 ∧ True := ⟨hn1, trivial⟩
  have L : ∀ w', (Blk w' w.heap.size #[.bool f] 120 ∧ True) → w'.cell? ⟨w.heap.size, 0, none⟩ = some (.bool f) := fun w' h => h.1.c1
  have HR1 := Lib.hid (hr1.drewN 1)
  clear hR ho hlb hk1 hr1 hn1 hs1 hf hkb hll2
  by_cases hc : c' = 0
  · subst hc
    have HFR : Hid (Value.bool (!f) = Value.bool (decide ((0 : Int) = 0) && decide (piece z p.toNat p'.toNat = bkb l))) := Lib.hid (by
      rw [HF.out]
      cases decide (piece z p.toNat p'.toNat = bkb l) <;> rfl)
    go_wp2_with fail
    refine Seq.wp_region_seq (fun w' => Blk w' w.heap.size #[.bool f] 120 ∧ True) (by kernel_rfl) (by kernel_rfl) hS ?_
    repeat (first | (refine Seq.Seq.skip (by rfl) ?_; (try simp only [Act.put, List.setIfInBounds_toArray, List.set_cons_zero, List.set_cons_succ])) | (refine Seq.Seq.det ?_ (by rfl) (fun w hS => ?_) ?_; rotate_left; ((try dsimp only at hS); go_simp; (try rw [if_pos (by omega)]); with_reducible rfl); (try simp only [Act.put, List.setIfInBounds_toArray, List.set_cons_zero, List.set_cons_succ])))
    refine Seq.Seq.make (by rfl) (by rfl) (fun K Q' hK => ?_)
    go_simp
    go_at_call 93
    refine (good_any _ _ _ _ _ _ HR1.out).mono ?_
    rintro e w2 ⟨rfl, hb2⟩
    have hS2 : Blk w2 w.heap.size #[.bool f] 120 ∧ True := ⟨hS.1.below hb2, trivial⟩
    have HB2 := Lib.hid ((below_one' w1).trans (hb2.mono (below_one' w1).size))
    have HR2 := Lib.hid (HR1.out.below hb2)
    clear hb2
    refine hK.out _ _ (hS2) ?_
    clear hK K
    try simp only [Act.put, List.setIfInBounds_toArray, List.set_cons_zero, List.set_cons_succ]
    repeat (first | (refine Seq.Seq.skip (by rfl) ?_; (try simp only [Act.put, List.setIfInBounds_toArray, List.set_cons_zero, List.set_cons_succ])) | (refine Seq.Seq.det ?_ (by rfl) (fun w hS => ?_) ?_; rotate_left; ((try dsimp only at hS); go_simp; (try rw [if_pos (by omega)]); with_reducible rfl); (try simp only [Act.put, List.setIfInBounds_toArray, List.set_cons_zero, List.set_cons_succ])))
    refine Seq.Seq.nil ?_
    clear L hS hS2
    go_wp2
    go_ret2
    refine ⟨.slice Av ll cv, l, p', 0, q', ?_, by rw [HLL.out]; exact own_below HO.out HB2.out, HLB.out, by rw [← HLL.out]; exact hll, HKB.out.trans (Kp.of_below HB2.out), HR2.out, HS.out⟩
    show Ending.returned (.tuple #[.slice Av ll cv, .bool (!f)]) = _
    exact congrArg (fun u => Ending.returned (.tuple #[.slice Av ll cv, u])) HFR.out
  · have hcb : (c' == 0) = false := by simpa using hc
    have HFR : Hid (Value.bool false = Value.bool (decide (c' = 0) && decide (piece z p.toNat p'.toNat = bkb l))) := Lib.hid (by rw [decide_eq_false hc]; rfl)
    clear hc
    go_wp2_with fail
    refine Seq.wp_region_seq (fun w' => Blk w' w.heap.size #[.bool f] 120 ∧ True) (by kernel_rfl) (by kernel_rfl) hS ?_
    repeat (first | (refine Seq.Seq.skip (by rfl) ?_; (try simp only [Act.put, List.setIfInBounds_toArray, List.set_cons_zero, List.set_cons_succ])) | (refine Seq.Seq.det ?_ (by rfl) (fun w hS => ?_) ?_; rotate_left; ((try dsimp only at hS); go_simp; (try rw [if_pos (by omega)]); with_reducible rfl); (try simp only [Act.put, List.setIfInBounds_toArray, List.set_cons_zero, List.set_cons_succ])))
    refine Seq.Seq.make (by rfl) (by rfl) (fun K Q' hK => ?_)
    go_simp
    go_at_call 93
    refine (good_any _ _ _ _ _ _ HR1.out).mono ?_
    rintro e w2 ⟨rfl, hb2⟩
    rw [hcb]
    have hS2 : Blk w2 w.heap.size #[.bool f] 120 ∧ True := ⟨hS.1.below hb2, trivial⟩
    have HB2 := Lib.hid ((below_one' w1).trans (hb2.mono (below_one' w1).size))
    have HR2 := Lib.hid (HR1.out.below hb2)
    clear hb2
    refine hK.out _ _ (hS2) ?_
    clear hK K
    try simp only [Act.put, List.setIfInBounds_toArray, List.set_cons_zero, List.set_cons_succ]
    repeat (first | (refine Seq.Seq.skip (by rfl) ?_; (try simp only [Act.put, List.setIfInBounds_toArray, List.set_cons_zero, List.set_cons_succ])) | (refine Seq.Seq.det ?_ (by rfl) (fun w hS => ?_) ?_; rotate_left; ((try dsimp only at hS); go_simp; (try rw [if_pos (by omega)]); with_reducible rfl); (try simp only [Act.put, List.setIfInBounds_toArray, List.set_cons_zero, List.set_cons_succ])))
    refine Seq.Seq.nil ?_
    clear L hS hS2
    go_wp2
    go_ret2
    refine ⟨.slice Av ll cv, l, p', c', q', ?_, by rw [HLL.out]; exact own_below HO.out HB2.out, HLB.out, by rw [← HLL.out]; exact hll, HKB.out.trans (Kp.of_below HB2.out), HR2.out, HS.out⟩
    exact congrArg (fun u => Ending.returned (.tuple #[.slice Av ll cv, u])) HFR.out
def gvl (G : Rs (List Int)) : List Int := if G.2.2.1 = 0 then G.1 else []
def gpl (G : Rs (List Int)) : Int := if G.2.2.1 = 0 then G.2.1 else 0
def gq (G : Rs (List Int)) : Int := if G.2.2.1 = 0 then 0 else G.2.2.2
def ownf (z : List Int) (G : Rs (List Int)) : Bool := decide (G.2.2.1 = 0) && decide (piece z 0 (gpl G).toNat = bkb (gvl G))
end Go.Proofs.YtlealkfkddhnnaaGreat.Cur
namespace Go.Proofs.YtlealkfkddhnnaaGreat.Cur
open Go.RowKit Mem
set_option linter.unusedVariables false
set_option maxRecDepth 100000
theorem bk_put {z rest : List Int} {most : Int} (hz : z.length ≤ 10000) (hby : ∀ x ∈ z, 0 ≤ x ∧ x < 256) (hm : (z.length : Int) ≤ min most 1048576) : bk (bkb z ++ rest) most 0 = (z, ((bkb z).length : Int), 0, 0) := by
  have hcl := cps_len (z := z) (by omega) hby
  have hex := exv_cps (b := (z.length : Int)) hz hby (Int.le_refl _)
  obtain ⟨n, hn⟩ : ∃ n : Int, n = z.length := ⟨_, rfl⟩
  obtain ⟨H, hH⟩ : ∃ H, H = vz n := ⟨_, rfl⟩
  obtain ⟨C, hC⟩ : ∃ C, C = cps z := ⟨_, rfl⟩
  have hl : H.length = vsz n := by rw [hH, vz_length]
  have n0 : 0 ≤ n := by omega
  have n1 : n ≤ 10000 := by omega
  rw [← hn] at hm hex
  rw [← hC] at hcl hex
  have e1 : ∀ w r, w = H ++ r → vm w (min most 1048576) 0 = (n, (H.length : Int), 0, 0) := fun w r hw => by
    have := vm_put (z := w) (pre := []) (rest := r) (x := n) (mo := min most 1048576) (by rw [hw, hH]; rfl) n0 (by omega) hm
    rw [List.length_nil, Nat.zero_add, ← hl] at this
    exact this
  by_cases hp : pk z = true
  · have hb : bkb z = H ++ (1 :: (vz (C.length : Int) ++ C)) := by unfold bkb; rw [if_pos hp, hH, hC, hn]
    rw [hb]
    obtain ⟨w, hw⟩ : ∃ w, w = H ++ (1 :: (vz (C.length : Int) ++ C)) ++ rest := ⟨_, rfl⟩
    rw [← hw]
    have e2 : tk w 1 (H.length : Int) = ([1], ((H.length + 1 : Nat) : Int), 0, 0) := tk_put (y := [1]) (pre := H) (rest := vz (C.length : Int) ++ C ++ rest) (by rw [hw]; simp only [List.append_assoc, List.cons_append, List.nil_append])
    have e3 := bl_put (z := w) (mo := 1048576) (pre := H ++ [1]) (y := C) (rest := rest) (by rw [hw]; simp only [List.append_assoc, List.cons_append, List.nil_append]) (by omega) (by omega)
    rw [List.length_append, List.length_singleton] at e3
    unfold bk
    rw [Rs.bind_of (e1 w _ (by rw [hw, List.append_assoc])), Rs.bind_of e2, if_neg (by decide)]
    unfold bc
    rw [if_neg (by decide), Rs.bind_of e3, hex]
    simp only
    rw [if_neg (by simp), if_neg (by rw [hn]; omega)]
    congr 2
    simp only [List.length_append, List.length_cons]
    omega
  · have hb : bkb z = H ++ (0 :: z) := by unfold bkb; rw [if_neg hp, hH, hn]
    rw [hb]
    obtain ⟨w, hw⟩ : ∃ w, w = H ++ (0 :: z) ++ rest := ⟨_, rfl⟩
    rw [← hw]
    have e2 : tk w 1 (H.length : Int) = ([0], ((H.length + 1 : Nat) : Int), 0, 0) := tk_put (y := [0]) (pre := H) (rest := z ++ rest) (by rw [hw]; simp only [List.append_assoc, List.cons_append, List.nil_append])
    have e3 := tk_put (z := w) (pre := H ++ [0]) (y := z) (rest := rest) (by rw [hw]; simp only [List.append_assoc, List.cons_append, List.nil_append])
    rw [List.length_append, List.length_singleton] at e3
    unfold bk
    rw [Rs.bind_of (e1 w _ (by rw [hw, List.append_assoc])), Rs.bind_of e2, if_neg (by decide)]
    unfold bc
    rw [if_pos (by decide), hn, e3]
    congr 2
    simp only [List.length_append, List.length_cons]
    omega
theorem bkb_front {z rest : List Int} : piece (bkb z ++ rest) 0 (bkb z).length = bkb z := by
  unfold piece
  rw [List.drop_zero, Nat.sub_zero, List.take_left]
theorem both_put {z rest : List Int} {most : Int} (hz : z.length ≤ 10000) (hby : ∀ x ∈ z, 0 ≤ x ∧ x < 256) (hm : (z.length : Int) ≤ min most 1048576) : bk (bkb z ++ rest) most 0 = (z, ((bkb z).length : Int), 0, 0) ∧ bks (bkb z ++ rest) most 0 = (z, ((bkb z).length : Int), 0, 0) ∧ ownf (bkb z ++ rest) (bk (bkb z ++ rest) most 0) = true := by
  have h := bk_put (rest := rest) hz hby hm
  refine ⟨h, ?_, ?_⟩
  · unfold bks
    rw [Rs.bind_of h, if_pos (by show piece _ 0 ((bkb z).length : Int).toNat = _; rw [Int.toNat_natCast, bkb_front])]
  · rw [h]
    unfold ownf gpl gvl
    rw [if_pos rfl, if_pos rfl, Int.toNat_natCast, bkb_front]
    simp
end Go.Proofs.YtlealkfkddhnnaaGreat.Cur
namespace Go.Proofs.YtlealkfkddhnnaaGreat.Cur
open Go.RowKit Go.Shelf Mem
attribute [local go_sem] Oper.semAt_some
set_option linter.unusedVariables false
set_option maxRecDepth 100000
def LzS (eb cb : Nat) (s : Value) (s0 p : Int) (w' : World) : Prop := Blk w' eb (cvs s p 0 0) 50 ∧ Blk w' cb (cvs s s0 0 0) 50
theorem LzS.below {eb cb : Nat} {s : Value} {s0 p : Int} {w' w'' : World} (h : LzS eb cb s s0 p w') (hb : Below w'.heap.size w' w'') : LzS eb cb s s0 p w'' := ⟨h.1.below hb, h.2.below hb⟩
end Go.Proofs.YtlealkfkddhnnaaGreat.Cur
namespace Go.Proofs.YtlealkfkddhnnaaGreat.Cur
open Go.RowKit Go.Shelf Mem
attribute [local go_sem] Oper.semAt_some
set_option linter.unusedVariables false
set_option maxRecDepth 100000
end Go.Proofs.YtlealkfkddhnnaaGreat.Cur
