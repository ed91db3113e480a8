/- As the seat's text, without what nothing here names. -/
import Derived.Test.YtlealkfkddhnnaaGreatBtcIy
import Derived.Test.YtlealkfkddhnnaaGreatBtcKy
import Derived.Test.YtlealkfkddhnnaaGreatBtcTy
import Derived.Test.YtlealkfkddhnnaaGreatShfBy
import Derived.Test.YtlealkfkddhnnaaGreatK18y
namespace Go.Proofs.YtlealkfkddhnnaaGreat.Cur
open Go.RowKit Mem
set_option linter.unusedVariables false
set_option maxRecDepth 100000
def NoGr (z : List Int) : Prop := ∀ i, i + 1 < z.length → ¬ (128 ≤ z.getD i 0 ∧ 3 ≤ z.getD (i + 1) 0)
theorem NoGr.drop {z : List Int} (h : NoGr z) (k : Nat) : NoGr (z.drop k) := fun i hi hg => by
  rw [List.length_drop] at hi
  refine h (k + i) (by omega) ?_
  rw [List.getD_eq_getElem?_getD, List.getD_eq_getElem?_getD, List.getElem?_drop, List.getElem?_drop] at hg
  rw [List.getD_eq_getElem?_getD, List.getD_eq_getElem?_getD]
  exact hg
theorem bhd_put {z pre rest : List Int} {B : Bt} (hz : z = pre ++ bthz B ++ rest) (hok : BtOk B) : bhd z pre.length = ((B.1, B.2.1, hds B.2.2), ((pre.length + (bthz B).length : Nat) : Int), 0, 0) := by
  obtain ⟨e, b, L⟩ := B
  obtain ⟨o1, o2, o3, o4, o5, o6, o7, o8⟩ := hok
  dsimp only at o1 o2 o3 o4 o5 o6 o7 o8
  have hz' : z = pre ++ (vz e ++ (vz b ++ (vz (L.length : Int) ++ hhz b (hds L)))) ++ rest := hz
  have hfn : 1 ≤ (L.length : Int) ∧ (L.length : Int) ≤ 16 ∧ b + L.length ≤ 4611686018427387904 := of_decide_eq_true o7
  unfold bhd rhd
  have h1 := vb_put (ok := epk) (z := z) (pre := pre) (rest := (vz b ++ (vz (L.length : Int) ++ hhz b (hds L))) ++ rest) (x := e) (by rw [hz']; simp) o3 o4 o1
  rw [Rs.bind_of h1]
  have h2 := vb_put (ok := psk) (z := z) (pre := pre ++ vz e) (rest := (vz (L.length : Int) ++ hhz b (hds L)) ++ rest) (x := b) (by rw [hz']; simp) o5 o6 o2
  rw [List.length_append, vz_length] at h2
  rw [Rs.bind_of h2]
  have h3 := vm_put (z := z) (pre := pre ++ vz e ++ vz b) (rest := hhz b (hds L) ++ rest) (x := (L.length : Int)) (mo := 16) (by rw [hz']; simp) (by omega) (by omega) hfn.2.1
  rw [List.length_append, List.length_append, vz_length, vz_length] at h3
  rw [Rs.bind_of h3, if_pos o7, Int.toNat_natCast]
  have h4 := hgo_put (z := z) (rest := rest) (hds L) b 1048576 (pre ++ vz e ++ vz b ++ vz (L.length : Int)) [] (by rw [hz']; simp) (by rw [hds_length]; omega) o8
  rw [List.length_append, List.length_append, List.length_append, vz_length, vz_length, vz_length, hds_length, List.nil_append] at h4
  rw [h4, Rs.bind_of rfl]
  have hlen : (bthz (e, b, L)).length = vsz e + (vsz b + (vsz (L.length : Int) + (hhz b (hds L)).length)) := by
    show (vz e ++ (vz b ++ (vz (L.length : Int) ++ hhz b (hds L)))).length = _
    rw [List.length_append, List.length_append, List.length_append, vz_length, vz_length, vz_length]
  rw [hlen]
  simp only [Nat.add_assoc]
theorem btb_block {B : Bt} {rest : List Int} (hj : (jn B.2.2).length ≤ 10000) (hjb : ∀ x ∈ jn B.2.2, 0 ≤ x ∧ x < 256) :
    (KL (btb B ++ rest) (bthz B).length).1 = jn B.2.2 ∧ (KL (btb B ++ rest) (bthz B).length).2.1 = ((btb B).length : Int) ∧ (KL (btb B ++ rest) (bthz B).length).2.2.1 = 0 ∧
    (KS (btb B ++ rest) (bthz B).length).1 = jn B.2.2 ∧ (KS (btb B ++ rest) (bthz B).length).2.1 = ((btb B).length : Int) ∧ (KS (btb B ++ rest) (bthz B).length).2.2.1 = 0 := by
  have hz : (btb B ++ rest).drop ((bthz B).length : Int).toNat = bkb (jn B.2.2) ++ rest := by
    rw [Int.toNat_natCast]
    unfold btb
    rw [List.append_assoc, List.drop_left]
  obtain ⟨b1, b2, _⟩ := both_put (rest := rest) (most := 1048576) (z := jn B.2.2) hj hjb (by omega)
  have hl : (((bthz B).length : Nat) : Int) ≤ ((btb B ++ rest).length : Int) := by unfold btb; simp only [List.length_append]; omega
  have k1 := (bk_sh (btb B ++ rest) 1048576 (k := ((bthz B).length : Int)) (p := 0) (by omega) (Int.le_refl _) hl).eq_done (by rw [hz]; exact b1)
  have k2 := (bks_sh (btb B ++ rest) 1048576 (k := ((bthz B).length : Int)) (p := 0) (by omega) (Int.le_refl _) hl).eq_done (by rw [hz]; exact b2)
  rw [Int.zero_add] at k1 k2
  have hlen : ((bkb (jn B.2.2)).length : Int) + ((bthz B).length : Int) = ((btb B).length : Int) := by unfold btb; rw [List.length_append]; omega
  exact ⟨k1.1, by rw [← hlen]; exact k1.2.1, k1.2.2, k2.1, by rw [← hlen]; exact k2.2.1, k2.2.2⟩
theorem brd_of {K : List Int → Int → Rs (List Int)} {z : List Int} {p p4 : Int} {h : Bh} (hb : bhd z p = (h, p4, 0, 0)) (hK : (K z p4).2.2.1 = 0) (hs : hsum h.2.2 = ((K z p4).1.length : Int)) : brd K z p = ((h.1, h.2.1, hdl h.2.2 (K z p4).1), (K z p4).2.1, 0, 0) := by
  rw [brd_bhd, Rs.bind_of hb]
  unfold bfin Rs.bind
  rw [if_neg (by rw [hK]; exact fun e => e rfl)]
  exact if_pos hs
theorem btb_read {B : Bt} {rest : List Int} (hok : BtOk B) (hj : (jn B.2.2).length ≤ 10000) (hjb : ∀ x ∈ jn B.2.2, 0 ≤ x ∧ x < 256) :
    bhd (btb B ++ rest) 0 = ((B.1, B.2.1, hds B.2.2), ((bthz B).length : Int), 0, 0) ∧ brd KL (btb B ++ rest) 0 = (B, ((btb B).length : Int), 0, 0) ∧ brd KS (btb B ++ rest) 0 = (B, ((btb B).length : Int), 0, 0) := by
  have h1 := bhd_put (z := btb B ++ rest) (pre := []) (rest := bkb (jn B.2.2) ++ rest) (B := B) (by unfold btb; simp) hok
  rw [List.length_nil, Nat.zero_add] at h1
  replace h1 : bhd (btb B ++ rest) 0 = ((B.1, B.2.1, hds B.2.2), ((bthz B).length : Int), 0, 0) := h1
  obtain ⟨a1, a2, a3, a4, a5, a6⟩ := btb_block (rest := rest) hj hjb
  have hh : hdl (hds B.2.2) (jn B.2.2) = B.2.2 := by have := hdl_hds B.2.2 []; rw [List.append_nil] at this; exact this
  refine ⟨h1, ?_, ?_⟩
  · rw [brd_of h1 a3 (by rw [a1]; exact hsum_hds _), a1, a2]
    show ((B.1, B.2.1, hdl (hds B.2.2) (jn B.2.2)), _, _, _) = _
    rw [hh]
  · rw [brd_of h1 a6 (by rw [a4]; exact hsum_hds _), a4, a5]
    show ((B.1, B.2.1, hdl (hds B.2.2) (jn B.2.2)), _, _, _) = _
    rw [hh]
end Go.Proofs.YtlealkfkddhnnaaGreat.Cur
