/- As the seat's text, without what nothing here names. -/
import Derived.Test.YtlealkfkddhnnaaGreatBtcIx
import Derived.Test.YtlealkfkddhnnaaGreatBtcKx
import Derived.Test.YtlealkfkddhnnaaGreatBtcTx
import Derived.Test.YtlealkfkddhnnaaGreatShfBx
import Derived.Test.YtlealkfkddhnnaaGreatK18x
namespace Go.Proofs.YtlealkfkddhnnaaGreat.Cur
open Go.RowKit Mem
set_option linter.unusedVariables false
set_option maxRecDepth 100000
def NoGr (z : List Int) : Prop := ∀ i, i + 1 < z.length → ¬ (128 ≤ z.getD i 0 ∧ 3 ≤ z.getD (i + 1) 0)
theorem NoGr.drop {z : List Int} (h : NoGr z) (k : Nat) : NoGr (z.drop k) := fun i hi hg => by
  rw [List.length_drop] at hi
  refine h (k + i) (by omega) ?_
  rw [List.getD_eq_getElem?_getD, List.getD_eq_getElem?_getD, List.getElem?_drop, List.getElem?_drop] at hg
  rw [List.getD_eq_getElem?_getD, List.getD_eq_getElem?_getD]
  exact hg
theorem nogr_vgo {l : List Int} (h : NoGr l) (hby : ∀ x ∈ l, 0 ≤ x ∧ x < 256) : (vgo l 0 0).1 ≤ 383 := by
  rcases l with _ | ⟨b, l⟩
  · rw [vgo_nil]; show (0 : Int) ≤ 383; decide
  · have hb := hby b (by simp)
    by_cases h1 : b < 128
    · rw [vgo_done (by omega) (by omega) h1]
      show (0 : Int) + b * 128 ^ 0 ≤ 383
      omega
    · rw [vgo_more (by omega) (by omega)]
      rcases l with _ | ⟨c, l⟩
      · rw [vgo_nil]; show (0 : Int) ≤ 383; decide
      · have hc := hby c (by simp)
        have hn := h 0 (by simp)
        have hc3 : c < 3 := by
          refine Int.not_le.1 fun h3 => hn ⟨?_, ?_⟩
          · show 128 ≤ b; omega
          · show 3 ≤ c; exact h3
        by_cases h0 : c = 0
        · rw [vgo_zero (by omega) h0]; show (0 : Int) ≤ 383; decide
        · rw [vgo_done (by omega) (by omega) (by omega)]
          show (0 : Int) + b % 128 * 128 ^ 0 + c * 128 ^ (0 + 1) ≤ 383
          omega
theorem nogr_vm {z : List Int} (h : NoGr z) (hby : ∀ x ∈ z, 0 ≤ x ∧ x < 256) (mo p : Int) : (vm z mo p).1 ≤ 383 := by
  have h1 : (vg z p).1 ≤ 383 := nogr_vgo (h.drop p.toNat) fun x hx => hby x (List.mem_of_mem_drop hx)
  unfold vm
  split
  · show (0 : Int) ≤ 383; decide
  · split
    · show (0 : Int) ≤ 383; decide
    · exact h1
theorem nogr_few {z : List Int} (h : NoGr z) (hby : ∀ x ∈ z, 0 ≤ x ∧ x < 256) (mo p : Int) : Few z mo p := by
  have := nogr_vm h hby mo p
  unfold Few
  omega
theorem bk_len {z : List Int} (hby : ∀ x ∈ z, 0 ≤ x ∧ x < 256) {most p : Int} {M : Int} (hm : 0 ≤ M) (h : (vm z (min most 1048576) p).1 ≤ M) : ((bk z most p).1.length : Int) ≤ M := by
  have hv : 0 ≤ (vm z (min most 1048576) p).1 := by
    unfold vm
    split
    · exact Int.le_refl _
    · split
      · exact Int.le_refl _
      · exact vg_bd z p hby
  unfold bk
  refine Rs.bind_val (P := fun l : List Int => (l.length : Int) ≤ M) hm fun _ => ?_
  refine Rs.bind_val (P := fun l : List Int => (l.length : Int) ≤ M) hm fun _ => ?_
  split
  · exact hm
  · unfold bc
    split
    · exact Int.le_trans (tk_lenx hv) h
    · refine Rs.bind_val (P := fun l : List Int => (l.length : Int) ≤ M) hm fun _ => ?_
      split
      · exact hm
      · split
        · exact hm
        · have hb := bl_byte hby 1048576 ((tk z 1 (vm z (min most 1048576) p).2.1).2.1)
          have := (exv_fine (z := (bl z 1048576 (tk z 1 (vm z (min most 1048576) p).2.1).2.1).1) (bound := (vm z (min most 1048576) p).1) hb.1).1
          show ((exv _ _).1.length : Int) ≤ M
          omega
theorem bks_len {z : List Int} (hby : ∀ x ∈ z, 0 ≤ x ∧ x < 256) {most p : Int} {M : Int} (hm : 0 ≤ M) (h : (vm z (min most 1048576) p).1 ≤ M) : ((bks z most p).1.length : Int) ≤ M := by
  unfold bks
  refine Rs.bind_val (P := fun l : List Int => (l.length : Int) ≤ M) hm fun _ => ?_
  split
  · exact bk_len hby hm h
  · exact hm
theorem nogr_KL {z : List Int} (h : NoGr z) (hby : ∀ x ∈ z, 0 ≤ x ∧ x < 256) (p : Int) : (KL z p).1.length ≤ 500 := by
  have : ((KL z p).1.length : Int) ≤ 383 := bk_len hby (by omega) (nogr_vm h hby _ p)
  omega
theorem nogr_KS {z : List Int} (h : NoGr z) (hby : ∀ x ∈ z, 0 ≤ x ∧ x < 256) (p : Int) : (KS z p).1.length ≤ 500 := by
  have : ((KS z p).1.length : Int) ≤ 383 := bks_len hby (by omega) (nogr_vm h hby _ p)
  omega
theorem bhd_put {z pre rest : List Int} {B : Bt} (hz : z = pre ++ bthz B ++ rest) (hok : BtOk B) : bhd z pre.length = ((B.1, B.2.1, hds B.2.2), ((pre.length + (bthz B).length : Nat) : Int), 0, 0) := by
  obtain ⟨e, b, L⟩ := B
  obtain ⟨o1, o2, o3, o4, o5, o6, o7, o8⟩ := hok
  dsimp only at o1 o2 o3 o4 o5 o6 o7 o8
  have hz' : z = pre ++ (vz e ++ (vz b ++ (vz (L.length : Int) ++ hhz b (hds L)))) ++ rest := hz
  have hfn : 1 ≤ (L.length : Int) ∧ (L.length : Int) ≤ 16 ∧ b + L.length ≤ 4611686018427387904 := of_decide_eq_true o7
  unfold bhd rhd
  have h1 := vb_put (ok := epk) (z := z) (pre := pre) (rest := (vz b ++ (vz (L.length : Int) ++ hhz b (hds L))) ++ rest) (x := e) (by rw [hz']; simp) o3 o4 o1
  rw [Rs.bind_of h1]
  have h2 := vb_put (ok := psk) (z := z) (pre := pre ++ vz e) (rest := (vz (L.length : Int) ++ hhz b (hds L)) ++ rest) (x := b) (by rw [hz']; simp) o5 o6 o2
  rw [List.length_append, vz_length] at h2
  rw [Rs.bind_of h2]
  have h3 := vm_put (z := z) (pre := pre ++ vz e ++ vz b) (rest := hhz b (hds L) ++ rest) (x := (L.length : Int)) (mo := 16) (by rw [hz']; simp) (by omega) (by omega) hfn.2.1
  rw [List.length_append, List.length_append, vz_length, vz_length] at h3
  rw [Rs.bind_of h3, if_pos o7, Int.toNat_natCast]
  have h4 := hgo_put (z := z) (rest := rest) (hds L) b 1048576 (pre ++ vz e ++ vz b ++ vz (L.length : Int)) [] (by rw [hz']; simp) (by rw [hds_length]; omega) o8
  rw [List.length_append, List.length_append, List.length_append, vz_length, vz_length, vz_length, hds_length, List.nil_append] at h4
  rw [h4, Rs.bind_of rfl]
  have hlen : (bthz (e, b, L)).length = vsz e + (vsz b + (vsz (L.length : Int) + (hhz b (hds L)).length)) := by
    show (vz e ++ (vz b ++ (vz (L.length : Int) ++ hhz b (hds L)))).length = _
    rw [List.length_append, List.length_append, List.length_append, vz_length, vz_length, vz_length]
  rw [hlen]
  simp only [Nat.add_assoc]
theorem brd_of {K : List Int → Int → Rs (List Int)} {z : List Int} {p p4 : Int} {h : Bh} (hb : bhd z p = (h, p4, 0, 0)) (hK : (K z p4).2.2.1 = 0) (hs : hsum h.2.2 = ((K z p4).1.length : Int)) : brd K z p = ((h.1, h.2.1, hdl h.2.2 (K z p4).1), (K z p4).2.1, 0, 0) := by
  rw [brd_bhd, Rs.bind_of hb]
  unfold bfin Rs.bind
  rw [if_neg (by rw [hK]; exact fun e => e rfl)]
  exact if_pos hs
end Go.Proofs.YtlealkfkddhnnaaGreat.Cur
