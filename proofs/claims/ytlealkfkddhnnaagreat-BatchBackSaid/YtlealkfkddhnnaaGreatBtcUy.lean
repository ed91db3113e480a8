/- As the seat's text, without what nothing here names. -/
import Derived.Test.YtlealkfkddhnnaaGreatBtcSy
namespace Go.Proofs.YtlealkfkddhnnaaGreat.Cur
open Go.RowKit Mem
set_option linter.unusedVariables false
set_option maxRecDepth 100000
theorem bks_at (z : List Int) (most p : Int) :
    ((bk z most p).2.2.1 = 0 ∧ piece z p.toNat (bk z most p).2.1.toNat = bkb (bk z most p).1 ∧ bks z most p = ((bk z most p).1, (bk z most p).2.1, 0, 0)) ∨
    ((bk z most p).2.2.1 = 0 ∧ piece z p.toNat (bk z most p).2.1.toNat ≠ bkb (bk z most p).1 ∧ ∃ q, bks z most p = ([], 0, 12, q)) ∨
    ((bk z most p).2.2.1 ≠ 0 ∧ bks z most p = ([], 0, (bk z most p).2.2.1, (bk z most p).2.2.2)) := by
  unfold bks Rs.bind
  by_cases hc : (bk z most p).2.2.1 = 0
  · rw [if_neg (fun h => h hc)]
    by_cases hp : piece z p.toNat (bk z most p).2.1.toNat = bkb (bk z most p).1
    · exact .inl ⟨hc, hp, if_pos hp⟩
    · exact .inr (.inl ⟨hc, hp, _, if_neg hp⟩)
  · rw [if_pos hc]; exact .inr (.inr ⟨hc, rfl⟩)
theorem bdec_ok {K : List Int → Int → Rs (List Int)} {ow : Int → Int → List Int → Bool} {n : Nat} {z : List Int} {B : Bt} {p5 p4 : Int} {h : Bh} (h1 : brd K z 0 = (B, p5, 0, 0)) (h5 : bhd z 0 = (h, p4, 0, 0)) (hr : ¬ p5 < n) : bdec K ow n z = (B, ow p4 p5 (jn B.2.2), 0, 0) := by
  unfold bdec
  rw [h1, h5]
  exact (if_pos rfl).trans (if_neg hr)
theorem bdec_rest {K : List Int → Int → Rs (List Int)} {ow : Int → Int → List Int → Bool} {n : Nat} {z : List Int} {B : Bt} {p5 : Int} (h1 : brd K z 0 = (B, p5, 0, 0)) (hr : p5 < n) : bdec K ow n z = (bt0, false, 9, p5) := by
  unfold bdec
  rw [h1]
  exact (if_pos rfl).trans (if_pos hr)
theorem bdec_bad {K : List Int → Int → Rs (List Int)} {ow : Int → Int → List Int → Bool} {n : Nat} {z : List Int} (h : (brd K z 0).2.2.1 ≠ 0) : bdec K ow n z = (bt0, false, (brd K z 0).2.2.1, (brd K z 0).2.2.2) := if_neg h
theorem btb_piece (B : Bt) : piece (btb B) (bthz B).length (btb B).length = bkb (jn B.2.2) := by
  unfold piece btb
  rw [List.drop_left, List.take_of_length_le (by rw [List.length_append]; omega)]
theorem dec_put {B : Bt} (hok : BtOk B) (hj : (jn B.2.2).length ≤ 10000) (hjb : ∀ x ∈ jn B.2.2, 0 ≤ x ∧ x < 256) : bdec KS owS (btb B).length (btb B) = (B, true, 0, 0) ∧ bdec KL (owL (btb B)) (btb B).length (btb B) = (B, true, 0, 0) := by
  obtain ⟨h1, h2, h3⟩ := btb_read (rest := []) hok hj hjb
  rw [List.append_nil] at h1 h2 h3
  refine ⟨bdec_ok h3 h1 (by omega), (bdec_ok h2 h1 (by omega)).trans ?_⟩
  have : owL (btb B) ((bthz B).length : Int) ((btb B).length : Int) (jn B.2.2) = true := decide_eq_true (by rw [Int.toNat_natCast, Int.toNat_natCast]; exact btb_piece B)
  rw [this]
theorem dec_rest {B : Bt} {rest : List Int} (hok : BtOk B) (hj : (jn B.2.2).length ≤ 10000) (hjb : ∀ x ∈ jn B.2.2, 0 ≤ x ∧ x < 256) (hm : 0 < rest.length) : bdec KS owS (btb B ++ rest).length (btb B ++ rest) = (bt0, false, 9, ((btb B).length : Int)) := by
  obtain ⟨h1, h2, h3⟩ := btb_read (rest := rest) hok hj hjb
  exact bdec_rest h3 (by rw [List.length_append]; omega)
theorem dec_cut {B : Bt} (hok : BtOk B) (hj : (jn B.2.2).length ≤ 10000) (hjb : ∀ x ∈ jn B.2.2, 0 ≤ x ∧ x < 256) {c : Nat} (hc : c < (btb B).length) : bdec KS owS c ((btb B).take c) = (bt0, false, 1, (c : Int)) := by
  obtain ⟨h1, h2, h3⟩ := btb_read (rest := []) hok hj hjb
  rw [List.append_nil] at h1 h2 h3
  have hcu := brd_cut (btb B) (c := c) (by omega) (p := 0) (Int.le_refl _) (by omega)
  rw [h3] at hcu
  obtain ⟨_, _, k⟩ := hcu rfl
  rcases k (by omega) with ⟨k1, _⟩ | ⟨_, k2, k3⟩
  · exact absurd k1 (by show ¬ ((btb B).length : Int) ≤ c; omega)
  · rw [bdec_bad (by rw [k2]; decide), k2, k3]
theorem btb_vm {B : Bt} {rest : List Int} (hj : (jn B.2.2).length ≤ 10000) : ∃ p', vm (btb B ++ rest) 1048576 (bthz B).length = (((jn B.2.2).length : Int), p', 0, 0) :=
  ⟨_, vm_put (z := btb B ++ rest) (pre := bthz B) (rest := (if pk (jn B.2.2) then 1 :: (vz (cps (jn B.2.2)).length ++ cps (jn B.2.2)) else 0 :: jn B.2.2) ++ rest) (x := ((jn B.2.2).length : Int)) (mo := 1048576) (by unfold btb bkb; simp only [List.append_assoc]) (by omega) (by omega) (by omega)⟩
theorem put_few {B : Bt} {rest : List Int} (hok : BtOk B) (hj : (jn B.2.2).length ≤ 300) (hjb : ∀ x ∈ jn B.2.2, 0 ≤ x ∧ x < 256) : Few (btb B ++ rest) 1048576 (bhd (btb B ++ rest) 0).2.1 ∧ (KS (btb B ++ rest) (bhd (btb B ++ rest) 0).2.1).1.length ≤ 500 ∧ (KL (btb B ++ rest) (bhd (btb B ++ rest) 0).2.1).1.length ≤ 500 := by
  obtain ⟨h1, _, _⟩ := btb_read (rest := rest) hok (by omega) hjb
  obtain ⟨a1, _, _, a4, _, _⟩ := btb_block (B := B) (rest := rest) (by omega) hjb
  obtain ⟨p', hv⟩ := btb_vm (B := B) (rest := rest) (by omega)
  rw [h1]
  refine ⟨?_, ?_, ?_⟩
  · show (vm (btb B ++ rest) 1048576 (bthz B).length).1 ≤ 10000
    rw [hv]
    show ((jn B.2.2).length : Int) ≤ 10000
    omega
  · show (KS (btb B ++ rest) (bthz B).length).1.length ≤ 500
    rw [a4]; omega
  · show (KL (btb B ++ rest) (bthz B).length).1.length ≤ 500
    rw [a1]; omega
theorem vm_fail {z : List Int} {mo p : Int} (h : (vm z mo p).2.2.1 ≠ 0) : (vm z mo p).1 = 0 := by
  unfold vm at h ⊢
  by_cases h1 : (vg z p).2.2.1 ≠ 0
  · rw [if_pos h1]
  · rw [if_neg h1] at h ⊢
    by_cases h2 : mo < (vg z p).1
    · rw [if_pos h2]
    · rw [if_neg h2] at h; exact absurd h h1
theorem bks_fail {z : List Int} {mo p : Int} (h : (bks z mo p).2.2.1 ≠ 0) : (bks z mo p).1 = [] := by
  rcases bks_at z mo p with ⟨a1, a2, a3⟩ | ⟨a1, a2, q, a3⟩ | ⟨a1, a3⟩
  · rw [a3] at h; exact absurd rfl h
  · rw [a3]
  · rw [a3]
theorem cut_few {B : Bt} (hok : BtOk B) (hj : (jn B.2.2).length ≤ 300) (hjb : ∀ x ∈ jn B.2.2, 0 ≤ x ∧ x < 256) {c : Nat} (hc : c < (btb B).length) (hh : (bhd ((btb B).take c) 0).2.2.1 = 0) : Few ((btb B).take c) 1048576 (bhd ((btb B).take c) 0).2.1 ∧ (KS ((btb B).take c) (bhd ((btb B).take c) 0).2.1).1.length ≤ 500 := by
  obtain ⟨h1, _, _⟩ := btb_read (rest := []) hok (by omega) hjb
  obtain ⟨_, _, _, a4, _, a6⟩ := btb_block (B := B) (rest := []) (by omega) hjb
  obtain ⟨p', hv⟩ := btb_vm (B := B) (rest := []) (by omega)
  rw [List.append_nil] at h1 a4 a6 hv
  have hcu := bhd_cut (btb B) (c := c) (by omega) (p := 0) (Int.le_refl _) (by omega)
  rw [h1] at hcu
  obtain ⟨_, i1, k⟩ := hcu rfl
  replace i1 : ((bthz B).length : Int) ≤ (btb B).length := i1
  rcases k (by omega) with ⟨k1, _, k3, _⟩ | ⟨_, k2, _⟩
  · replace k3 : (bhd ((btb B).take c) 0).2.1 = ((bthz B).length : Int) := k3
    replace k1 : ((bthz B).length : Int) ≤ c := k1
    rw [k3]
    constructor
    · have hvc := vm_cut (btb B) 1048576 (c := c) (by omega) (p := ((bthz B).length : Int)) (by omega) i1
      rw [hv] at hvc
      obtain ⟨_, _, k'⟩ := hvc rfl
      show (vm ((btb B).take c) 1048576 (bthz B).length).1 ≤ 10000
      rcases k' k1 with ⟨_, m2, _, _⟩ | ⟨_, m2, _⟩
      · rw [m2]
        show ((jn B.2.2).length : Int) ≤ 10000
        omega
      · rw [vm_fail (by rw [m2]; decide)]; decide
    · have hkc := bks_cut (btb B) 1048576 (c := c) (by omega) (p := ((bthz B).length : Int)) (by omega) i1
      replace a4 : (bks (btb B) 1048576 (bthz B).length).1 = jn B.2.2 := a4
      obtain ⟨_, _, k'⟩ := hkc a6
      show (bks ((btb B).take c) 1048576 (bthz B).length).1.length ≤ 500
      rcases k' k1 with ⟨_, m2, _, _⟩ | ⟨_, m2, _⟩
      · rw [m2, a4]; omega
      · rw [bks_fail (by rw [m2]; decide)]; simp
  · rw [k2] at hh; exact absurd hh (by decide)
end Go.Proofs.YtlealkfkddhnnaaGreat.Cur
