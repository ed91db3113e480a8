/- As the seat's text, without what nothing here names. -/
import Derived.Test.YtlealkfkddhnnaaGreatBtcSx
namespace Go.Proofs.YtlealkfkddhnnaaGreat.Cur
open Go.RowKit Mem
set_option linter.unusedVariables false
set_option maxRecDepth 100000
theorem bks_at (z : List Int) (most p : Int) :
    ((bk z most p).2.2.1 = 0 ∧ piece z p.toNat (bk z most p).2.1.toNat = bkb (bk z most p).1 ∧ bks z most p = ((bk z most p).1, (bk z most p).2.1, 0, 0)) ∨
    ((bk z most p).2.2.1 = 0 ∧ piece z p.toNat (bk z most p).2.1.toNat ≠ bkb (bk z most p).1 ∧ ∃ q, bks z most p = ([], 0, 12, q)) ∨
    ((bk z most p).2.2.1 ≠ 0 ∧ bks z most p = ([], 0, (bk z most p).2.2.1, (bk z most p).2.2.2)) := by
  unfold bks Rs.bind
  by_cases hc : (bk z most p).2.2.1 = 0
  · rw [if_neg (fun h => h hc)]
    by_cases hp : piece z p.toNat (bk z most p).2.1.toNat = bkb (bk z most p).1
    · exact .inl ⟨hc, hp, if_pos hp⟩
    · exact .inr (.inl ⟨hc, hp, _, if_neg hp⟩)
  · rw [if_pos hc]; exact .inr (.inr ⟨hc, rfl⟩)
theorem bdec_ok {K : List Int → Int → Rs (List Int)} {ow : Int → Int → List Int → Bool} {n : Nat} {z : List Int} {B : Bt} {p5 p4 : Int} {h : Bh} (h1 : brd K z 0 = (B, p5, 0, 0)) (h5 : bhd z 0 = (h, p4, 0, 0)) (hr : ¬ p5 < n) : bdec K ow n z = (B, ow p4 p5 (jn B.2.2), 0, 0) := by
  unfold bdec
  rw [h1, h5]
  exact (if_pos rfl).trans (if_neg hr)
theorem bdec_rest {K : List Int → Int → Rs (List Int)} {ow : Int → Int → List Int → Bool} {n : Nat} {z : List Int} {B : Bt} {p5 : Int} (h1 : brd K z 0 = (B, p5, 0, 0)) (hr : p5 < n) : bdec K ow n z = (bt0, false, 9, p5) := by
  unfold bdec
  rw [h1]
  exact (if_pos rfl).trans (if_pos hr)
theorem bdec_bad {K : List Int → Int → Rs (List Int)} {ow : Int → Int → List Int → Bool} {n : Nat} {z : List Int} (h : (brd K z 0).2.2.1 ≠ 0) : bdec K ow n z = (bt0, false, (brd K z 0).2.2.1, (brd K z 0).2.2.2) := if_neg h
theorem dec_front {K : List Int → Int → Rs (List Int)} {z : List Int} (hby : ∀ x ∈ z, 0 ≤ x ∧ x < 256) (h : (brd K z 0).2.2.1 = 0) :
    ∃ (B : Bt) (p4 : Nat) (p5 : Int), brd K z 0 = (B, p5, 0, 0) ∧ BtOk B ∧ p4 ≤ z.length ∧ bthz B = piece z 0 p4 ∧ bhd z 0 = ((B.1, B.2.1, hds B.2.2), (p4 : Int), 0, 0) ∧ (K z p4).1 = jn B.2.2 ∧ (K z p4).2.1 = p5 ∧ (K z p4).2.2.1 = 0 := by
  obtain ⟨B, p4, p5, h1, h2, h3, h4, h5, h6, h7, h8⟩ := brd_once hby (Int.le_refl 0) (by omega) h
  obtain ⟨n4, rfl⟩ : ∃ n4 : Nat, p4 = n4 := ⟨p4.toNat, by omega⟩
  replace h5 : bthz B = piece z 0 n4 := by rw [h5, Int.toNat_natCast]; rfl
  have hp : piece z 0 n4 = z.take n4 := by unfold piece; rw [List.drop_zero, Nat.sub_zero]
  have hl : (bthz B).length = n4 := by rw [h5, hp, List.length_take]; omega
  have hb := bhd_put (z := z) (pre := []) (rest := z.drop n4) (B := B) (by rw [h5, hp, List.nil_append, List.take_append_drop]) h2
  rw [List.length_nil, Nat.zero_add, hl] at hb
  exact ⟨B, n4, p5, h1, h2, by omega, h5, hb, h6, h7, h8⟩
theorem hhok_lbd : ∀ {L : List En} {b mx : Int}, hhok b mx (hds L) → ∀ x ∈ L, lbd x.1
  | [], _, _, _, x, hx => by simp at hx
  | y :: L, b, mx, h, x, hx => by
    obtain ⟨_, h2, _, _, _, h6⟩ := h
    rcases List.mem_cons.1 hx with rfl | hx
    · exact h2
    · exact hhok_lbd h6 x hx
theorem BtOk.btk {B : Bt} (h : BtOk B) : btk B = true := by
  have h' := h
  obtain ⟨o1, o2, o3, o4, o5, o6, o7, o8⟩ := h'
  exact (btk_iff (hhok_lbd o8) o3 o4 o5 o6).2 h
theorem hdl_jn (L : List En) : hdl (hds L) (jn L) = L := by have := hdl_hds L []; rw [List.append_nil] at this; exact this
theorem brd_all {K : List Int → Int → Rs (List Int)} {z : List Int} {p p4 : Int} {B : Bt} (hb : bhd z p = ((B.1, B.2.1, hds B.2.2), p4, 0, 0)) (hK : (K z p4).2.2.1 = 0) (hv : (K z p4).1 = jn B.2.2) : brd K z p = (B, (K z p4).2.1, 0, 0) := by
  rw [brd_of hb hK (by rw [hv]; exact hsum_hds _), hv]
  show ((B.1, B.2.1, hdl (hds B.2.2) (jn B.2.2)), _, _, _) = _
  rw [hdl_jn]
theorem dec_cases {z : List Int} (hby : ∀ x ∈ z, 0 ≤ x ∧ x < 256) :
    (∃ B, BtOk B ∧ z = btb B ∧ bdec KS owS z.length z = (B, true, 0, 0) ∧ bdec KL (owL z) z.length z = (B, true, 0, 0)) ∨
    (∃ B q, BtOk B ∧ bdec KS owS z.length z = (bt0, false, 12, q) ∧ bdec KL (owL z) z.length z = (B, false, 0, 0)) ∨
    (∃ c q c' q', bdec KS owS z.length z = (bt0, false, c, q) ∧ bdec KL (owL z) z.length z = (bt0, false, c', q') ∧ c ≠ 0 ∧ c' ≠ 0 ∧ ((c = c' ∧ q = q') ∨ c = 12)) := by
  by_cases hS : (brd KS z 0).2.2.1 = 0
  · obtain ⟨B, p4, p5, h1, h2, h4, h5, hb, h6, h7, h8⟩ := dec_front hby hS
    replace h6 : (bks z 1048576 p4).1 = jn B.2.2 := h6
    replace h7 : (bks z 1048576 p4).2.1 = p5 := h7
    replace h8 : (bks z 1048576 p4).2.2.1 = 0 := h8
    rcases bks_at z 1048576 (p4 : Int) with ⟨a1, a2, a3⟩ | ⟨a1, a2, q, a3⟩ | ⟨a1, a3⟩
    · rw [a3] at h6 h7
      replace h6 : (bk z 1048576 p4).1 = jn B.2.2 := h6
      replace h7 : (bk z 1048576 p4).2.1 = p5 := h7
      have hL : brd KL z 0 = (B, p5, 0, 0) := (brd_all (K := KL) hb a1 h6).trans (by rw [show (KL z (p4 : Int)).2.1 = p5 from h7])
      obtain ⟨b1, b2⟩ := bk_place_at hby (most := 1048576) (s0 := (p4 : Int)) (by omega) (by omega) a1
      rw [h7] at b1 b2 a2
      rw [h6] at a2
      by_cases hr : p5 < z.length
      · exact .inr (.inr ⟨9, p5, 9, p5, bdec_rest h1 hr, bdec_rest hL hr, by decide, by decide, .inl ⟨rfl, rfl⟩⟩)
      · have hz : z = btb B := by
          unfold btb
          rw [h5, ← a2, Int.toNat_natCast, piece_append (by omega) (by omega) (by omega), show p5.toNat = z.length by omega]
          unfold piece
          rw [List.drop_zero, Nat.sub_zero, List.take_length]
        have ho : owL z (p4 : Int) p5 (jn B.2.2) = true := decide_eq_true a2
        exact .inl ⟨B, h2, hz, bdec_ok h1 hb hr, (bdec_ok hL hb hr).trans (by rw [ho])⟩
    · rw [a3] at h8; exact absurd h8 (by show ¬ (12 : Int) = 0; decide)
    · rw [a3] at h8; exact absurd h8 a1
  · by_cases hL : (brd KL z 0).2.2.1 = 0
    · obtain ⟨B, p4, p5, h1, h2, h4, h5, hb, h6, h7, h8⟩ := dec_front hby hL
      replace h6 : (bk z 1048576 p4).1 = jn B.2.2 := h6
      replace h7 : (bk z 1048576 p4).2.1 = p5 := h7
      replace h8 : (bk z 1048576 p4).2.2.1 = 0 := h8
      rcases bks_at z 1048576 (p4 : Int) with ⟨a1, a2, a3⟩ | ⟨a1, a2, q, a3⟩ | ⟨a1, a3⟩
      · refine absurd ?_ hS
        have : (KS z (p4 : Int)) = ((bk z 1048576 p4).1, (bk z 1048576 p4).2.1, 0, 0) := a3
        rw [brd_all (K := KS) hb (by rw [this]) (by rw [this]; exact h6)]
      · have hc : brd KS z 0 = (bt0, 0, 12, q) := by
          rw [brd_bhd, Rs.bind_of hb]
          unfold bfin
          rw [show KS z (p4 : Int) = ([], 0, 12, q) from a3]
          unfold Rs.bind
          exact if_pos (by show (12 : Int) ≠ 0; decide)
        have hd : bdec KS owS z.length z = (bt0, false, 12, q) := by rw [bdec_bad hS, hc]
        rw [h7, h6] at a2
        by_cases hr : p5 < z.length
        · exact .inr (.inr ⟨12, q, 9, p5, hd, bdec_rest h1 hr, by decide, by decide, .inr rfl⟩)
        · have ho : owL z (p4 : Int) p5 (jn B.2.2) = false := decide_eq_false a2
          exact .inr (.inl ⟨B, q, h2, hd, (bdec_ok h1 hb hr).trans (by rw [ho])⟩)
      · exact absurd h8 a1
    · refine .inr (.inr ⟨_, _, _, _, bdec_bad hS, bdec_bad hL, hS, hL, ?_⟩)
      by_cases hb : (bhd z 0).2.2.1 = 0
      · have hk : ∀ K, brd K z 0 = bfin K z (bhd z 0).1 (bhd z 0).2.1 := fun K => by
          rw [brd_bhd]
          unfold Rs.bind
          exact if_neg (fun h => h hb)
        rw [hk KS, hk KL]
        unfold bfin KS KL
        rcases bks_at z 1048576 (bhd z 0).2.1 with ⟨a1, a2, a3⟩ | ⟨a1, a2, q, a3⟩ | ⟨a1, a3⟩
        · rw [a3]
          unfold Rs.bind
          rw [if_neg (fun h => h rfl), if_neg (fun h => h a1)]
          exact .inl ⟨rfl, rfl⟩
        · rw [a3]
          refine .inr ?_
          unfold Rs.bind
          rw [if_pos (by show (12 : Int) ≠ 0; decide)]
        · rw [a3]
          unfold Rs.bind
          rw [if_pos a1, if_pos a1]
          exact .inl ⟨rfl, rfl⟩
      · have hk : ∀ K, brd K z 0 = (bt0, 0, (bhd z 0).2.2.1, (bhd z 0).2.2.2) := fun K => by
          rw [brd_bhd]
          unfold Rs.bind
          exact if_pos hb
        rw [hk KS, hk KL]
        exact .inl ⟨rfl, rfl⟩
def GrPost (z : List Int) (w : World) (e : Ending) (w' : World) : Prop := ∃ b, e = .returned (.bool b) ∧ Below w.heap.size w w' ∧ (b = false → NoGr z)
set_option maxHeartbeats 1000000 in
theorem great_any (A : Option Addr) (n m : Nat) (z : List Int) (w : World) (hz : Bs w A n z) (hby : ∀ x ∈ z, 0 ≤ x ∧ x < 256) (hn : n ≤ 1000000) : Calls Tryz.prog 21 #[.slice A n m] w (GrPost z w) := by
  have HBY := Lib.hid (fun k => (⟨by_at hby k, by_at hby (k + 1)⟩ : _ ∧ _))
  have HZL := Lib.hid hz.1
  clear hby
  obtain ⟨wo, hwo⟩ : ∃ wo, w = wo := ⟨_, rfl⟩
  have hb0 := Below.refl w.heap.size w
  rw [hwo] at hb0 ⊢
  go_enter Tryz.func21, Tryz.ntmps21
  go_wp2
  go_loopw [3] (fun i wr => ∃ k : Nat, k ≤ n ∧ i = .int .i64 k ∧ Hid (∀ j, j < k → ¬ (128 ≤ z.getD j 0 ∧ 3 ≤ z.getD (j + 1) 0)) ∧ Below wo.heap.size wo wr) (fun i _ => n - (intOf i).toNat)
  case atStart => exact ⟨0, by omega, rfl, Lib.hid (fun j hj => absurd hj (by omega)), Below.refl _ _⟩
  case round =>
    obtain ⟨k, hk, rfl, hG, hb⟩ := hrel
    have e3 : IntKind.i64.wrap ((k : Int) + 1) = ((k + 1 : Nat) : Int) := IntWalk.i64_in _ (by omega)
    by_cases hlt : k + 1 < n
    · obtain ⟨g, o, rfl, c0⟩ := (hz.below (hwo ▸ hb)).at_ (show k < n by omega)
      obtain ⟨g', o', hA, c1⟩ := (hz.below (hwo ▸ hb)).at_ (show k + 1 < n by omega)
      injection hA with hA
      injection hA with hA1 hA2
      subst hA1 hA2
      obtain ⟨⟨u0, u1⟩, ⟨v0, v1⟩⟩ := HBY.out k
      have ek : ((k + 1 : Nat) : Int) < n := by omega
      obtain ⟨x, hx⟩ : ∃ x, z.getD k 0 = x := ⟨_, rfl⟩
      obtain ⟨y, hy⟩ : ∃ y, z.getD (k + 1) 0 = y := ⟨_, rfl⟩
      rw [hx] at c0 u0 u1
      rw [hy] at c1 v0 v1
      have HXY := Lib.hid (And.intro hx hy)
      clear hx hy
      by_cases hx1 : 128 ≤ x
      · by_cases hy1 : 3 ≤ y
        · go_wp2
          go_ret
          exact ⟨true, rfl, hb, fun h => by cases h⟩
        · have hy2 : y < 3 := by omega
          go_wp2
          go_roundw
          case rel => exact ⟨k + 1, by omega, by go_num, Lib.hid (fun j hj hh => by
            by_cases hjk : j = k
            · subst hjk; rw [HXY.out.1, HXY.out.2] at hh; exact hy1 hh.2
            · exact hG.out j (by omega) hh), hb⟩
          case measure => simp [intOf]; omega
      · have hx2 : x < 128 := by omega
        go_wp2
        go_roundw
        case rel => exact ⟨k + 1, by omega, by go_num, Lib.hid (fun j hj hh => by
          by_cases hjk : j = k
          · subst hjk; rw [HXY.out.1, HXY.out.2] at hh; exact hx1 hh.1
          · exact hG.out j (by omega) hh), hb⟩
        case measure => simp [intOf]; omega
    · have ek : ¬ ((k + 1 : Nat) : Int) < n := by omega
      go_wp2
      go_ret
      exact ⟨false, rfl, hb, fun _ i hi => hG.out i (by have := HZL.out; omega)⟩
end Go.Proofs.YtlealkfkddhnnaaGreat.Cur
