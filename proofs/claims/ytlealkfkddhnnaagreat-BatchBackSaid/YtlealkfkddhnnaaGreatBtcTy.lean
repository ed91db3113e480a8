/- As the seat's text, without what nothing here names. -/
import Derived.Test.YtlealkfkddhnnaaGreatBtcGy
namespace Go.Proofs.YtlealkfkddhnnaaGreat.Cur
open Go.RowKit Mem
set_option linter.unusedVariables false
def Cu {α : Type} (n c : Nat) (p : Int) (g h : Rs α) : Prop := g.2.2.1 = 0 → p ≤ g.2.1 ∧ g.2.1 ≤ n ∧ (p ≤ c → (g.2.1 ≤ c ∧ h.1 = g.1 ∧ h.2.1 = g.2.1 ∧ h.2.2.1 = 0) ∨ ((c : Int) < g.2.1 ∧ h.2.2.1 = 1 ∧ h.2.2.2 = c))
theorem Cu.done {α : Type} {n c : Nat} {p : Int} (v : α) (q q' : Int) (hn : p ≤ n) : Cu n c p ((v, p, 0, q) : Rs α) (v, p, 0, q') := fun _ => ⟨Int.le_refl _, hn, fun hc => .inl ⟨hc, rfl, rfl, rfl⟩⟩
theorem Cu.fail {α : Type} {n c : Nat} {p : Int} {g h : Rs α} (hg : g.2.2.1 ≠ 0) : Cu n c p g h := fun e => absurd e hg
theorem Cu.bind {α β : Type} {n c : Nat} {p : Int} {g h : Rs α} {d : β} {f f' : α → Int → Rs β} (h0 : 0 ≤ p) (hg : Cu n c p g h) (hf : ∀ (v : α) (p1 : Int), 0 ≤ p1 → p1 ≤ n → Cu n c p1 (f v p1) (f' v p1)) : Cu n c p (g.bind d f) (h.bind d f') := by
  intro hc
  obtain ⟨g0, e⟩ := Rs.bind_ok hc
  rw [e] at hc ⊢
  obtain ⟨a1, a2, a3⟩ := hg g0
  obtain ⟨b1, b2, b3⟩ := hf g.1 g.2.1 (by omega) a2 hc
  refine ⟨by omega, b2, fun hpc => ?_⟩
  rcases a3 hpc with ⟨q1, q2, q3, q4⟩ | ⟨q1, q2, q3⟩
  · have e2 : h.bind d f' = f' g.1 g.2.1 := by unfold Rs.bind; rw [if_neg (by rw [q4]; exact fun x => x rfl), q2, q3]
    rw [e2]
    exact b3 q1
  · refine .inr ⟨by omega, ?_, ?_⟩
    · unfold Rs.bind; rw [if_pos (by rw [q2]; decide)]; exact q2
    · unfold Rs.bind; rw [if_pos (by rw [q2]; decide)]; exact q3
theorem vgo_take : ∀ (l : List Int) (i : Nat) (X : Int) (m : Nat), m ≤ l.length → (vgo l i X).2.2.1 = 0 →
    ((vgo l i X).2.1 ≤ ((i + m : Nat) : Int) ∧ vgo (l.take m) i X = vgo l i X) ∨ (((i + m : Nat) : Int) < (vgo l i X).2.1 ∧ vgo (l.take m) i X = (0, 0, 1, ((i + m : Nat) : Int)))
  | [], i, X, m, _, h => by
    rw [vgo_nil] at h
    exact absurd h (by show ¬ (1 : Int) = 0; decide)
  | b :: l, i, X, 0, _, h => by
    right
    have hp := vgo_pos (b :: l) i X h
    refine ⟨by omega, ?_⟩
    rw [List.take_zero, vgo_nil]
    rfl
  | b :: l, i, X, m + 1, hm, h => by
    rw [List.take_succ_cons]
    by_cases h9 : i = 9 ∧ 1 < b
    · rw [vgo_over h9.1 h9.2] at h; exact absurd h (by show ¬ (5 : Int) = 0; decide)
    · by_cases hz : 0 < i ∧ b = 0
      · rw [vgo_zero hz.1 hz.2] at h; exact absurd h (by show ¬ (4 : Int) = 0; decide)
      · by_cases hb : b < 128
        · left
          rw [vgo_done h9 hz hb, vgo_done h9 hz hb]
          exact ⟨by show (i : Int) + 1 ≤ _; omega, rfl⟩
        · rw [vgo_more h9 (by omega)] at h ⊢
          rw [vgo_more h9 (by omega)]
          have ih := vgo_take l (i + 1) (X + b % 128 * 128 ^ i) m (by simpa using hm) h
          rw [show i + (m + 1) = i + 1 + m by omega]
          exact ih
theorem vg_cut (z : List Int) {c : Nat} (hc : c ≤ z.length) {p : Int} (h0 : 0 ≤ p) (h1 : p ≤ z.length) : Cu z.length c p (vg z p) (vg (z.take c) p) := by
  intro h
  have h' : (vgo (z.drop p.toNat) 0 0).2.2.1 = 0 := h
  have hpl := vgo_place (z.drop p.toNat) 0 0
  have hps := vgo_pos (z.drop p.toNat) 0 0 h'
  have hl : (z.drop p.toNat).length = z.length - p.toNat := List.length_drop ..
  refine ⟨by show p ≤ p + _; omega, by show p + (vgo (z.drop p.toNat) 0 0).2.1 ≤ _; omega, fun hpc => ?_⟩
  have hd : (z.take c).drop p.toNat = (z.drop p.toNat).take (c - p.toNat) := by rw [List.drop_take]
  unfold vg
  rw [hd]
  rcases vgo_take (z.drop p.toNat) 0 0 (c - p.toNat) (by omega) h' with ⟨q1, q2⟩ | ⟨q1, q2⟩
  · left
    rw [q2]
    exact ⟨by show p + (vgo (z.drop p.toNat) 0 0).2.1 ≤ c; omega, rfl, rfl, h'⟩
  · right
    rw [q2]
    refine ⟨by show (c : Int) < p + (vgo (z.drop p.toNat) 0 0).2.1; omega, rfl, ?_⟩
    show (if (1 : Int) = 0 then 0 else p + ((0 + (c - p.toNat) : Nat) : Int)) = c
    rw [if_neg (by decide)]
    omega
theorem vm_cut (z : List Int) (mo : Int) {c : Nat} (hc : c ≤ z.length) {p : Int} (h0 : 0 ≤ p) (h1 : p ≤ z.length) : Cu z.length c p (vm z mo p) (vm (z.take c) mo p) := by
  intro h
  obtain ⟨v1, v2, v3⟩ := vm_ok h
  obtain ⟨a1, a2, a3⟩ := vg_cut z hc h0 h1 v1
  rw [v3]
  refine ⟨a1, a2, fun hpc => ?_⟩
  unfold vm
  rcases a3 hpc with ⟨q1, q2, q3, q4⟩ | ⟨q1, q2, q3⟩
  · rw [if_neg (by rw [q4]; exact fun x => x rfl), if_neg (by rw [q2]; omega)]
    exact .inl ⟨q1, q2, q3, q4⟩
  · rw [if_pos (by rw [q2]; decide)]
    exact .inr ⟨q1, q2, q3⟩
theorem ve_cut (ok : Int → Bool) (z : List Int) {c : Nat} (hc : c ≤ z.length) {p : Int} (h0 : 0 ≤ p) (h1 : p ≤ z.length) : Cu z.length c p (ve ok z p) (ve ok (z.take c) p) := by
  intro h
  obtain ⟨v1, v2, v3⟩ := ve_ok h
  obtain ⟨a1, a2, a3⟩ := vg_cut z hc h0 h1 v1
  rw [v3]
  refine ⟨a1, a2, fun hpc => ?_⟩
  unfold ve
  rcases a3 hpc with ⟨q1, q2, q3, q4⟩ | ⟨q1, q2, q3⟩
  · rw [if_neg (by rw [q4]; exact fun x => x rfl), if_pos (by rw [q2]; exact v2)]
    exact .inl ⟨q1, q2, q3, q4⟩
  · rw [if_pos (by rw [q2]; decide)]
    exact .inr ⟨q1, q2, q3⟩
theorem piece_take {z : List Int} {c a b : Nat} (h : b ≤ c) : piece (z.take c) a b = piece z a b := by
  unfold piece
  rw [List.drop_take, List.take_take]
  congr 1
  omega
theorem tk_cut (z : List Int) (x : Int) {c : Nat} (hc : c ≤ z.length) {p : Int} (h0 : 0 ≤ p) (h1 : p ≤ z.length) : Cu z.length c p (tk z x p) (tk (z.take c) x p) := by
  have hl : (z.take c).length = c := by rw [List.length_take]; omega
  intro h
  unfold tk at h ⊢
  by_cases hx : x < 0
  · rw [if_pos hx] at h; exact absurd h (by show ¬ (17 : Int) = 0; decide)
  · rw [if_neg hx] at h ⊢
    by_cases hz : (z.length : Int) - p < x
    · rw [if_pos hz] at h; exact absurd h (by show ¬ (1 : Int) = 0; decide)
    · rw [if_neg hz] at h ⊢
      rw [if_neg hx, hl]
      refine ⟨by show p ≤ p + x; omega, by show p + x ≤ _; omega, fun hpc => ?_⟩
      by_cases hcx : (c : Int) - p < x
      · rw [if_pos hcx]
        exact .inr ⟨by show (c : Int) < p + x; omega, rfl, rfl⟩
      · rw [if_neg hcx, piece_take (by omega)]
        exact .inl ⟨by show p + x ≤ c; omega, rfl, rfl, rfl⟩
theorem dgo_cut (z : List Int) {c : Nat} (hc : c ≤ z.length) : ∀ (k : Nat) (p b : Int) (acc : List Int), 0 ≤ p → p ≤ z.length → Cu z.length c p (dgo z k p b acc) (dgo (z.take c) k p b acc)
  | 0, p, b, acc, h0, h1 => Cu.done _ _ _ h1
  | k + 1, p, b, acc, h0, h1 => by
    refine Cu.bind h0 (vg_cut z hc h0 h1) fun x p1 g0 g1 => ?_
    by_cases hx : b ≤ x
    · rw [if_pos hx]; exact Cu.fail (by show (13 : Int) ≠ 0; decide)
    · rw [if_neg hx, if_neg hx]; exact dgo_cut z hc k p1 _ _ g0 g1
theorem dl_cut (z : List Int) (mo b : Int) {c : Nat} (hc : c ≤ z.length) {p : Int} (h0 : 0 ≤ p) (h1 : p ≤ z.length) : Cu z.length c p (dl z mo b p) (dl (z.take c) mo b p) :=
  Cu.bind h0 (vm_cut z mo hc h0 h1) fun x p1 g0 g1 => dgo_cut z hc _ _ _ _ g0 g1
theorem lkr_cut (z : List Int) (pos pr : Int) {c : Nat} (hc : c ≤ z.length) {p : Int} (h0 : 0 ≤ p) (h1 : p ≤ z.length) : Cu z.length c p (lkr z pos pr p) (lkr (z.take c) pos pr p) := by
  refine Cu.bind h0 (vg_cut z hc h0 h1) fun x p1 g0 g1 => ?_
  by_cases hx : 18446744073709551615 < pr + 1 + x
  · rw [if_pos hx]; exact Cu.fail (by show (13 : Int) ≠ 0; decide)
  · rw [if_neg hx, if_neg hx]
    exact Cu.bind g0 (dl_cut z 4 pos hc g0 g1) fun l p2 k0 k1 => Cu.done _ _ _ k1
theorem lkgo_cut (z : List Int) (pos : Int) {c : Nat} (hc : c ≤ z.length) : ∀ (k : Nat) (pr p : Int) (acc : List Lk), 0 ≤ p → p ≤ z.length → Cu z.length c p (lkgo z pos k pr p acc) (lkgo (z.take c) pos k pr p acc)
  | 0, pr, p, acc, h0, h1 => Cu.done _ _ _ h1
  | k + 1, pr, p, acc, h0, h1 => Cu.bind h0 (lkr_cut z pos pr hc h0 h1) fun s p1 g0 g1 => lkgo_cut z pos hc k s.1 p1 _ g0 g1
theorem lrd_cut (z : List Int) (pos : Int) {c : Nat} (hc : c ≤ z.length) {p : Int} (h0 : 0 ≤ p) (h1 : p ≤ z.length) : Cu z.length c p (lrd z pos p) (lrd (z.take c) pos p) :=
  Cu.bind h0 (vm_cut z 16 hc h0 h1) fun x p1 g0 g1 => lkgo_cut z pos hc _ _ _ _ g0 g1
theorem hrd_cut (z : List Int) (pos mo : Int) {c : Nat} (hc : c ≤ z.length) {p : Int} (h0 : 0 ≤ p) (h1 : p ≤ z.length) : Cu z.length c p (hrd z pos mo p) (hrd (z.take c) pos mo p) :=
  Cu.bind h0 (lrd_cut z pos hc h0 h1) fun L p1 g0 g1 => Cu.bind g0 (vm_cut z mo hc g0 g1) fun v p2 k0 k1 => Cu.done _ _ _ k1
theorem hgo_cut (z : List Int) {c : Nat} (hc : c ≤ z.length) : ∀ (k : Nat) (b mx p : Int) (acc : List Hd), 0 ≤ p → p ≤ z.length → Cu z.length c p (hgo z k b mx p acc) (hgo (z.take c) k b mx p acc)
  | 0, b, mx, p, acc, h0, h1 => Cu.done _ _ _ h1
  | k + 1, b, mx, p, acc, h0, h1 => Cu.bind h0 (hrd_cut z b mx hc h0 h1) fun h p1 g0 g1 => hgo_cut z hc k (b + 1) (mx - h.2) p1 _ g0 g1
theorem rhd_cut (z : List Int) (base : Int) {c : Nat} (hc : c ≤ z.length) {p : Int} (h0 : 0 ≤ p) (h1 : p ≤ z.length) : Cu z.length c p (rhd z base p) (rhd (z.take c) base p) := by
  refine Cu.bind h0 (vm_cut z 16 hc h0 h1) fun nn p1 g0 g1 => ?_
  by_cases hx : fitn base nn = true
  · rw [if_pos hx, if_pos hx]; exact hgo_cut z hc _ _ _ _ _ g0 g1
  · rw [if_neg hx]; exact Cu.fail (by show (3 : Int) ≠ 0; decide)
theorem bhd_cut (z : List Int) {c : Nat} (hc : c ≤ z.length) {p : Int} (h0 : 0 ≤ p) (h1 : p ≤ z.length) : Cu z.length c p (bhd z p) (bhd (z.take c) p) :=
  Cu.bind h0 (ve_cut epk z hc h0 h1) fun e p1 g0 g1 => Cu.bind g0 (ve_cut psk z hc g0 g1) fun b p2 k0 k1 => Cu.bind k0 (rhd_cut z b hc k0 k1) fun H p4 j0 j1 => Cu.done _ _ _ j1
theorem bl_cut (z : List Int) (mo : Int) {c : Nat} (hc : c ≤ z.length) {p : Int} (h0 : 0 ≤ p) (h1 : p ≤ z.length) : Cu z.length c p (bl z mo p) (bl (z.take c) mo p) :=
  Cu.bind h0 (vm_cut z mo hc h0 h1) fun v p1 g0 g1 => tk_cut z v hc g0 g1
theorem bc_cut (z : List Int) (n way : Int) {c : Nat} (hc : c ≤ z.length) {p : Int} (h0 : 0 ≤ p) (h1 : p ≤ z.length) : Cu z.length c p (bc z n way p) (bc (z.take c) n way p) := by
  unfold bc
  by_cases hw : way = 0
  · rw [if_pos hw, if_pos hw]; exact tk_cut z n hc h0 h1
  · rw [if_neg hw, if_neg hw]
    refine Cu.bind h0 (bl_cut z 1048576 hc h0 h1) fun t p1 g0 g1 => ?_
    by_cases h1 : (exv t n).2.1 ≠ 0
    · rw [if_pos h1]; exact Cu.fail h1
    · rw [if_neg h1]
      by_cases h2 : ((exv t n).1.length : Int) < n
      · rw [if_pos h2]; exact Cu.fail (by show (3 : Int) ≠ 0; decide)
      · rw [if_neg h2]; exact Cu.done _ _ _ g1
theorem bk_cut (z : List Int) (most : Int) {c : Nat} (hc : c ≤ z.length) {p : Int} (h0 : 0 ≤ p) (h1 : p ≤ z.length) : Cu z.length c p (bk z most p) (bk (z.take c) most p) := by
  refine Cu.bind h0 (vm_cut z _ hc h0 h1) fun n p1 g0 g1 => Cu.bind g0 (tk_cut z 1 hc g0 g1) fun wy p2 k0 k1 => ?_
  by_cases hw : 1 < wy.getD 0 0
  · rw [if_pos hw]; exact Cu.fail (by show (7 : Int) ≠ 0; decide)
  · rw [if_neg hw, if_neg hw]; exact bc_cut z _ _ hc k0 k1
theorem bks_cut (z : List Int) (most : Int) {c : Nat} (hc : c ≤ z.length) {p : Int} (h0 : 0 ≤ p) (h1 : p ≤ z.length) : Cu z.length c p (bks z most p) (bks (z.take c) most p) := by
  unfold bks
  refine Cu.bind h0 (bk_cut z most hc h0 h1) fun y p1 g0 g1 => ?_
  by_cases hw : piece z p.toNat p1.toNat = bkb y
  · rw [if_pos hw]
    intro _
    refine ⟨Int.le_refl _, g1, fun hpc => ?_⟩
    have hpc' : p1 ≤ c := hpc
    rw [piece_take (by omega), if_pos hw]
    exact .inl ⟨hpc, rfl, rfl, rfl⟩
  · rw [if_neg hw]; exact Cu.fail (by show (12 : Int) ≠ 0; decide)
theorem brd_cut (z : List Int) {c : Nat} (hc : c ≤ z.length) {p : Int} (h0 : 0 ≤ p) (h1 : p ≤ z.length) : Cu z.length c p (brd KS z p) (brd KS (z.take c) p) := by
  rw [brd_bhd, brd_bhd]
  refine Cu.bind h0 (bhd_cut z hc h0 h1) fun h p4 g0 g1 => ?_
  unfold bfin
  refine Cu.bind g0 (bks_cut z 1048576 hc g0 g1) fun y p5 k0 k1 => ?_
  by_cases hs : hsum h.2.2 = (y.length : Int)
  · rw [if_pos hs]; exact Cu.done _ _ _ k1
  · rw [if_neg hs]; exact Cu.fail (by show (3 : Int) ≠ 0; decide)
end Go.Proofs.YtlealkfkddhnnaaGreat.Cur
