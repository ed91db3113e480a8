/- As the seat's text, without what nothing here names. -/
import Derived.Test.YtlealkfkddhnnaaGreatK38y
import Derived.Test.YtlealkfkddhnnaaGreatK37y
import Derived.Test.YtlealkfkddhnnaaGreatK20y
namespace Go.Proofs.YtlealkfkddhnnaaGreat.Cur
open Go.RowKit Mem
set_option linter.unusedVariables false
def hgo (z : List Int) : Nat → Int → Int → Int → List Hd → Rs (List Hd)
  | 0, _, _, p, acc => (acc, p, 0, 0)
  | k + 1, b, mx, p, acc => (hrd z b mx p).bind [] fun h p1 => hgo z k (b + 1) (mx - h.2) p1 (acc ++ [h])
def hhz : Int → List Hd → List Int
  | _, [] => []
  | b, h :: H => (lkz b h.1 ++ vz h.2) ++ hhz (b + 1) H
def hhok : Int → Int → List Hd → Prop
  | _, _, [] => True
  | b, mx, h :: H => lkok b h.1 = true ∧ lbd h.1 ∧ 0 ≤ h.2 ∧ h.2 ≤ mx ∧ h.2 < 18446744073709551616 ∧ hhok (b + 1) (mx - h.2) H
theorem hgo_put {z rest : List Int} : ∀ (H : List Hd) (b mx : Int) (pre : List Int) (acc : List Hd), z = pre ++ hhz b H ++ rest → b + H.length < 18446744073709551616 → hhok b mx H →
    hgo z H.length b mx pre.length acc = (acc ++ H, ((pre.length + (hhz b H).length : Nat) : Int), 0, 0)
  | [], b, mx, pre, acc, _, _, _ => by simp [hgo, hhz]
  | (L, v) :: H, b, mx, pre, acc, hz, hb, hok => by
    obtain ⟨k1, k2, k3, k4, k5, k6⟩ := hok
    dsimp only at k1 k2 k3 k4 k5 k6
    obtain ⟨r, rfl⟩ := Int.eq_ofNat_of_zero_le k3
    rw [List.length_cons] at hb
    show (hrd z b mx pre.length).bind [] (fun h p1 => hgo z H.length (b + 1) (mx - h.2) p1 (acc ++ [h])) = _
    have h1 := hrd_put (z := z) (pre := pre) (rest := hhz (b + 1) H ++ rest) (L := L) (r := r) (pos := b) (mo := mx) (by rw [hz]; show pre ++ ((lkz b L ++ vz r) ++ hhz (b + 1) H) ++ rest = _; simp) (by omega) k1 k2 k4 k5
    rw [Rs.bind_of h1]
    have h2 := hgo_put (z := z) (rest := rest) H (b + 1) (mx - r) (pre ++ (lkz b L ++ vz r)) (acc ++ [(L, (r : Int))]) (by rw [hz]; show pre ++ ((lkz b L ++ vz r) ++ hhz (b + 1) H) ++ rest = _; simp) (by omega) k6
    rw [List.length_append] at h2
    rw [h2]
    show _ = (acc ++ (L, (r : Int)) :: H, ((pre.length + ((lkz b L ++ vz r) ++ hhz (b + 1) H).length : Nat) : Int), (0 : Int), (0 : Int))
    have e3 : ((lkz b L ++ vz (r : Int)) ++ hhz (b + 1) H).length = (lkz b L ++ vz (r : Int)).length + (hhz (b + 1) H).length := List.length_append ..
    rw [e3, List.append_assoc, Nat.add_assoc]
    rfl
theorem vb_put {ok : Int → Bool} {z rest pre : List Int} {x : Int} (hz : z = pre ++ vz x ++ rest) (x0 : 0 ≤ x) (x1 : x < 18446744073709551616) (hx : ok x = true) : ve ok z pre.length = (x, ((pre.length + vsz x : Nat) : Int), 0, 0) := by
  unfold ve; rw [vg_put hz x0 x1, if_neg (by simp), if_pos hx]
abbrev Bt := Int × Int × List En
def bt0 : Bt := (0, 0, [])
def fitn (b n : Int) : Bool := decide (1 ≤ n ∧ n ≤ 16 ∧ b + n ≤ 4611686018427387904)
def hsum (H : List Hd) : Int := (H.map (·.2)).sum
def hdl : List Hd → List Int → List En
  | [], _ => []
  | h :: H, y => (h.1, y.take h.2.toNat) :: hdl H (y.drop h.2.toNat)
def hds (L : List En) : List Hd := L.map fun x => (x.1, (x.2.length : Int))
def jn (L : List En) : List Int := (L.map (·.2)).flatten
theorem hds_length (L : List En) : (hds L).length = L.length := by simp [hds]
theorem hsum_hds (L : List En) : hsum (hds L) = ((jn L).length : Int) := by
  induction L with
  | nil => rfl
  | cons x L ih =>
    show (x.2.length : Int) + hsum (hds L) = ((x.2 ++ jn L).length : Int)
    rw [ih, List.length_append]; omega
theorem hdl_hds (L : List En) (y : List Int) : hdl (hds L) (jn L ++ y) = L := by
  induction L generalizing y with
  | nil => rfl
  | cons x L ih =>
    show (x.1, ((x.2 ++ jn L) ++ y).take (x.2.length : Int).toNat) :: hdl (hds L) (((x.2 ++ jn L) ++ y).drop (x.2.length : Int).toNat) = x :: L
    rw [Int.toNat_natCast, List.append_assoc, List.take_left, List.drop_left, ih]
theorem hds_hdl : ∀ (H : List Hd) (y : List Int), (∀ h ∈ H, 0 ≤ h.2) → hsum H = (y.length : Int) → hds (hdl H y) = H ∧ jn (hdl H y) = y
  | [], y, _, hs => by
    have : y = [] := List.eq_nil_of_length_eq_zero (by have h9 : (0 : Int) = (y.length : Int) := hs; omega)
    subst this
    exact ⟨rfl, rfl⟩
  | h :: H, y, hn, hs => by
    have h0 := hn h (by simp)
    have hs1 : h.2 + hsum H = (y.length : Int) := hs
    have hs0 : 0 ≤ hsum H := by
      have : ∀ (l : List Hd), (∀ h ∈ l, 0 ≤ h.2) → 0 ≤ hsum l := by
        intro l
        induction l with
        | nil => intro _; exact Int.le_refl _
        | cons a l ih => intro hl; have h1 := hl a (by simp); have h2 := ih fun b hb => hl b (by simp [hb]); show 0 ≤ a.2 + hsum l; omega
      exact this H fun b hb => hn b (by simp [hb])
    obtain ⟨r, hr⟩ := Int.eq_ofNat_of_zero_le h0
    have hlt : (y.take h.2.toNat).length = h.2.toNat := by rw [List.length_take]; omega
    obtain ⟨i1, i2⟩ := hds_hdl H (y.drop h.2.toNat) (fun b hb => hn b (by simp [hb])) (by rw [List.length_drop]; omega)
    refine ⟨?_, ?_⟩
    · show (h.1, ((y.take h.2.toNat).length : Int)) :: hds (hdl H (y.drop h.2.toNat)) = h :: H
      rw [i1, hlt, Int.toNat_of_nonneg h0]
    · show y.take h.2.toNat ++ jn (hdl H (y.drop h.2.toNat)) = y
      rw [i2, List.take_append_drop]
def bthz (B : Bt) : List Int := vz B.1 ++ (vz B.2.1 ++ (vz (B.2.2.length : Int) ++ hhz B.2.1 (hds B.2.2)))
def brd (K : List Int → Int → Rs (List Int)) (z : List Int) (p : Int) : Rs Bt :=
  (ve epk z p).bind bt0 fun e p1 => (ve psk z p1).bind bt0 fun b p2 => (vm z 16 p2).bind bt0 fun n p3 =>
    if fitn b n = true then (hgo z n.toNat b 1048576 p3 []).bind bt0 fun H p4 => (K z p4).bind bt0 fun y p5 =>
      if hsum H = (y.length : Int) then ((e, b, hdl H y), p5, 0, 0) else (bt0, 0, 3, p4)
    else (bt0, 0, 3, p2)
def BtOk (B : Bt) : Prop := epk B.1 = true ∧ psk B.2.1 = true ∧ 0 ≤ B.1 ∧ B.1 < 18446744073709551616 ∧ 0 ≤ B.2.1 ∧ B.2.1 < 18446744073709551616 ∧ fitn B.2.1 B.2.2.length = true ∧ hhok B.2.1 1048576 (hds B.2.2)
def enall : Int → List En → Bool
  | _, [] => true
  | b, x :: L => enok b x.1 x.2.length && enall (b + 1) L
def btk (B : Bt) : Bool := epk B.1 && psk B.2.1 && fitn B.2.1 B.2.2.length && decide ((jn B.2.2).length ≤ 1048576) && enall B.2.1 B.2.2
theorem hhok_iff : ∀ (L : List En) (b : Int) (m : Nat), m ≤ 1048576 → (∀ x ∈ L, lbd x.1) → (hhok b (m : Int) (hds L) ↔ ((jn L).length ≤ m ∧ enall b L = true))
  | [], b, m, _, _ => by
    refine ⟨fun _ => ⟨?_, rfl⟩, fun _ => trivial⟩
    show ([] : List Int).length ≤ m
    simp
  | x :: L, b, m, hm, hb => by
    have hl : (jn (x :: L)).length = x.2.length + (jn L).length := by show (x.2 ++ jn L).length = _; rw [List.length_append]
    have he : enall b (x :: L) = (enok b x.1 x.2.length && enall (b + 1) L) := rfl
    have hk : enok b x.1 x.2.length = (decide (x.2.length ≤ 1048576) && lkok b x.1) := rfl
    rw [hl, he, hk]
    simp only [Bool.and_eq_true, decide_eq_true_eq]
    constructor
    · rintro ⟨h1, h2, h3, h4, h5, h6⟩
      replace h4 : (x.2.length : Int) ≤ m := h4
      replace h6 : hhok (b + 1) ((m : Int) - (x.2.length : Int)) (hds L) := h6
      rw [show (m : Int) - (x.2.length : Int) = ((m - x.2.length : Nat) : Int) by omega] at h6
      obtain ⟨i1, i2⟩ := (hhok_iff L (b + 1) (m - x.2.length) (by omega) fun y hy => hb y (by simp [hy])).1 h6
      exact ⟨by omega, ⟨by omega, h1⟩, i2⟩
    · rintro ⟨h1, ⟨h2, h3⟩, h4⟩
      refine ⟨h3, hb x (by simp), ?_, ?_, ?_, ?_⟩
      · show (0 : Int) ≤ (x.2.length : Int); omega
      · show (x.2.length : Int) ≤ m; omega
      · show (x.2.length : Int) < 18446744073709551616; omega
      · show hhok (b + 1) ((m : Int) - (x.2.length : Int)) (hds L)
        rw [show (m : Int) - (x.2.length : Int) = ((m - x.2.length : Nat) : Int) by omega]
        exact (hhok_iff L (b + 1) (m - x.2.length) (by omega) fun y hy => hb y (by simp [hy])).2 ⟨by omega, h4⟩
theorem btk_iff {B : Bt} (hb : ∀ x ∈ B.2.2, lbd x.1) (h1 : 0 ≤ B.1) (h2 : B.1 < 18446744073709551616) (h3 : 0 ≤ B.2.1) (h4 : B.2.1 < 18446744073709551616) : btk B = true ↔ BtOk B := by
  have hi := hhok_iff B.2.2 B.2.1 1048576 (Nat.le_refl _) hb
  unfold btk BtOk
  simp only [Bool.and_eq_true, decide_eq_true_eq]
  constructor
  · rintro ⟨⟨⟨⟨a1, a2⟩, a3⟩, a4⟩, a5⟩
    exact ⟨a1, a2, h1, h2, h3, h4, a3, hi.2 ⟨a4, a5⟩⟩
  · rintro ⟨a1, a2, _, _, _, _, a3, a4⟩
    obtain ⟨i1, i2⟩ := hi.1 a4
    exact ⟨⟨⟨⟨a1, a2⟩, a3⟩, i1⟩, i2⟩
theorem enall_at : ∀ {L : List En} {b : Int}, enall b L = true → ∀ k, k < L.length → enok (b + k) (L.getD k en0).1 (L.getD k en0).2.length = true
  | x :: L, b, h, 0, _ => by
    have h : (enok b x.1 x.2.length && enall (b + 1) L) = true := h
    rw [Bool.and_eq_true] at h
    rw [Int.natCast_zero, Int.add_zero]
    exact h.1
  | x :: L, b, h, k + 1, hk => by
    have h : (enok b x.1 x.2.length && enall (b + 1) L) = true := h
    rw [Bool.and_eq_true] at h
    have := enall_at h.2 k (by simpa using hk)
    rw [show b + ((k + 1 : Nat) : Int) = b + 1 + k by omega]
    exact this
theorem enall_of : ∀ {L : List En} {b : Int}, (∀ k, k < L.length → enok (b + k) (L.getD k en0).1 (L.getD k en0).2.length = true) → enall b L = true
  | [], _, _ => rfl
  | x :: L, b, h => by
    show (enok b x.1 x.2.length && enall (b + 1) L) = true
    rw [Bool.and_eq_true]
    have h0 := h 0 (by simp)
    rw [Int.natCast_zero, Int.add_zero] at h0
    refine ⟨h0, enall_of fun k hk => ?_⟩
    have := h (k + 1) (by simpa using hk)
    rw [show b + ((k + 1 : Nat) : Int) = b + 1 + k by omega] at this
    exact this
theorem jn_jk {L : List En} : jn L = jk L L.length := by
  unfold jn jk
  rw [List.take_length]
end Go.Proofs.YtlealkfkddhnnaaGreat.Cur
