/- As the seat's text, without what nothing here names. -/
import Derived.Test.YtlealkfkddhnnaaGreatK38v
import Derived.Test.YtlealkfkddhnnaaGreatK37v
import Derived.Test.YtlealkfkddhnnaaGreatK20v
namespace Go.Proofs.YtlealkfkddhnnaaGreat.Cur
open Go.RowKit Mem
set_option linter.unusedVariables false
def hgo (z : List Int) : Nat → Int → Int → Int → List Hd → Rs (List Hd)
  | 0, _, _, p, acc => (acc, p, 0, 0)
  | k + 1, b, mx, p, acc => (hrd z b mx p).bind [] fun h p1 => hgo z k (b + 1) (mx - h.2) p1 (acc ++ [h])
def hhz : Int → List Hd → List Int
  | _, [] => []
  | b, h :: H => (lkz b h.1 ++ vz h.2) ++ hhz (b + 1) H
abbrev Bt := Int × Int × List En
def bt0 : Bt := (0, 0, [])
def fitn (b n : Int) : Bool := decide (1 ≤ n ∧ n ≤ 16 ∧ b + n ≤ 4611686018427387904)
def hsum (H : List Hd) : Int := (H.map (·.2)).sum
def hdl : List Hd → List Int → List En
  | [], _ => []
  | h :: H, y => (h.1, y.take h.2.toNat) :: hdl H (y.drop h.2.toNat)
def hds (L : List En) : List Hd := L.map fun x => (x.1, (x.2.length : Int))
def jn (L : List En) : List Int := (L.map (·.2)).flatten
theorem hds_length (L : List En) : (hds L).length = L.length := by simp [hds]
theorem hds_hdl : ∀ (H : List Hd) (y : List Int), (∀ h ∈ H, 0 ≤ h.2) → hsum H = (y.length : Int) → hds (hdl H y) = H ∧ jn (hdl H y) = y
  | [], y, _, hs => by
    have : y = [] := List.eq_nil_of_length_eq_zero (by have h9 : (0 : Int) = (y.length : Int) := hs; omega)
    subst this
    exact ⟨rfl, rfl⟩
  | h :: H, y, hn, hs => by
    have h0 := hn h (by simp)
    have hs1 : h.2 + hsum H = (y.length : Int) := hs
    have hs0 : 0 ≤ hsum H := by
      have : ∀ (l : List Hd), (∀ h ∈ l, 0 ≤ h.2) → 0 ≤ hsum l := by
        intro l
        induction l with
        | nil => intro _; exact Int.le_refl _
        | cons a l ih => intro hl; have h1 := hl a (by simp); have h2 := ih fun b hb => hl b (by simp [hb]); show 0 ≤ a.2 + hsum l; omega
      exact this H fun b hb => hn b (by simp [hb])
    obtain ⟨r, hr⟩ := Int.eq_ofNat_of_zero_le h0
    have hlt : (y.take h.2.toNat).length = h.2.toNat := by rw [List.length_take]; omega
    obtain ⟨i1, i2⟩ := hds_hdl H (y.drop h.2.toNat) (fun b hb => hn b (by simp [hb])) (by rw [List.length_drop]; omega)
    refine ⟨?_, ?_⟩
    · show (h.1, ((y.take h.2.toNat).length : Int)) :: hds (hdl H (y.drop h.2.toNat)) = h :: H
      rw [i1, hlt, Int.toNat_of_nonneg h0]
    · show y.take h.2.toNat ++ jn (hdl H (y.drop h.2.toNat)) = y
      rw [i2, List.take_append_drop]
def bthz (B : Bt) : List Int := vz B.1 ++ (vz B.2.1 ++ (vz (B.2.2.length : Int) ++ hhz B.2.1 (hds B.2.2)))
def brd (K : List Int → Int → Rs (List Int)) (z : List Int) (p : Int) : Rs Bt :=
  (ve epk z p).bind bt0 fun e p1 => (ve psk z p1).bind bt0 fun b p2 => (vm z 16 p2).bind bt0 fun n p3 =>
    if fitn b n = true then (hgo z n.toNat b 1048576 p3 []).bind bt0 fun H p4 => (K z p4).bind bt0 fun y p5 =>
      if hsum H = (y.length : Int) then ((e, b, hdl H y), p5, 0, 0) else (bt0, 0, 3, p4)
    else (bt0, 0, 3, p2)
def enall : Int → List En → Bool
  | _, [] => true
  | b, x :: L => enok b x.1 x.2.length && enall (b + 1) L
def btk (B : Bt) : Bool := epk B.1 && psk B.2.1 && fitn B.2.1 B.2.2.length && decide ((jn B.2.2).length ≤ 1048576) && enall B.2.1 B.2.2
theorem enall_at : ∀ {L : List En} {b : Int}, enall b L = true → ∀ k, k < L.length → enok (b + k) (L.getD k en0).1 (L.getD k en0).2.length = true
  | x :: L, b, h, 0, _ => by
    have h : (enok b x.1 x.2.length && enall (b + 1) L) = true := h
    rw [Bool.and_eq_true] at h
    rw [Int.natCast_zero, Int.add_zero]
    exact h.1
  | x :: L, b, h, k + 1, hk => by
    have h : (enok b x.1 x.2.length && enall (b + 1) L) = true := h
    rw [Bool.and_eq_true] at h
    have := enall_at h.2 k (by simpa using hk)
    rw [show b + ((k + 1 : Nat) : Int) = b + 1 + k by omega]
    exact this
theorem enall_of : ∀ {L : List En} {b : Int}, (∀ k, k < L.length → enok (b + k) (L.getD k en0).1 (L.getD k en0).2.length = true) → enall b L = true
  | [], _, _ => rfl
  | x :: L, b, h => by
    show (enok b x.1 x.2.length && enall (b + 1) L) = true
    rw [Bool.and_eq_true]
    have h0 := h 0 (by simp)
    rw [Int.natCast_zero, Int.add_zero] at h0
    refine ⟨h0, enall_of fun k hk => ?_⟩
    have := h (k + 1) (by simpa using hk)
    rw [show b + ((k + 1 : Nat) : Int) = b + 1 + k by omega] at this
    exact this
theorem jn_jk {L : List En} : jn L = jk L L.length := by
  unfold jn jk
  rw [List.take_length]
end Go.Proofs.YtlealkfkddhnnaaGreat.Cur
