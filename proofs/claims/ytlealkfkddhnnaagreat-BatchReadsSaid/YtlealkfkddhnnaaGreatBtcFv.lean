/- As the seat's text, without what nothing here names. -/
import Derived.Test.YtlealkfkddhnnaaGreatBtcDv
import Derived.Test.YtlealkfkddhnnaaGreatK38v
namespace Go.Proofs.YtlealkfkddhnnaaGreat.Cur
open Go.RowKit Mem
set_option linter.unusedVariables false
set_option maxRecDepth 100000
theorem St.q0 {α : Type} {d : α} {n : Nat} {g : Rs α} {p c q : Int} {v : α} {p' c' q' : Int} (h : St d n g p c q v p' c' q') (hq : c = 0 → q = 0) (hc : c' = 0) : q' = 0 := by
  subst hc
  obtain ⟨h1, _, _, _, h2⟩ := h.good
  rw [h2]; exact hq h1
theorem ve_bd {ok : Int → Bool} {z : List Int} (hby : ∀ x ∈ z, 0 ≤ x ∧ x < 256) (hok : ∀ x, ok x = true → x ≤ 4611686018427387904) (p : Int) : 0 ≤ (ve ok z p).1 ∧ (ve ok z p).1 ≤ 4611686018427387904 := by
  unfold ve
  split
  · exact ⟨Int.le_refl _, by show (0 : Int) ≤ _; decide⟩
  · split
    · rename_i h2
      exact ⟨vg_bd z p hby, hok _ h2⟩
    · exact ⟨Int.le_refl _, by show (0 : Int) ≤ _; decide⟩
theorem psk_le (x : Int) (h : psk x = true) : x ≤ 4611686018427387904 := by have h1 : x ≤ 4611686018427387903 := of_decide_eq_true h; omega
theorem bhd_st {n : Nat} {z : List Int} {p c q e p1 c1 q1 b p2 c2 q2 p4 c4 q4 : Int} {H : List Hd} (h1 : St 0 n (ve epk z p) p c q e p1 c1 q1) (h2 : St 0 n (ve psk z p1) p1 c1 q1 b p2 c2 q2) (h3 : St [] n (rhd z b p2) p2 c2 q2 H p4 c4 q4) :
    St bh0 n (bhd z p) p c q (if c4 = 0 then (e, b, H) else bh0) p4 c4 q4 := by
  unfold bhd
  refine h1.bind (h2.bind (h3.bind ?_))
  obtain ⟨k0, k1⟩ := h3.place
  by_cases hc : c4 = 0
  · subst hc
    rw [if_pos rfl]
    exact St.done rfl k0 k1
  · rw [if_neg hc]
    exact St.stay k0 k1 hc
theorem brd_st {K : List Int → Int → Rs (List Int)} {n : Nat} {z : List Int} {p c q e b p4 c4 q4 p5 c5 q5 c7 q7 : Int} {H : List Hd} {y : List Int} (h1 : St bh0 n (bhd z p) p c q (if c4 = 0 then (e, b, H) else bh0) p4 c4 q4) (h2 : St [] n (K z p4) p4 c4 q4 y p5 c5 q5)
    (hy : hsum H = (y.length : Int) → c7 = c5 ∧ q7 = q5) (hn : hsum H ≠ (y.length : Int) → FailSt c5 q5 3 p4 c7 q7) : St bt0 n (brd K z p) p c q (if c7 = 0 then (e, b, hdl H y) else bt0) p5 c7 q7 := by
  rw [brd_bhd]
  refine h1.bind ?_
  obtain ⟨k0, k1⟩ := h2.place
  by_cases hc4 : c4 = 0
  · rw [if_pos hc4]
    unfold bfin
    refine h2.bind ?_
    by_cases hs : hsum H = (y.length : Int)
    · obtain ⟨rfl, rfl⟩ := hy hs
      by_cases hc : c7 = 0
      · subst hc
        rw [if_pos rfl]
        exact St.done (if_pos hs) k0 k1
      · rw [if_neg hc]
        exact St.stay k0 k1 hc
    · rcases hn hs with ⟨rfl, rfl, rfl⟩ | ⟨hc, rfl, rfl⟩
      · rw [show (if (3 : Int) = 0 then ((e, b, hdl H y) : Bt) else bt0) = bt0 from if_neg (by decide)]
        exact St.fault (x := bt0) (y := 0) (if_neg hs) (by decide) k0 k1
      · rw [if_neg hc]
        exact St.stay k0 k1 hc
  · obtain ⟨rfl, rfl, rfl⟩ := h2.bad hc4
    have h7 : c7 = c5 ∧ q7 = q5 := by
      by_cases hs : hsum H = (([] : List Int).length : Int)
      · exact hy hs
      · rcases hn hs with ⟨h, _⟩ | ⟨_, h, h'⟩
        · exact absurd h hc4
        · exact ⟨h, h'⟩
    obtain ⟨rfl, rfl⟩ := h7
    rw [if_neg hc4, if_neg hc4]
    exact St.stay k0 k1 hc4
theorem ofs_cons (x : Int) (S : List Int) : ∀ k, ofs (x :: S) (k + 1) = x.toNat + ofs S k
  | 0 => by show ofs (x :: S) 0 + ((x :: S).getD 0 0).toNat = x.toNat + 0; simp [ofs]
  | k + 1 => by
    show ofs (x :: S) (k + 1) + ((x :: S).getD (k + 1) 0).toNat = x.toNat + (ofs S k + (S.getD k 0).toNat)
    rw [ofs_cons x S k]
    simp
    omega
theorem ofs_hsum : ∀ (H : List Hd), (∀ h ∈ H, 0 ≤ h.2) → ((ofs (H.map (·.2)) H.length : Nat) : Int) = hsum H
  | [], _ => rfl
  | h :: H, hn => by
    have ih := ofs_hsum H fun x hx => hn x (by simp [hx])
    have h0 := hn h (by simp)
    show ((ofs (h.2 :: H.map (·.2)) (H.length + 1) : Nat) : Int) = h.2 + hsum H
    rw [ofs_cons, ← ih]
    omega
theorem fits_hsum {H : List Hd} (hn : ∀ h ∈ H, 0 ≤ h.2) (r : Nat) : Fits (H.map (·.2)) H.length r ↔ hsum H = (r : Int) := by
  have h1 := ofs_hsum H hn
  constructor
  · rintro ⟨_, h2⟩
    rw [h2] at h1
    exact h1.symm
  · intro h2
    rw [h2] at h1
    have h3 : ofs (H.map (·.2)) H.length = r := by omega
    refine ⟨fun j hj => ⟨?_, ?_⟩, h3⟩
    · rw [List.getD_eq_getElem?_getD, List.getElem?_map, List.getElem?_eq_getElem hj]
      exact hn _ (List.getElem_mem hj)
    · rw [← h3]; exact ofs_mono _ hj
theorem hdl_length : ∀ (H : List Hd) (y : List Int), (hdl H y).length = H.length
  | [], _ => rfl
  | h :: H, y => by show (hdl H _).length + 1 = H.length + 1; rw [hdl_length H]
theorem hdl_at : ∀ (H : List Hd) (y : List Int) (k : Nat), k < H.length → (hdl H y).getD k en0 = dle (hen H) (H.map (·.2)) y k
  | h :: H, y, 0, _ => by
    show (h.1, y.take h.2.toNat) = ((((h.1, []) : En)).1, (y.drop 0).take h.2.toNat)
    rw [List.drop_zero]
  | h :: H, y, k + 1, hk => by
    have ih := hdl_at H (y.drop h.2.toNat) k (by simpa using hk)
    show (hdl H (y.drop h.2.toNat)).getD k en0 = _
    rw [ih]
    unfold dle
    have h1 : (hen (h :: H)).getD (k + 1) en0 = (hen H).getD k en0 := rfl
    have h2 : ((h :: H).map (·.2)).getD (k + 1) 0 = (H.map (·.2)).getD k 0 := rfl
    have h3 : ofs ((h :: H).map (·.2)) (k + 1) = h.2.toNat + ofs (H.map (·.2)) k := ofs_cons _ _ _
    rw [h1, h2, h3, List.drop_drop]
theorem dealt_hdl (H : List Hd) (y : List Int) : (List.range H.length).map (dle (hen H) (H.map (·.2)) y) = hdl H y := by
  apply List.ext_getElem (by simp [hdl_length])
  intro i h1 h2
  rw [List.getElem_map, List.getElem_range]
  have hi : i < H.length := by simpa using h1
  rw [← hdl_at H y i hi, List.getD_eq_getElem?_getD, List.getElem?_eq_getElem h2]
  rfl
def hdsm (H : List Hd) : Prop := ∀ h ∈ H, (0 ≤ h.2 ∧ h.2 ≤ 1048576) ∧ h.1.length ≤ 16 ∧ blen 4 h.1
theorem hen_esm {H : List Hd} (h : hdsm H) : esm (hen H) := by
  intro k
  by_cases hk : k < H.length
  · have e : (hen H).getD k en0 = (H[k].1, []) := by
      rw [List.getD_eq_getElem?_getD]
      unfold hen
      rw [List.getElem?_map, List.getElem?_eq_getElem hk]
      rfl
    rw [e]
    obtain ⟨_, h1, h2⟩ := h _ (List.getElem_mem hk)
    exact ⟨by show H[k].1.length ≤ 50; omega, h2.le (by omega), by show ([] : List Int).length ≤ 500; simp⟩
  · rw [List.getD_eq_getElem?_getD, List.getElem?_eq_none (by rw [hen_length]; omega)]
    exact ⟨by simp [en0], fun s hs => by simp [en0] at hs, by simp [en0]⟩
theorem hdl_esm {H : List Hd} {y : List Int} (h : hdsm H) (hy : y.length ≤ 500) : esm (hdl H y) := by
  intro k
  by_cases hk : k < H.length
  · rw [hdl_at H y k hk]
    have h1 := hen_esm h k
    refine ⟨h1.1, h1.2.1, ?_⟩
    show ((y.drop _).take _).length ≤ 500
    rw [List.length_take, List.length_drop]
    omega
  · rw [List.getD_eq_getElem?_getD, List.getElem?_eq_none (by rw [hdl_length]; omega)]
    exact ⟨by simp [en0], fun s hs => by simp [en0] at hs, by simp [en0]⟩
theorem map2_bd {H : List Hd} (h : hdsm H) : ∀ y ∈ H.map (·.2), -9223372036854775808 ≤ y ∧ y ≤ 9223372036854775807 := by
  intro y hy
  obtain ⟨x, hx, rfl⟩ := List.mem_map.1 hy
  have := (h x hx).1
  omega
def ClPost (K : List Int → Int → Rs (List Int)) (ow : Int → Int → List Int → Bool) (b : Nat) (s : Value) (n : Nat) (z : List Int) (p c q : Int) (w : World) (e : Ending) (w' : World) : Prop :=
  ∃ v l p' c' q' o, e = .returned (.tuple #[v, .bool o]) ∧ Own w' w.heap.size v l ∧ (∀ x ∈ l, 0 ≤ x ∧ x < 256) ∧ l.length ≤ 10000 ∧ Kp b w w' ∧ IsRd w' b s p' c' q' ∧ St [] n (K z p) p c q l p' c' q' ∧ (c' = 0 → o = ow p p' l)
def BrPost (K : List Int → Int → Rs (List Int)) (ow : Int → Int → List Int → Bool) (b : Nat) (s : Value) (n : Nat) (z : List Int) (p c q : Int) (w : World) (e : Ending) (w' : World) : Prop :=
  ∃ E b0 A N m L f p' c' q', e = .returned (.tuple #[btagg E b0 A N m, .bool f]) ∧ Kp b w w' ∧ IsRd w' b s p' c' q' ∧ Ens w' (fun k => w.heap.size ≤ k) A N L ∧ N ≤ 16 ∧ esm L ∧ St bt0 n (brd K z p) p c q (E, b0, L) p' c' q' ∧ (c' ≠ 0 → f = false) ∧
    (c' = 0 → (bhd z p).2.2.1 = 0 ∧ f = ow (bhd z p).2.1 p' (jn L))
end Go.Proofs.YtlealkfkddhnnaaGreat.Cur
