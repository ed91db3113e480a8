/- Rising lists: what is put is read, what is read is put so again: the plain mathematics. -/
import Derived.Test.YtkedmhopajpkhaaZigE
namespace Go.Proofs.Ytkedmhopajpkhaa.Cur
open Go.RowKit Mem
set_option linter.unusedVariables false

theorem getD_append_left {a t : List Int} {k : Nat} (h : k < a.length) : (a ++ t).getD k 0 = a.getD k 0 := by
  rw [List.getD_eq_getElem?_getD, List.getD_eq_getElem?_getD, List.getElem?_append_left h]
theorem getD_append_at (a : List Int) (v : Int) (t : List Int) : (a ++ v :: t).getD a.length 0 = v := by
  rw [List.getD_eq_getElem?_getD, List.getElem?_append_right (Nat.le_refl _)]; simp
theorem stp_append {a t : List Int} {k : Nat} (h : k < a.length) : stp (a ++ t) k = stp a k := by
  unfold stp
  split
  · rw [getD_append_left (by omega)]
  · rw [getD_append_left h, getD_append_left (by omega)]
theorem rzk_append (a t : List Int) : ∀ k, k ≤ a.length → rzk (a ++ t) k = rzk a k
  | 0, _ => rfl
  | k + 1, h => by rw [rzk, rzk, rzk_append a t k (by omega), stp_append (by omega)]
theorem rz_snoc (a : List Int) (v : Int) : rz (a ++ [v]) = rz a ++ vz (stp (a ++ [v]) a.length) := by
  unfold rz
  rw [List.length_append, List.length_singleton, rzk, rzk_append a [v] _ (Nat.le_refl _)]
theorem stp_snoc (a : List Int) (v : Int) : stp (a ++ [v]) a.length = if a = [] then v else v - a.getD (a.length - 1) 0 - 1 := by
  unfold stp
  by_cases h : a = []
  · subst h; simp
  · have hl : 0 < a.length := List.length_pos_iff.2 h
    rw [if_neg (by omega), if_neg h, getD_append_at, getD_append_left (by omega)]
theorem rises_snoc {a : List Int} {v : Int} (h : risesB a = true) (hv : a = [] ∨ a.getD (a.length - 1) 0 < v) : risesB (a ++ [v]) = true := by
  rw [risesB_iff] at h ⊢
  intro i hi
  rw [List.length_append, List.length_singleton] at hi
  rcases Nat.lt_or_ge (i + 1) a.length with h1 | h1
  · rw [getD_append_left (by omega), getD_append_left h1]; exact h i h1
  · obtain rfl | hv := hv
    · simp at hi h1
    · obtain rfl : i = a.length - 1 := by omega
      rw [show a.length - 1 + 1 = a.length by omega, getD_append_at, getD_append_left (by omega)]
      exact hv

theorem piece_append {z : List Int} {a b c : Nat} (h1 : a ≤ b) (h2 : b ≤ c) (hc : c ≤ z.length) : piece z a b ++ piece z b c = piece z a c := by
  unfold piece
  rw [show c - a = (b - a) + (c - b) by omega, List.take_add, List.drop_drop, show a + (b - a) = b by omega]
theorem piece_self (z : List Int) (a : Nat) : piece z a a = [] := by simp [piece]

/-- WHAT IS READ rises, and is put so again. -/
theorem rgo_once {z : List Int} (hby : ∀ x ∈ z, 0 ≤ x ∧ x < 256) : ∀ (N : Nat) (p : Int) (acc l : List Int) (p' : Int), 0 ≤ p → p ≤ z.length → risesB acc = true → (∀ x ∈ acc, 0 ≤ x ∧ x < 18446744073709551616) → rgo z N p acc = (l, p', 0, 0) →
    l.length = acc.length + N ∧ risesB l = true ∧ (∀ x ∈ l, 0 ≤ x ∧ x < 18446744073709551616) ∧ p ≤ p' ∧ p' ≤ z.length ∧ rz l = rz acc ++ piece z p.toNat p'.toNat
  | 0, p, acc, l, p', h0, h1, hr, hb, h => by
    unfold rgo at h
    injection h with h2 h3
    injection h3 with h3 _
    subst h2 h3
    exact ⟨rfl, hr, hb, Int.le_refl _, h1, by rw [piece_self, List.append_nil]⟩
  | N + 1, p, acc, l, p', h0, h1, hr, hb, h => by
    by_cases hg : (vgo (z.drop p.toNat) 0 0).2.2.1 = 0
    case neg =>
      rw [rgo_bad hg] at h
      injection h with _ h
      injection h with _ h
      injection h with h _
      exact absurd h hg
    have hd : ∀ x ∈ z.drop p.toNat, 0 ≤ x ∧ x < 256 := fun x hx => hby x (List.mem_of_mem_drop hx)
    obtain ⟨y, j, hj1, hj2, hj, hy, hy0, hy1, hvz, _⟩ := vgo_once (z.drop p.toNat) 0 0 hd (by omega) hg
    rw [Int.pow_zero, Int.mul_one, Int.zero_add] at hy
    rw [Int.pow_zero, Int.mul_one] at hy1
    rw [List.length_drop] at hj2
    have hp2 : p + (vgo (z.drop p.toNat) 0 0).2.1 = p + j := by rw [hj]; omega
    have hpc : vz y = piece z p.toNat (p + j).toNat := by rw [hvz]; unfold piece; congr 1; omega
    by_cases ha : acc = []
    · subst ha
      rw [rgo_first hg, hp2, hy] at h
      obtain ⟨a1, a2, a3, a4, a5, a6⟩ := rgo_once hby N (p + j) [y] l p' (by omega) (by omega) rfl (by intro x hx; simp at hx; subst hx; omega) h
      refine ⟨by rw [a1]; simp; omega, a2, a3, by omega, a5, ?_⟩
      rw [a6, show rz [y] = rz [] ++ vz (stp [y] 0) from rz_snoc [] y, show stp [y] 0 = y from rfl, hpc, List.append_assoc, piece_append (by omega) (by omega) (by omega)]
    · by_cases ho : 18446744073709551615 - acc.getD (acc.length - 1) 0 ≤ (vgo (z.drop p.toNat) 0 0).1
      · rw [rgo_over hg ha ho] at h
        injection h with _ h
        injection h with _ h
        injection h with h _
        exact absurd h (by decide)
      · rw [rgo_next hg ha ho, hp2, hy] at h
        rw [hy] at ho
        have hl : 0 < acc.length := List.length_pos_iff.2 ha
        have hlast := hb _ (getD_mem (z := acc) (k := acc.length - 1) (by omega))
        obtain ⟨a1, a2, a3, a4, a5, a6⟩ := rgo_once hby N (p + j) _ l p' (by omega) (by omega) (rises_snoc (v := acc.getD (acc.length - 1) 0 + y + 1) hr (.inr (by omega))) (by
          intro x hx
          rcases List.mem_append.1 hx with hx | hx
          · exact hb x hx
          · simp only [List.mem_singleton] at hx; subst hx; omega) h
        refine ⟨by rw [a1]; simp; omega, a2, a3, by omega, a5, ?_⟩
        rw [a6, rz_snoc, stp_snoc, if_neg ha, show acc.getD (acc.length - 1) 0 + y + 1 - acc.getD (acc.length - 1) 0 - 1 = y by omega, hpc, List.append_assoc, piece_append (by omega) (by omega) (by omega)]

theorem rzk_split (z : List Int) (k : Nat) : ∀ j, k ≤ j → ∃ t, rzk z j = rzk z k ++ t
  | 0, h => ⟨[], by obtain rfl : k = 0 := by omega
                    rw [List.append_nil]⟩
  | j + 1, h => by
    rcases Nat.lt_or_ge j k with h' | h'
    · obtain rfl : k = j + 1 := by omega
      exact ⟨[], by rw [List.append_nil]⟩
    · obtain ⟨t, ht⟩ := rzk_split z k j h'
      exact ⟨t ++ vz (stp z j), by rw [rzk, ht, List.append_assoc]⟩
/-- WHAT IS PUT IS READ, whatever stands behind. -/
theorem rgo_back {z : List Int} (rest : List Int) (hr : risesB z = true) (hby : ∀ x ∈ z, 0 ≤ x ∧ x < 18446744073709551616) : ∀ (d k : Nat), k + d = z.length → rgo (rz z ++ rest) d (rzk z k).length (z.take k) = (z, ((rz z).length : Int), 0, 0)
  | 0, k, h => by
    obtain rfl : k = z.length := by omega
    unfold rgo
    rw [List.take_length]
    rfl
  | d + 1, k, h => by
    have hk : k < z.length := by omega
    obtain ⟨s0, s1⟩ := stp_bd (n := z.length) rfl hk hby hr
    obtain ⟨t, ht⟩ := rzk_split z (k + 1) z.length (by omega)
    have hdrop : (rz z ++ rest).drop ((rzk z k).length : Int).toNat = vz (stp z k) ++ (t ++ rest) := by
      unfold rz
      rw [ht, rzk, Int.toNat_natCast, List.append_assoc, List.append_assoc, List.drop_append, List.drop_length, Nat.sub_self]
      simp
    have hv : vgo ((rz z ++ rest).drop ((rzk z k).length : Int).toNat) 0 0 = (stp z k, (vsz (stp z k) : Int), 0, 0) := by rw [hdrop]; exact vgo_put _ _ s0 s1
    have hp : ((rzk z k).length : Int) + vsz (stp z k) = ((rzk z (k + 1)).length : Int) := by rw [rzk_succ_len]; push_cast; rfl
    have ih := rgo_back rest hr hby d (k + 1) (by omega)
    have htk : z.take (k + 1) = z.take k ++ [z.getD k 0] := by
      rw [List.take_succ_eq_append_getElem hk, List.getD_eq_getElem?_getD, List.getElem?_eq_getElem hk]; rfl
    rw [htk] at ih
    have hlen : (z.take k).length = k := by rw [List.length_take]; omega
    by_cases h0 : k = 0
    · subst h0
      have hs : stp z 0 = z.getD 0 0 := by unfold stp; rw [if_pos rfl]
      rw [List.take_zero] at ih ⊢
      rw [List.nil_append] at ih
      rw [rgo_first (by rw [hv]), hv, hp, hs]
      exact ih
    · have hs : stp z k = z.getD k 0 - z.getD (k - 1) 0 - 1 := by unfold stp; rw [if_neg h0]
      have hg : (z.take k).getD ((z.take k).length - 1) 0 = z.getD (k - 1) 0 := by
        rw [hlen, List.getD_eq_getElem?_getD, List.getD_eq_getElem?_getD, List.getElem?_take_of_lt (by omega)]
      have hb1 := hby _ (getD_mem (z := z) (k := k) hk)
      rw [rgo_next (by rw [hv]) (fun e => by have := congrArg List.length e; rw [hlen] at this; simp at this; omega) (by rw [hv, hg, hs]; show ¬ _ ≤ z.getD k 0 - z.getD (k - 1) 0 - 1; omega), hv, hg, hp, hs]
      show rgo _ d _ (z.take k ++ [z.getD (k - 1) 0 + (z.getD k 0 - z.getD (k - 1) 0 - 1) + 1]) = _
      rw [show z.getD (k - 1) 0 + (z.getD k 0 - z.getD (k - 1) 0 - 1) + 1 = z.getD k 0 by omega]
      exact ih
theorem rz_byte {z : List Int} (hr : risesB z = true) (hby : ∀ x ∈ z, 0 ≤ x ∧ x < 18446744073709551616) : ∀ b ∈ rz z, 0 ≤ b ∧ b < 256 := by
  have : ∀ k, k ≤ z.length → ∀ b ∈ rzk z k, 0 ≤ b ∧ b < 256 := by
    intro k
    induction k with
    | zero => intro _ b hb; simp [rzk] at hb
    | succ k ih =>
      intro hk b hb
      rw [rzk] at hb
      obtain ⟨s0, s1⟩ := stp_bd (n := z.length) rfl (show k < z.length by omega) hby hr
      rcases List.mem_append.1 hb with hb | hb
      · exact ih (by omega) b hb
      · exact vz_byte _ s0 s1 b hb
  exact this _ (Nat.le_refl _)
theorem rgo_shape {z : List Int} : ∀ (N : Nat) (p : Int) (acc : List Int), (rgo z N p acc).2.2.1 = 0 → (rgo z N p acc).2.2.2 = 0
  | 0, _, _, _ => rfl
  | N + 1, p, acc, h => by
    by_cases hg : (vgo (z.drop p.toNat) 0 0).2.2.1 = 0
    · by_cases ha : acc = []
      · subst ha
        rw [rgo_first hg] at h ⊢
        exact rgo_shape N _ _ h
      · by_cases ho : 18446744073709551615 - acc.getD (acc.length - 1) 0 ≤ (vgo (z.drop p.toNat) 0 0).1
        · rw [rgo_over hg ha ho] at h
          exact absurd h (by show ¬ (13 : Int) = 0; decide)
        · rw [rgo_next hg ha ho] at h ⊢
          exact rgo_shape N _ _ h
    · rw [rgo_bad hg] at h
      exact absurd h hg
theorem RgSt.ok {n : Nat} {z : List Int} {p q : Int} {N : Nat} {l : List Int} {p' q' : Int} (h : RgSt n z p 0 q N l p' 0 q') : rgo z N p [] = (l, p', 0, 0) := by
  obtain ⟨_, _, ⟨h, _⟩ | ⟨_, h1, h2, h3, _⟩ | ⟨_, h1, _, h2, _⟩⟩ := h
  · exact absurd rfl h
  · have h4 := rgo_shape _ _ _ h1
    rw [h2, h3]
    refine Prod.ext rfl (Prod.ext rfl (Prod.ext h1 h4))
  · exact absurd h2.symm h1
theorem rzk_len_ge (z : List Int) (k : Nat) : k ≤ (rzk z k).length := by
  induction k with
  | zero => omega
  | succ k ih => rw [rzk_succ_len]; have := vsz_pos (stp z k); omega
/-- What was read without a fault. -/
theorem RgSt.once {n : Nat} {z : List Int} {p q : Int} {N : Nat} {l : List Int} {p' q' : Int} (h : RgSt n z p 0 q N l p' 0 q') (hz : z.length = n) (hby : ∀ x ∈ z, 0 ≤ x ∧ x < 256) (h0 : 0 ≤ p) (h1 : p ≤ n) :
    l.length = N ∧ risesB l = true ∧ p ≤ p' ∧ p' ≤ n ∧ rz l = piece z p.toNat p'.toNat ∧ (l.length : Int) ≤ p' - p := by
  obtain ⟨a1, a2, _, a4, a5, a6⟩ := rgo_once hby N p [] l p' h0 (by rw [hz]; exact h1) rfl (by simp) h.ok
  rw [show rz [] = [] from rfl, List.nil_append] at a6
  refine ⟨by simpa using a1, a2, a4, by rw [← hz]; exact a5, a6, ?_⟩
  have := rzk_len_ge l l.length
  rw [show rzk l l.length = rz l from rfl, a6, length_piece (n := n) hz (by omega)] at this
  omega
/-- Without a fault there is a list, else there is none. -/
theorem RgSt.nil {n : Nat} {z : List Int} {p c q : Int} {N : Nat} {l : List Int} {p' c' q' : Int} (h : RgSt n z p c q N l p' c' q') (hc : c' ≠ 0) : l = [] := by
  obtain ⟨_, _, ⟨_, h1, _⟩ | ⟨_, _, _, _, h1, _⟩ | ⟨_, _, h1, _⟩⟩ := h
  · exact h1
  · exact absurd h1 hc
  · exact h1
end Go.Proofs.Ytkedmhopajpkhaa.Cur
