/- Stripes read by the program: sets, one behind the other. -/
import Derived.Test.YtghlediibhnloaaStpH
namespace Go.Proofs.Ytghlediibhnloaa.Cur
open Go.RowKit Mem
set_option linter.unusedVariables false
set_option maxRecDepth 100000


theorem apB_iff (S : List (List Int)) : apB S = true ↔ ∀ i, i < S.length → tw (S.take i) (S.getD i []) = false := by
  constructor
  · intro h i hi
    cases e : tw (S.take i) (S.getD i []) with
    | false => rfl
    | true => rw [apB_no hi e] at h; cases h
  · exact apB_yes
theorem apB_snoc (S : List (List Int)) (l : List Int) : apB (S ++ [l]) = (apB S && !tw S l) := by
  rw [Bool.eq_iff_iff, Bool.and_eq_true, apB_iff, apB_iff, List.length_append, List.length_singleton]
  constructor
  · intro h
    refine ⟨fun i hi => ?_, ?_⟩
    · have := h i (by omega)
      rwa [List.take_append_of_le_length (by omega), List.getD_eq_getElem?_getD, List.getElem?_append_left hi, ← List.getD_eq_getElem?_getD] at this
    · have := h S.length (by omega)
      rw [List.take_append_of_le_length (Nat.le_refl _), List.take_length, List.getD_eq_getElem?_getD, List.getElem?_append_right (Nat.le_refl _), Nat.sub_self] at this
      have h2 : tw S l = false := this
      rw [h2]; rfl
  · rintro ⟨h1, h2⟩ i hi
    rcases Nat.lt_or_ge i S.length with h3 | h3
    · rw [List.take_append_of_le_length (by omega), List.getD_eq_getElem?_getD, List.getElem?_append_left h3, ← List.getD_eq_getElem?_getD]
      exact h1 i h3
    · obtain rfl : i = S.length := by omega
      rw [List.take_append_of_le_length (Nat.le_refl _), List.take_length, List.getD_eq_getElem?_getD, List.getElem?_append_right (Nat.le_refl _), Nat.sub_self]
      show tw S l = false
      simpa using h2
theorem stl_fin {n : Nat} {S : List (List Int)} {l : List Int} {p1 p2 c2 q2 c' q' : Int} (hc : c2 = 0 → risesB l = true ∧ 1 ≤ l.length ∧ apB S = true) (hl : c2 ≠ 0 → l = []) (p20 : 0 ≤ p2) (p21 : p2 ≤ n)
    (hx : (ndb l = false ∧ FailSt c2 q2 3 p1 c' q') ∨ (ndb l = true ∧ apB (S ++ [l]) = false ∧ FailSt c2 q2 13 p1 c' q') ∨ (ndb l = true ∧ apB (S ++ [l]) = true ∧ c' = c2 ∧ q' = q2)) :
    St [] n (if 4294967296 ≤ l.getD (l.length - 1) 0 then (([] : List Int), (0 : Int), (3 : Int), p1) else if tw S l then ([], 0, 13, p1) else (l, p2, 0, 0)) p2 c2 q2 (if c' = 0 then l else []) p2 c' q' := by
  by_cases hc2 : c2 = 0
  · obtain ⟨h1, h2, h3⟩ := hc hc2
    have hnd := ndb_last h1 h2
    rcases hx with ⟨a, b⟩ | ⟨a, b, d⟩ | ⟨a, b, d, e⟩
    · have hb := b
      rcases hb with ⟨_, rfl, rfl⟩ | ⟨h, _⟩
      · rw [a] at hnd
        rw [if_neg (show ¬ (3 : Int) = 0 by decide)]
        have h4 : 4294967296 ≤ l.getD (l.length - 1) 0 := by
          have := of_decide_eq_false hnd.symm
          omega
        exact St.fail (by rw [if_pos h4]) (by decide) p20 p21 b
      · exact absurd hc2 h
    · have hb := d
      rcases hb with ⟨_, rfl, rfl⟩ | ⟨h, _⟩
      · rw [a] at hnd
        rw [if_neg (show ¬ (13 : Int) = 0 by decide)]
        have h4 : ¬ 4294967296 ≤ l.getD (l.length - 1) 0 := by
          have := of_decide_eq_true hnd.symm
          omega
        have h5 : tw S l = true := by rw [apB_snoc, h3] at b; simpa using b
        exact St.fail (by rw [if_neg h4, if_pos h5]) (by decide) p20 p21 d
      · exact absurd hc2 h
    · subst d e hc2
      rw [if_pos rfl]
      rw [a] at hnd
      have h4 : ¬ 4294967296 ≤ l.getD (l.length - 1) 0 := by
        have := of_decide_eq_true hnd.symm
        omega
      have h5 : tw S l = false := by rw [apB_snoc, h3] at b; simpa using b
      exact St.done (by rw [if_neg h4, h5]; rfl) p20 p21
  · have hs : c' = c2 ∧ q' = q2 := by
      rcases hx with ⟨a, b⟩ | ⟨a, b, d⟩ | ⟨a, b, d, e⟩
      · rcases b with ⟨h, _⟩ | ⟨_, h1, h2⟩
        · exact absurd h hc2
        · exact ⟨h1, h2⟩
      · rcases d with ⟨h, _⟩ | ⟨_, h1, h2⟩
        · exact absurd h hc2
        · exact ⟨h1, h2⟩
      · exact ⟨d, e⟩
    obtain ⟨rfl, rfl⟩ := hs
    rw [if_neg hc2]
    exact St.stay p20 p21 hc2

def SetPost (B b : Nat) (s : Value) (n : Nat) (z : List Int) (S : List (List Int)) (v : Value) (p c q : Int) (w : World) (e : Ending) (w' : World) : Prop :=
  ∃ v' l p' c' q', e = .returned v' ∧ Ks (fun k => k = b ∨ v.ownBlock = some k) w w' ∧ IsRd w' b s p' c' q' ∧ OwnSts w' B v' (S ++ [l]) ∧ l.length ≤ 8 ∧ (∀ x ∈ l, 0 ≤ x ∧ x < 18446744073709551616) ∧ St [] n (stl z S p) p c q (if c' = 0 then l else []) p' c' q'

set_option maxHeartbeats 4000000 in
theorem sset_any (B b : Nat) (a : Option Addr) (n m : Nat) (z : List Int) (S : List (List Int)) (v : Value) (p c q : Int) (w : World) (h : IsRd w b (.slice a n m) p c q) (hz : Bs w a n z) (h0 : 0 ≤ p) (h1 : p ≤ n) (hn : n ≤ 100000) (hby : ∀ x ∈ z, 0 ≤ x ∧ x < 256)
    (ho : OwnSts w B v S) (hbB : b < B) (hBw : B ≤ w.heap.size) (hle : ∀ l ∈ S, l.length ≤ 8) (hSl : S.length ≤ 100) (hap : c = 0 → apB S = true) :
    Calls Try.prog 97 #[.pointer (some ⟨b, 0, none⟩), v] w (SetPost B b (.slice a n m) n z S v p c q w) := by
  have HBY := Lib.hid hby
  have HAP := Lib.hid hap
  have HLE := Lib.hid hle
  have HZL := Lib.hid hz.1
  clear hby hap hle
  obtain ⟨Av, cv, rfl, _⟩ := ho.sts
  go_enter Try.func97, Try.ntmps97
  go_wp2_with fail
  refine (snum_any b a n m z p c q 8 w h hz h0 h1 hn HBY.out (by omega)).mono ?_
  rintro e w1 ⟨k, p1, c1, q1, rfl, hk1, hr1, hs1⟩
  obtain ⟨p10, p11⟩ := hs1.place
  obtain ⟨k0, k8, k1⟩ := mny_bd hs1 hz.1 h0 h1 HBY.out
  have HS1 := Lib.hid hs1
  have hz1 := hz.kp h (by simp) hk1
  have ho1 := ho.kp hk1 hbB
  have HK1 := Lib.hid k1
  clear hs1 k1 hz ho h
  go_wp2_with fail
  refine (at_any b _ p1 c1 q1 w1 hr1).mono ?_
  rintro e w' ⟨rfl, rfl⟩
  go_wp2_with fail
  refine (rrising_any b a n m z p1 c1 q1 k w1 hr1 hz1 p10 p11 hn HBY.out).mono ?_
  rintro e w2 ⟨v2, l, p2, c2, q2, rfl, ho2, hk2, hr2, hs2, hlb⟩
  have hl8 := rg_len hs2 HZL.out p10 p11 HBY.out
  have HS2 := Lib.hid hs2.st
  have HP2 := Lib.hid hs2.st.place
  have HLN := Lib.hid (fun (hc : c2 ≠ 0) => hs2.nil hc)
  have HCC : Hid (c2 = 0 → risesB l = true ∧ 1 ≤ l.length ∧ apB S = true) := Lib.hid fun hc => by
    obtain ⟨e1, e2⟩ := hl8.2 hc
    have g1 := hs2.st
    rw [hc] at g1
    obtain ⟨hc1, _⟩ := St.good g1
    have g2 := HS1.out
    rw [hc1] at g2
    obtain ⟨hc0, _⟩ := St.good g2
    have := HK1.out hc1
    exact ⟨e2, by omega, HAP.out hc0⟩
  have hlen : l.length ≤ 8 := by have := hl8.1; omega
  have HLB := Lib.hid hlb
  have ho1' := ho1.kp hk2 hbB
  have hsz1 := hk1.size
  have hK12 := hk1.trans hk2
  obtain ⟨A2, m2, rfl⟩ := ho2.slice
  have hX := Blk.new w2 #[.slice A2 l.length m2] 101
  have hbX := below_one w2 (.cells #[.slice A2 l.length m2] 101)
  have hrwX := rw_new w2 [.slice A2 l.length m2] 101
  have hr3 := hr2.below hbX
  have hoS := ho1'.below hbX
  have hoL := own_below ho2 hbX
  have hltv := ho1.lt
  have hel := (SlE U64E).mono (OwnU.el (w := w2.alloc (.cells #[.slice A2 l.length m2] 101)) hoL hlb) (Q := fun k => B ≤ k ∧ (Value.slice Av S.length cv).ownBlock ≠ some k) (fun g hg _ => by
    have h1 := own_ge ho2 g hg
    exact ⟨by omega, fun e => by have := hltv g e; omega⟩)
  obtain ⟨cs, g1, g2', g3⟩ := hoS
  have g2 : (w2.alloc (.cells #[.slice A2 l.length m2] 101)).ownsRow B 101 1 (.slice Av S.length cv) S.length cs.flatten := g2'
  clear g2'
  have hge2 := own_ge g2
  have hlt2 := hltv
  have HL1 : Hid (S.length + 1 ≤ 1000000) := Lib.hid (by omega)
  have hB2 : B ≤ (w2.alloc (.cells #[.slice A2 l.length m2] 101)).heap.size := by have := hk2.size; simp; omega
  have HKX : Hid (Ks (fun k => k = b ∨ (Value.slice Av S.length cv).ownBlock = some k) w (w2.alloc (.cells #[.slice A2 l.length m2] 101))) := Lib.hid ((Ks.of_kp hK12 (.inl rfl)).trans (Ks.of_below hbX))
  have hge3 := own_ge ho2
  clear hs2 hl8 hlb hk1 hk2 hK12 hr1 hr2 hz1 ho1 ho1' hX hbX k8 k0
  go_wp2_with (at_builtin; go_must (refine list_append_rw kindSU rfl (.tmp 15) (.tmp 17) rfl B _ _ _ rfl g2 _ 1 _ [.slice A2 l.length m2] rfl rfl hrwX (by simp) (by simp [Value.oneCell']) HL1.out (by omega) hB2 ?_; intro v' w4 ho4 hg4 hgr4; have H4 := Lib.hid (OwnSts.snoc g1 g3 hel ho4 hg4 hgr4); have HG := Lib.hid (HKX.out.trans (Ks.of_grown hg4 fun k e => .inr e)); have hr4 := rd_grown hr3 hg4 (fun e => by have := hge2 b e; omega); have hoL4 : OwnU w4 w1.heap.size (.slice A2 l.length m2) l := own_ks hoL (Ks.of_grown (S := fun k => (Value.slice Av S.length cv).ownBlock = some k) hg4 (fun k e => e)) (fun g hg e => by have := hge3 g hg; have := hlt2 g e; omega); clear g1 g2 g3 hel ho4 hg4 hgr4 hrwX hr3 hoL hge2 hge3 hlt2 hltv hB2))
  obtain ⟨A4, c4, rfl, hle4, hnil4, hst4⟩ := H4.out.sts
  obtain ⟨_, _, _, hus4⟩ := OwnU.us hoL4
  have hncon := arenodes_any A2 l.length m2 l w4 hus4 (by omega)
  have hacon := fun w' (hk : Kp b w4 w') => apart_any _ A4 _ c4 (S ++ [l]) w' (hst4.keep fun g hg hlt => hk.block g hlt (by omega)) hle4 (by rw [List.length_append]; simp; omega) (fun x hx => by
    rcases List.mem_append.1 hx with hx | hx
    · have := HLE.out x hx; omega
    · rw [List.mem_singleton] at hx; subst hx; omega)
  unfold BPost at hncon hacon
  have hSl1 : (S ++ [l]).length = S.length + 1 := by simp
  rw [hSl1] at hacon H4
  have HACON := Lib.hid hacon
  have HEND : Hid (OwnSts w4 B (.slice A4 (S.length + 1) c4) (S ++ [l])) := H4
  clear hst4 hoL4 hacon hSl1 hus4 hle4 hnil4
  obtain ⟨nv, hnv⟩ : ∃ nv, nv = ndb l := ⟨_, rfl⟩
  obtain ⟨av, hav⟩ : ∃ av, av = apB (S ++ [l]) := ⟨_, rfl⟩
  rw [← hnv] at hncon
  rw [← hav] at HACON
  have HN := Lib.hid hnv
  have HA := Lib.hid hav
  clear hnv hav
  have e9 : ((S.length + 1 : Nat) : Int) = (S.length : Int) + 1 := by omega
  go_wp2_with fail
  refine hncon.mono ?_
  rintro e w5 ⟨rfl, hb5⟩
  have hr5 := hr4.below hb5
  have hk5 : Kp b w4 w5 := Kp.of_below hb5
  clear hncon hb5 hr4
  cases nv
  · go_wp2_with fail
    refine (fail_any _ _ _ _ _ 3 p1 _ hr5).mono ?_
    rintro e w6 ⟨c6, q6, rfl, hk6, hr6, hf6⟩
    have hk6' := hk5.trans hk6
    have hc6 : c6 ≠ 0 := by
      rcases hf6 with ⟨_, rfl, _⟩ | ⟨h, rfl, _⟩
      · decide
      · exact h
    have HF6 := Lib.hid hf6
    have HC6 := Lib.hid hc6
    have hacon := HACON.out w6 hk6'
    clear hk5 hk6 hr5 hf6 hc6
    go_wp2_with fail
    refine hacon.mono ?_
    rintro e w7 ⟨rfl, hb7⟩
    have hr7 := hr6.below hb7
    have hk7 := hk6'.trans (Kp.of_below (b := b) hb7)
    clear hacon hb7 hr6 hk6'
    have HFIN := Lib.hid (HS1.out.bind (f := fun m p1 => (rg z m.toNat p1).bind [] fun l p2 => if 4294967296 ≤ l.getD (l.length - 1) 0 then ([], 0, 3, p1) else if tw S l then ([], 0, 13, p1) else (l, p2, 0, 0)) (HS2.out.bind (f := fun l p2 => if 4294967296 ≤ l.getD (l.length - 1) 0 then ([], 0, 3, p1) else if tw S l then ([], 0, 13, p1) else (l, p2, 0, 0)) (stl_fin HCC.out HLN.out HP2.out.1 HP2.out.2 (.inl ⟨HN.out.symm, HF6.out⟩))))
    cases av
    · go_wp2_with fail
      refine (fail_any _ _ _ _ _ 13 p1 _ hr7).mono ?_
      rintro e w8 ⟨c8, q8, rfl, hk8, hr8, hf8⟩
      have hcq : c8 = c6 ∧ q8 = q6 := by
        rcases hf8 with ⟨h, _⟩ | ⟨_, h1, h2⟩
        · exact absurd h HC6.out
        · exact ⟨h1, h2⟩
      obtain ⟨rfl, rfl⟩ := hcq
      have HK8 := Lib.hid (hk7.trans hk8)
      clear hf8 hk7 hk8
      go_wp2
      go_ret
      exact ⟨_, l, p2, _, _, rfl, HG.out.trans (Ks.of_kp HK8.out (.inl rfl)), hr8, HEND.out.kp HK8.out hbB, hlen, HLB.out, HFIN.out⟩
    · have HK7 := Lib.hid hk7
      clear hk7
      go_wp2
      go_ret
      exact ⟨_, l, p2, _, _, rfl, HG.out.trans (Ks.of_kp HK7.out (.inl rfl)), hr7, HEND.out.kp HK7.out hbB, hlen, HLB.out, HFIN.out⟩
  · have hacon := HACON.out w5 hk5
    go_wp2_with fail
    refine hacon.mono ?_
    rintro e w7 ⟨rfl, hb7⟩
    have hr7 := hr5.below hb7
    have hk7 := hk5.trans (Kp.of_below (b := b) hb7)
    clear hacon hb7 hr5 hk5
    cases av
    · go_wp2_with fail
      refine (fail_any _ _ _ _ _ 13 p1 _ hr7).mono ?_
      rintro e w8 ⟨c8, q8, rfl, hk8, hr8, hf8⟩
      have HFIN := Lib.hid (HS1.out.bind (f := fun m p1 => (rg z m.toNat p1).bind [] fun l p2 => if 4294967296 ≤ l.getD (l.length - 1) 0 then ([], 0, 3, p1) else if tw S l then ([], 0, 13, p1) else (l, p2, 0, 0)) (HS2.out.bind (f := fun l p2 => if 4294967296 ≤ l.getD (l.length - 1) 0 then ([], 0, 3, p1) else if tw S l then ([], 0, 13, p1) else (l, p2, 0, 0)) (stl_fin HCC.out HLN.out HP2.out.1 HP2.out.2 (.inr (.inl ⟨HN.out.symm, HA.out.symm, hf8⟩)))))
      have HK8 := Lib.hid (hk7.trans hk8)
      clear hf8 hk7 hk8
      go_wp2
      go_ret
      exact ⟨_, l, p2, _, _, rfl, HG.out.trans (Ks.of_kp HK8.out (.inl rfl)), hr8, HEND.out.kp HK8.out hbB, hlen, HLB.out, HFIN.out⟩
    · have HFIN := Lib.hid (HS1.out.bind (f := fun m p1 => (rg z m.toNat p1).bind [] fun l p2 => if 4294967296 ≤ l.getD (l.length - 1) 0 then ([], 0, 3, p1) else if tw S l then ([], 0, 13, p1) else (l, p2, 0, 0)) (HS2.out.bind (f := fun l p2 => if 4294967296 ≤ l.getD (l.length - 1) 0 then ([], 0, 3, p1) else if tw S l then ([], 0, 13, p1) else (l, p2, 0, 0)) (stl_fin HCC.out HLN.out HP2.out.1 HP2.out.2 (.inr (.inr ⟨HN.out.symm, HA.out.symm, rfl, rfl⟩)))))
      have HK7 := Lib.hid hk7
      clear hk7
      go_wp2
      go_ret
      exact ⟨_, l, p2, _, _, rfl, HG.out.trans (Ks.of_kp HK7.out (.inl rfl)), hr7, HEND.out.kp HK7.out hbB, hlen, HLB.out, HFIN.out⟩
end Go.Proofs.Ytghlediibhnloaa.Cur
