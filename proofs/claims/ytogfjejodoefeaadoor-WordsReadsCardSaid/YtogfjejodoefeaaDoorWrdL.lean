/- Words of bytes, there and back. -/
import Derived.Test.YtogfjejodoefeaaDoorWrdK
namespace Go.Proofs.YtogfjejodoefeaaDoor.Cur
open Go.RowKit Mem
set_option linter.unusedVariables false
set_option maxRecDepth 100000

theorem bt_lt (s : ByteArray) (i : Nat) : bt s i < 256 := UInt8.toNat_lt _
theorem hz_of_row {s : ByteArray} {n : Nat} (hn : s.size = 2 * n) (hg : good s s.size) : ∀ k, k ≤ n → hz (hrow s s.size) k = (List.range (2 * k)).map fun i => (bt s i : Int)
  | 0, _ => rfl
  | k + 1, hk => by
    have h0 := hg (2 * k) (by omega)
    have h1 := hg (2 * k + 1) (by omega)
    obtain ⟨a0, a1, a2⟩ := (dg_bd h0.1).resolve_left (by omega)
    obtain ⟨b0, b1, b2⟩ := (dg_bd h1.1).resolve_left (by omega)
    have hc : (hrow s s.size).getD k 0 = 16 * dg (bt s (2 * k)) + dg (bt s (2 * k + 1)) := by
      rw [List.getD_eq_getElem?_getD, hrow_at s s.size k (by omega)]
      show hcell s s.size k = _
      unfold hcell
      rw [if_pos (by omega)]
    unfold hz
    rw [hz_of_row hn hg k (by omega), hc, show (16 * dg (bt s (2 * k)) + dg (bt s (2 * k + 1))).toNat / 16 = (dg (bt s (2 * k))).toNat by omega,
      show (16 * dg (bt s (2 * k)) + dg (bt s (2 * k + 1))).toNat % 16 = (dg (bt s (2 * k + 1))).toNat by omega, a2, b2, show 2 * (k + 1) = 2 * k + 1 + 1 by omega, List.range_succ, List.range_succ]
    simp
theorem b8_bt (s : ByteArray) (i : Nat) : b8 (bt s i : Int) = s.data.getD i 0 := by
  unfold b8 bt
  rw [Int.toNat_natCast]
  exact UInt8.ofNat_toNat
/-- What is read is the word. -/
theorem uhx_once (s : ByteArray) : ((uhx s).2 = true → hxw (uhx s).1 = s) ∧ ((uhx s).2 = false → (uhx s).1 = []) ∧ ∀ x ∈ (uhx s).1, 0 ≤ x ∧ x < 256 := by
  unfold uhx
  by_cases h1 : s = ⟨#[45]⟩
  · rw [if_pos h1]
    exact ⟨fun _ => by rw [h1]; rfl, fun h => absurd h (by decide), fun x hx => absurd hx (by simp)⟩
  · rw [if_neg h1]
    by_cases h2 : s.size = 0 ∨ s.size % 2 = 1 ∨ ¬ good s s.size
    · rw [if_pos h2]
      exact ⟨fun h => absurd h (by decide), fun _ => rfl, fun x hx => absurd hx (by simp)⟩
    · rw [if_neg h2]
      have hg : good s s.size := by
        by_cases e : good s s.size
        · exact e
        · exact absurd (.inr (.inr e)) h2
      have h0 : s.size ≠ 0 := fun e => h2 (.inl e)
      have hr : ¬ s.size % 2 = 1 := fun e => h2 (.inr (.inl e))
      obtain ⟨n, hn⟩ : ∃ n, s.size = 2 * n := ⟨s.size / 2, by omega⟩
      refine ⟨fun _ => ?_, fun h => Bool.noConfusion h, fun x hx => ?_⟩
      · have hne : hrow s s.size ≠ [] := fun e => by
          have := congrArg List.length e
          rw [hrow_len] at this
          simp at this
          omega
        show hxw (hrow s s.size) = s
        unfold hxw
        rw [if_neg hne, hrow_len, hz_of_row hn hg _ (by omega)]
        unfold txt
        apply ByteArray.ext
        apply Array.ext
        · simp
          show _ = s.size
          omega
        · intro i i1 i2
          simp only [List.getElem_toArray, List.getElem_map, List.getElem_range, b8_bt]
          rw [Array.getD_eq_getD_getElem?, Array.getElem?_eq_getElem i2]
          rfl
      · obtain ⟨k, hk, rfl⟩ := List.mem_map.1 (show x ∈ (List.range (s.size / 2)).map (hcell s s.size) from hx)
        have hk := List.mem_range.1 hk
        have h0 := hg (2 * k) (by omega)
        have h1 := hg (2 * k + 1) (by omega)
        obtain ⟨a0, a1, a2⟩ := (dg_bd h0.1).resolve_left (by omega)
        obtain ⟨b0, b1, b2⟩ := (dg_bd h1.1).resolve_left (by omega)
        unfold hcell
        rw [if_pos (by omega)]
        omega
theorem hz_get (z : List Int) : ∀ n k, k < n → (hz z n)[2 * k]? = some (sgn ((z.getD k 0).toNat / 16)) ∧ (hz z n)[2 * k + 1]? = some (sgn ((z.getD k 0).toNat % 16))
  | 0, k, h => absurd h (by omega)
  | n + 1, k, h => by
    have hl := hz_len z n
    unfold hz
    by_cases e : k = n
    · subst e
      rw [List.getElem?_append_right (by omega), List.getElem?_append_right (by omega), hl, Nat.sub_self, show 2 * k + 1 - 2 * k = 1 by omega]
      exact ⟨rfl, rfl⟩
    · rw [List.getElem?_append_left (by omega), List.getElem?_append_left (by omega)]
      exact hz_get z n k (by omega)
theorem bt_txt {l : List Int} {i : Nat} {x : Int} (h : l[i]? = some x) (hx : 0 ≤ x ∧ x < 256) : bt (txt l) i = x.toNat := by
  unfold bt txt
  rw [Array.getD_eq_getD_getElem?]
  simp only [List.getElem?_toArray, List.getElem?_map, h, Option.map_some, Option.getD_some]
  have := b8_nat hx.1 hx.2
  omega
/-- What is told is read. -/
theorem uhx_back {z : List Int} (hby : ∀ x ∈ z, 0 ≤ x ∧ x < 256) : uhx (hxw z) = (z, true) := by
  by_cases hz0 : z = []
  · subst hz0
    have e : hxw [] = ⟨#[45]⟩ := by unfold hxw; rw [if_pos rfl]; rfl
    unfold uhx
    rw [if_pos e]
  · have hsz : (hxw z).size = 2 * z.length := by
      unfold hxw txt
      rw [if_neg hz0]
      show (List.map b8 (hz z z.length)).toArray.size = _
      simp [hz_len]
    have hpos : 0 < z.length := List.length_pos_iff.2 hz0
    have hb : ∀ k, k < z.length → 0 ≤ z.getD k 0 ∧ z.getD k 0 < 256 := fun k hk => hby _ (getD_mem hk)
    have hbt : ∀ k, k < z.length → bt (hxw z) (2 * k) = (sgn ((z.getD k 0).toNat / 16)).toNat ∧ bt (hxw z) (2 * k + 1) = (sgn ((z.getD k 0).toNat % 16)).toNat := fun k hk => by
      have hbk := hb k hk
      obtain ⟨g1, g2⟩ := hz_get z z.length k hk
      have e : hxw z = txt (hz z z.length) := by unfold hxw; rw [if_neg hz0]
      rw [e]
      exact ⟨bt_txt g1 (sgn_bd (by omega)), bt_txt g2 (sgn_bd (by omega))⟩
    have hdg : ∀ d, d < 16 → (sgn d).toNat < 128 ∧ dg (sgn d).toNat = (d : Int) := fun d hd => ⟨by unfold sgn; split <;> omega, dg_sgn ⟨d, hd⟩⟩
    have hgood : good (hxw z) (hxw z).size := fun i hi => by
      rw [hsz] at hi
      obtain ⟨k, hk⟩ : ∃ k, i = 2 * k ∨ i = 2 * k + 1 := ⟨i / 2, by omega⟩
      have hkl : k < z.length := by omega
      have hbk := hb k hkl
      obtain ⟨e1, e2⟩ := hbt k hkl
      rcases hk with rfl | rfl
      · rw [e1]
        obtain ⟨d1, d2⟩ := hdg ((z.getD k 0).toNat / 16) (by omega)
        exact ⟨d1, by rw [d2]; omega⟩
      · rw [e2]
        obtain ⟨d1, d2⟩ := hdg ((z.getD k 0).toNat % 16) (by omega)
        exact ⟨d1, by rw [d2]; omega⟩
    unfold uhx
    rw [if_neg (fun e => by rw [e] at hsz; have : (⟨#[45]⟩ : ByteArray).size = 1 := rfl; omega), if_neg (fun h => by rcases h with h | h | h; omega; omega; exact h hgood)]
    have : hrow (hxw z) (hxw z).size = z := by
      apply List.ext_getElem?
      intro k
      by_cases hk : k < z.length
      · rw [hrow_at _ _ k (by omega), List.getElem?_eq_getElem hk]
        unfold hcell
        rw [if_pos (by omega)]
        obtain ⟨e1, e2⟩ := hbt k hk
        have hbk := hb k hk
        rw [e1, e2, (hdg _ (by omega)).2, (hdg _ (by omega)).2]
        have hg : z.getD k 0 = z[k] := by rw [List.getD_eq_getElem?_getD, List.getElem?_eq_getElem hk]; rfl
        rw [← hg]
        congr 1
        omega
      · rw [List.getElem?_eq_none (by rw [hrow_len]; omega), List.getElem?_eq_none (by omega)]
    rw [this]
theorem lword_eq {l m : List Int} (hl : u64s l) (hm : u64s m) (h : lword l = lword m) : l = m := by
  have key : ∀ l : List Int, l ≠ [] → lword l ≠ ⟨#[45]⟩ := fun l hl0 e => by
    have := lword_cm l hl0
    rw [e] at this
    cases l with
    | nil => exact hl0 rfl
    | cons x l =>
      have e2 : cm (dcs (x :: l)) = Lib.decDigits x.toNat ++ [44] ++ cm (dcs l) := by simp [cm, dcs]
      rw [e2] at this
      have hp := dec_ascii x.toNat
      have hpos : 1 ≤ (Lib.decDigits x.toNat).length := by rw [Lib.decDigits_length]; exact Lib.nDigits_pos _
      cases hd : Lib.decDigits x.toNat with
      | nil => rw [hd] at hpos; simp at hpos
      | cons c r =>
        rw [hd] at this hp
        simp at this
        have h45 := hp c (List.mem_cons_self ..)
        rw [← this.1] at h45
        exact absurd h45.1 (by decide)
  by_cases h0 : l = []
  · subst h0
    by_cases h1 : m = []
    · exact h1.symm
    · exact absurd h.symm (key m h1)
  · by_cases h1 : m = []
    · subst h1; exact absurd h (key l h0)
    · have e1 := lword_cm l h0
      rw [h, lword_cm m h1] at e1
      obtain ⟨R, e2, e3⟩ := part_all (P := dcs l) (Q := dcs m) (r := []) (dcs_free l) (dcs_free m) (by rw [List.append_nil, e1])
      have : R = [] := by
        cases R with
        | nil => rfl
        | cons r R => simp [cm] at e3
      subst this
      rw [List.append_nil] at e2
      exact lword_inj hl hm e2.symm
theorem uhx_len (s : ByteArray) : (uhx s).1.length ≤ s.size := by
  unfold uhx
  split
  · exact Nat.zero_le _
  · split
    · exact Nat.zero_le _
    · show (hrow s s.size).length ≤ _
      rw [hrow_len]; omega
theorem cm_dcs_len (l : List Int) : 2 * l.length ≤ (cm (dcs l)).length := by
  induction l with
  | nil => exact Nat.zero_le _
  | cons x l ih =>
    have e2 : cm (dcs (x :: l)) = Lib.decDigits x.toNat ++ [44] ++ cm (dcs l) := by simp [cm, dcs]
    have hpos : 1 ≤ (Lib.decDigits x.toNat).length := by rw [Lib.decDigits_length]; exact Lib.nDigits_pos _
    rw [e2, List.length_append, List.length_append, List.length_cons]
    simp only [List.length_cons, List.length_nil]
    omega
theorem lword_len (l : List Int) : l.length ≤ (lword l).size := by
  by_cases h : l = []
  · subst h; exact Nat.zero_le _
  · have h1 := congrArg List.length (lword_cm l h)
    have h2 := cm_dcs_len l
    have h3 := List.length_pos_iff.2 h
    rw [List.length_append, blist_len] at h1
    simp only [List.length_cons, List.length_nil] at h1
    omega
/-- What ReadNum and ReadInt answer. -/
theorem rnv_cases (s : ByteArray) : ∃ (X : Int) (ab : Bool), rnv s = .tuple #[.int .u64 X, .bool ab] ∧ 0 ≤ X ∧ X < 18446744073709551616 ∧ (ab = true → su (Lib.decDigits X.toNat) = s) ∧ (ab = false → X = 0) ∧
    ∀ m, (ab = true → 0 ≤ m → X ≤ m → rniv s m = .tuple #[.int .i64 X, .bool true]) ∧ (¬ (ab = true ∧ 0 ≤ m ∧ X ≤ m) → rniv s m = .tuple #[.int .i64 0, .bool false]) := by
  obtain ⟨x0, x1⟩ := rnx_bd s s.size 0 0 (by omega) (by omega)
  by_cases hd : su (Lib.decDigits (rnx s s.size 0 0).toNat) = s
  · refine ⟨rnx s s.size 0 0, true, by unfold rnv; rw [if_pos hd], x0, x1, fun _ => hd, fun h => Bool.noConfusion h, fun m => ⟨fun _ h1 h2 => ?_, fun h => ?_⟩⟩
    · unfold rniv; rw [if_pos ⟨hd, h1, h2⟩]
    · unfold rniv; rw [if_neg (fun hh => h ⟨rfl, hh.2.1, hh.2.2⟩)]
  · refine ⟨0, false, by unfold rnv; rw [if_neg hd], by omega, by omega, fun h => Bool.noConfusion h, fun _ => rfl, fun m => ⟨fun h => Bool.noConfusion h, fun _ => ?_⟩⟩
    unfold rniv; rw [if_neg (fun hh => hd hh.1)]
end Go.Proofs.YtogfjejodoefeaaDoor.Cur
