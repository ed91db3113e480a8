/- Words of numbers, there and back: what ReadNum makes of a number's word; texts in pieces between commas. -/
import Derived.Test.YtogfjejodoefeaaDoorWrdI
namespace Go.Proofs.YtogfjejodoefeaaDoor.Cur
open Go.RowKit Mem
set_option linter.unusedVariables false
set_option maxRecDepth 100000

/-- All bytes of a sign that is read as one are no ASCII sign. -/
theorem decode_span (s : ByteArray) (p k : Nat) (hp : p < s.size) (h : 128 ≤ bt s p) (hk : k < (Utf8.decode s p).2) : 128 ≤ bt s (p + k) := by
  have hg : ∀ i, (s.get! i).toNat = bt s i := fun i => by
    unfold bt ByteArray.get!
    simp [Array.getD_eq_getD_getElem?, getElem!_def]
    cases s.data[i]? <;> rfl
  unfold Utf8.decode at hk
  simp only [hg, Nat.add_zero] at hk
  have c64 : ∀ x : Nat, (x / 64 == 2) = true → 128 ≤ x := fun x hx => by
    have := of_decide_eq_true (p := x / 64 = 2) (by simpa using hx)
    omega
  rw [if_neg (by omega)] at hk
  split at hk
  · rename_i h1
    simp only [Bool.and_eq_true, decide_eq_true_eq] at h1
    split at hk
    · rcases (show k = 0 ∨ k = 1 by simp only at hk; omega) with rfl | rfl
      · exact h
      · exact c64 _ h1.2.2
    · obtain rfl : k = 0 := by simp only at hk; omega
      exact h
  · split at hk
    · rename_i h1
      simp only [Bool.and_eq_true, decide_eq_true_eq] at h1
      split at hk
      · rcases (show k = 0 ∨ k = 1 ∨ k = 2 by simp only at hk; omega) with rfl | rfl | rfl
        · exact h
        · exact c64 _ h1.1.2.2
        · exact c64 _ h1.2.2
      · obtain rfl : k = 0 := by simp only at hk; omega
        exact h
    · split at hk
      · rename_i h1
        simp only [Bool.and_eq_true, decide_eq_true_eq] at h1
        split at hk
        · rcases (show k = 0 ∨ k = 1 ∨ k = 2 ∨ k = 3 by simp only at hk; omega) with rfl | rfl | rfl | rfl
          · exact h
          · exact c64 _ h1.1.1.2.2
          · exact c64 _ h1.1.2.2
          · exact c64 _ h1.2.2
        · obtain rfl : k = 0 := by simp only at hk; omega
          exact h
      · obtain rfl : k = 0 := by simp only at hk; omega
        exact h

/-- A number behind signs, all ASCII. -/
def nxt (x : Int) (c : UInt8) : Int := IntKind.u64.wrap (IntKind.u64.wrap (10 * x) + IntKind.u64.wrap (wrap32 ((c.toNat : Int) - 48)))
theorem bt_list (l : List UInt8) (i : Nat) (h : i < l.length) : bt (su l) i = (l[i]'h).toNat := by
  unfold bt su
  rw [Array.getD_eq_getD_getElem?]
  simp [h]
theorem rnx_fold (l : List UInt8) (hl : ∀ c ∈ l, c.toNat < 128) : ∀ (b p : Nat) (x : Int), l.length ≤ p + b → rnx (su l) b p x = (l.drop p).foldl nxt x
  | 0, p, x, h => by rw [List.drop_of_length_le (by omega)]; rfl
  | b + 1, p, x, h => by
    by_cases hp : p < l.length
    · have hps : p < (su l).size := by rw [su_size]; exact hp
      have ha : ((su l)[p]'hps).toNat < 128 := by rw [bt_at hps, bt_list l p hp]; exact hl _ (List.getElem_mem hp)
      have hd := decode_ascii (su l) p hps ha
      rw [rnx_step _ _ _ _ hps, hd, rnx_fold l hl b (p + 1) _ (by omega), List.drop_eq_getElem_cons hp, List.foldl_cons]
      unfold nxt
      rw [bt_at hps, bt_list l p hp]
    · rw [rnx_end _ _ _ _ (by rw [su_size]; exact hp), List.drop_of_length_le (by omega)]
      rfl
theorem sg_nat {d : Nat} (h : d < 10) : (UInt8.ofNat (48 + d)).toNat = 48 + d := by
  have : (UInt8.ofNat (48 + d)).toNat = (48 + d) % 256 := by simp
  rw [this]; omega
theorem dec_ascii (u : Nat) : ∀ c ∈ Lib.decDigits u, 48 ≤ c.toNat ∧ c.toNat < 58 := by
  induction u using Nat.strongRecOn with
  | _ u ih =>
    by_cases h : u < 10
    · rw [dec_small h]
      intro c hc
      simp only [List.mem_singleton] at hc
      subst hc
      rw [sg_nat h]; omega
    · rw [dec_big (by omega)]
      intro c hc
      rcases List.mem_append.1 hc with hc | hc
      · exact ih (u / 10) (by omega) c hc
      · simp only [List.mem_singleton] at hc
        subst hc
        rw [sg_nat (by omega)]; omega
theorem nxt_dec {y d : Nat} (hd : d < 10) (hu : 10 * y + d < 18446744073709551616) : nxt (y : Int) (UInt8.ofNat (48 + d)) = ((10 * y + d : Nat) : Int) := by
  unfold nxt
  rw [sg_nat hd, show (((48 + d : Nat) : Int) - 48) = (d : Int) by omega]
  have e1 : wrap32 (d : Int) = (d : Int) := by unfold wrap32; omega
  rw [e1, IntWalk.u64_in (10 * (y : Int)) (by omega), IntWalk.u64_in (d : Int) (by omega), IntWalk.u64_in _ (by omega)]
  omega
theorem dec_fold (u : Nat) (hu : u < 18446744073709551616) : (Lib.decDigits u).foldl nxt 0 = (u : Int) := by
  induction u using Nat.strongRecOn with
  | _ u ih =>
    by_cases h : u < 10
    · rw [dec_small h]
      have := nxt_dec (y := 0) (d := u) h (by omega)
      rw [List.foldl_cons, List.foldl_nil]
      rw [show ((0 : Nat) : Int) = 0 from rfl] at this
      rw [this]
      omega
    · rw [dec_big (by omega), List.foldl_append, ih (u / 10) (by omega) (by omega), List.foldl_cons, List.foldl_nil, nxt_dec (by omega) (by omega)]
      omega
theorem rnx_dec (u : Nat) (hu : u < 18446744073709551616) : rnx (su (Lib.decDigits u)) (su (Lib.decDigits u)).size 0 0 = (u : Int) := by
  rw [rnx_fold _ (fun c hc => by have := dec_ascii u c hc; omega) _ 0 0 (by rw [su_size]; omega), List.drop_zero]
  exact dec_fold u hu
theorem rnv_dec (u : Nat) (hu : u < 18446744073709551616) : rnv (su (Lib.decDigits u)) = .tuple #[.int .u64 (u : Int), .bool true] := by
  unfold rnv
  rw [rnx_dec u hu, Int.toNat_natCast, if_pos rfl]

/-- Texts one behind the other, each with a comma. -/
def cm (P : List (List UInt8)) : List UInt8 := (P.map (· ++ [44])).flatten
theorem cm_snoc (P : List (List UInt8)) (p : List UInt8) : cm (P ++ [p]) = cm P ++ (p ++ [44]) := by unfold cm; simp
theorem cm_append (P Q : List (List UInt8)) : cm (P ++ Q) = cm P ++ cm Q := by unfold cm; simp
theorem part_one {p q r r' : List UInt8} (hp : (44 : UInt8) ∉ p) (hq : (44 : UInt8) ∉ q) (h : p ++ [44] ++ r = q ++ [44] ++ r') : p = q ∧ r = r' := by
  induction p generalizing q with
  | nil =>
    cases q with
    | nil => simp at h; exact ⟨rfl, h⟩
    | cons b q =>
      simp at h
      exact absurd (List.mem_cons.2 (.inl h.1)) hq
  | cons a p ih =>
    cases q with
    | nil =>
      simp at h
      exact absurd (List.mem_cons.2 (.inl h.1.symm)) hp
    | cons b q =>
      simp only [List.cons_append, List.cons.injEq] at h
      obtain ⟨e1, e2⟩ := ih (fun hh => hp (List.mem_cons_of_mem _ hh)) (fun hh => hq (List.mem_cons_of_mem _ hh)) h.2
      exact ⟨by rw [h.1, e1], e2⟩
/-- What begins with the same pieces. -/
theorem part_all {P Q : List (List UInt8)} {r : List UInt8} (hP : ∀ p ∈ P, (44 : UInt8) ∉ p) (hQ : ∀ p ∈ Q, (44 : UInt8) ∉ p) (h : cm P ++ r = cm Q) : ∃ R, Q = P ++ R ∧ r = cm R := by
  induction P generalizing Q with
  | nil => exact ⟨Q, rfl, by simpa [cm] using h⟩
  | cons p P ih =>
    cases Q with
    | nil => simp [cm] at h
    | cons q Q =>
      have e : p ++ [44] ++ (cm P ++ r) = q ++ [44] ++ cm Q := by simpa [cm] using h
      obtain ⟨h1, h2⟩ := part_one (hP p (List.mem_cons_self ..)) (hQ q (List.mem_cons_self ..)) e
      obtain ⟨R, h3, h4⟩ := ih (fun x hx => hP x (List.mem_cons_of_mem _ hx)) (fun x hx => hQ x (List.mem_cons_of_mem _ hx)) h2
      exact ⟨R, by rw [h1, h3]; rfl, h4⟩
def dcs (l : List Int) : List (List UInt8) := l.map fun x => Lib.decDigits x.toNat
theorem dcs_free (l : List Int) : ∀ p ∈ dcs l, (44 : UInt8) ∉ p := by
  intro p hp h
  obtain ⟨x, _, rfl⟩ := List.mem_map.1 hp
  have := dec_ascii x.toNat 44 h
  exact absurd this.1 (by decide)
theorem lw_cm (l : List Int) : ∀ k, k ≤ l.length → 0 < k → lw l k ++ [44] = cm (dcs (l.take k))
  | 0, _, h => absurd h (by omega)
  | k + 1, hk, _ => by
    have e : l.take (k + 1) = l.take k ++ [l.getD k 0] := by
      rw [List.take_add_one, List.getD_eq_getElem?_getD, List.getElem?_eq_getElem (by omega)]; rfl
    rw [e]
    unfold dcs
    rw [List.map_append, List.map_cons, List.map_nil, cm_snoc]
    unfold lw
    by_cases h0 : k = 0
    · subst h0
      simp [cm]
    · have := lw_cm l k (by omega) (by omega)
      unfold dcs at this
      rw [if_neg h0, this, List.append_assoc]
theorem lword_cm (l : List Int) (h : l ≠ []) : (lword l).data.toList ++ [44] = cm (dcs l) := by
  unfold lword
  rw [if_neg h]
  have h0 : 0 < l.length := List.length_pos_iff.2 h
  have := lw_cm l l.length (Nat.le_refl _) h0
  rw [List.take_length] at this
  simpa using this
theorem dec_inj {u v : Nat} (hu : u < 18446744073709551616) (hv : v < 18446744073709551616) (h : Lib.decDigits u = Lib.decDigits v) : u = v := by
  have h1 := dec_fold u hu
  rw [h, dec_fold v hv] at h1
  omega
theorem lword_inj {l m : List Int} (hl : ∀ x ∈ l, 0 ≤ x ∧ x < 18446744073709551616) (hm : ∀ x ∈ m, 0 ≤ x ∧ x < 18446744073709551616) (h : dcs l = dcs m) : l = m := by
  induction l generalizing m with
  | nil => cases m with
    | nil => rfl
    | cons y m => simp [dcs] at h
  | cons x l ih =>
    cases m with
    | nil => simp [dcs] at h
    | cons y m =>
      simp only [dcs, List.map_cons, List.cons.injEq] at h
      have hx := hl x (List.mem_cons_self ..)
      have hy := hm y (List.mem_cons_self ..)
      have := dec_inj (u := x.toNat) (v := y.toNat) (by omega) (by omega) h.1
      rw [show x = y by omega, ih (fun z hz => hl z (List.mem_cons_of_mem _ hz)) (fun z hz => hm z (List.mem_cons_of_mem _ hz)) h.2]
end Go.Proofs.YtogfjejodoefeaaDoor.Cur
