/- Tokens put and read, as lists: what is read is put so again; what is put is read. -/
import Derived.Test.YtklkflfdianbpaaTokH
namespace Go.Proofs.Ytklkflfdianbpaa.Cur
open Go.RowKit Mem
set_option linter.unusedVariables false

theorem tgo_stop' {z : List Int} {k : Nat} {p : Int} {acc : List Tk} (h : (z.length : Int) ≤ p) : tgo z k p acc = (acc, p, 0, 0) := by
  cases k with
  | zero => rfl
  | succ k => show (if (z.length : Int) ≤ p then _ else _) = _; rw [if_pos h]
theorem tgo_step' {z : List Int} {k : Nat} {p : Int} {acc : List Tk} (h : p < z.length) : tgo z (k + 1) p acc = (tr z p).bind [] fun t p1 => tgo z k p1 (acc ++ [t]) := by
  show (if (z.length : Int) ≤ p then _ else _) = _; rw [if_neg (by omega)]
def tcat (T : List Tk) : List Int := (T.map tby).flatten
theorem tbs_tcat (T : List Tk) : tbs T T.length = tcat T := by
  unfold tbs flat tcat
  rw [List.take_of_length_le (by simp)]
theorem tcat_append (S T : List Tk) : tcat (S ++ T) = tcat S ++ tcat T := by unfold tcat; rw [List.map_append, List.flatten_append]
theorem tcat_one (t : Tk) : tcat [t] = tby t := by simp [tcat]
theorem tby_pos (t : Tk) : 1 ≤ (tby t).length := by
  unfold tby
  split
  · rw [List.length_append, vz_length]; have := vsz_pos (2 * (t.1.length : Int) - 2); omega
  · rw [List.length_append, vz_length, vz_length]; have := vsz_pos (2 * t.2.2 - 7); omega
theorem tcat_len (T : List Tk) : T.length ≤ (tcat T).length := by
  induction T with
  | nil => simp
  | cons t T ih =>
    have : tcat (t :: T) = tby t ++ tcat T := by simp [tcat]
    rw [this, List.length_append, List.length_cons]
    have := tby_pos t
    omega
theorem tall_all {T : List Tk} (h : ∀ t ∈ T, tright t = true) : ∀ k, k ≤ T.length → tall T k = true := by
  intro k
  induction k with
  | zero => intro _; rfl
  | succ k ih =>
    intro hk
    have : tall T (k + 1) = (tall T k && tright (T.getD k tk0)) := rfl
    rw [this, ih (by omega), Bool.true_and]
    refine h _ ?_
    rw [List.getD_eq_getElem?_getD, List.getElem?_eq_getElem (by omega)]
    exact List.getElem_mem (by omega)
theorem tall_right {T : List Tk} {k : Nat} (h : tall T k = true) : ∀ j, j < k → tright (T.getD j tk0) = true := by
  induction k with
  | zero => intro j hj; omega
  | succ k ih =>
    have : tall T (k + 1) = (tall T k && tright (T.getD k tk0)) := rfl
    rw [this, Bool.and_eq_true] at h
    intro j hj
    rcases Nat.lt_succ_iff_lt_or_eq.1 hj with h1 | rfl
    · exact ih h.1 j h1
    · exact h.2

/-- Tokens that are read: they are some, and are put so again. -/
theorem tgo_once {z : List Int} (hby : ∀ x ∈ z, 0 ≤ x ∧ x < 256) : ∀ (k : Nat) (p : Int) (acc : List Tk), 0 ≤ p → p ≤ z.length → (z.length : Int) - p ≤ k → (∀ t ∈ acc, tright t = true ∧ tkok t) → tcat acc = z.take p.toNat → (tgo z k p acc).2.2.1 = 0 →
    (∀ t ∈ (tgo z k p acc).1, tright t = true ∧ tkok t) ∧ tcat (tgo z k p acc).1 = z := by
  intro k
  induction k with
  | zero =>
    intro p acc h0 h1 hk ha hc _
    refine ⟨ha, ?_⟩
    show tcat acc = z
    rw [hc, List.take_of_length_le (by omega)]
  | succ k ih =>
    intro p acc h0 h1 hk ha hc h
    by_cases hp : (z.length : Int) ≤ p
    · rw [tgo_stop' hp]
      refine ⟨ha, ?_⟩
      show tcat acc = z
      rw [hc, List.take_of_length_le (by omega)]
    · rw [tgo_step' (by omega)] at h ⊢
      obtain ⟨g1, g2⟩ := Rs.bind_ok h
      obtain ⟨k1, k2, k3, k4, k5, k6⟩ := tr_once hby h0 h1 g1
      rw [Rs.bind_of k3] at h ⊢
      refine ih _ _ (by omega) k2 (by omega) (fun t ht => ?_) ?_ h
      · rcases List.mem_append.1 ht with ht | ht
        · exact ha t ht
        · rw [List.mem_singleton] at ht; subst ht; exact ⟨k4, k5⟩
      · rw [tcat_append, tcat_one, hc, k6]
        have e : z.take p.toNat = piece z 0 p.toNat := by unfold piece; simp
        rw [e, piece_add (by omega) (by omega)]
        unfold piece
        simp
theorem tgv_once {z : List Int} (hby : ∀ x ∈ z, 0 ≤ x ∧ x < 256) {T : List Tk} {q : Int} (h : (T, (0 : Int), q) = tgv z) : (∀ t ∈ T, tright t = true ∧ tkok t) ∧ tcat T = z := by
  unfold tgv at h
  by_cases h0 : (tg z).2.2.1 = 0
  · rw [if_pos h0] at h
    have e : T = (tg z).1 := congrArg (fun x => x.1) h
    rw [e]
    exact tgo_once hby _ _ _ (by omega) (by omega) (by omega) (by simp) (by simp [tcat]) h0
  · rw [if_neg h0] at h
    have e : (0 : Int) = (tg z).2.2.1 := congrArg (fun x => x.2.1) h
    exact absurd e.symm h0
theorem tgv_nil {z : List Int} {T : List Tk} {c q : Int} (h : (T, c, q) = tgv z) (hc : c ≠ 0) : T = [] := by
  unfold tgv at h
  by_cases h0 : (tg z).2.2.1 = 0
  · rw [if_pos h0] at h
    exact absurd (congrArg (fun x => x.2.1) h : c = 0) hc
  · rw [if_neg h0] at h
    exact congrArg (fun x => x.1) h

/-- A token that is put is read. -/
theorem tr_put {z pre rest : List Int} {t : Tk} (hz : z = pre ++ tby t ++ rest) (ht : tright t = true) : tr z pre.length = (t, ((pre.length + (tby t).length : Nat) : Int), 0, 0) := by
  obtain ⟨l, o, n⟩ := t
  unfold tright at ht
  simp only at ht
  by_cases hr : trun l.length o n = true
  · have hby : tby (l, o, n) = vz (2 * (l.length : Int) - 2) ++ l := by unfold tby; simp only; rw [if_pos hr]
    have hd : o = 0 ∧ n = 0 ∧ 1 ≤ l.length ∧ l.length ≤ 1048576 := by unfold trun at hr; exact of_decide_eq_true hr
    obtain ⟨rfl, rfl, h1, h2⟩ := hd
    rw [hby] at hz ⊢
    have hv := vg_put (z := z) (pre := pre) (x := 2 * (l.length : Int) - 2) (rest := l ++ rest) (by rw [hz]; simp [List.append_assoc]) (by omega) (by omega)
    have hh : hd z pre.length = ((false, (l.length : Int)), ((pre.length + vsz (2 * (l.length : Int) - 2) : Nat) : Int), 0, 0) := by
      unfold hd
      rw [Rs.bind_of hv]
      have e : hdv (2 * (l.length : Int) - 2) = (false, (l.length : Int)) := by unfold hdv; rw [if_neg (by omega)]; congr 1; omega
      rw [e, if_neg (by show ¬ 1048576 < (l.length : Int); omega)]
    unfold tr
    rw [Rs.bind_of hh, trb_run]
    have hk := tk_put (z := z) (pre := pre ++ vz (2 * (l.length : Int) - 2)) (y := l) (rest := rest) (by rw [hz]; simp [List.append_assoc])
    rw [List.length_append, vz_length] at hk
    rw [Rs.bind_of hk, List.length_append, vz_length, Nat.add_assoc]
  · have hc : tcpy l.length o n = true := by simpa [hr] using ht
    have hby : tby (l, o, n) = vz (2 * n - 7) ++ vz (o - 1) := by unfold tby; simp only; rw [if_neg hr]
    have hd : l.length = 0 ∧ 1 ≤ o ∧ o ≤ 65536 ∧ 4 ≤ n ∧ n ≤ 1048576 := by unfold tcpy at hc; exact of_decide_eq_true hc
    obtain ⟨h0, h1, h2, h3, h4⟩ := hd
    obtain rfl := List.length_eq_zero_iff.1 h0
    rw [hby] at hz ⊢
    have hv := vg_put (z := z) (pre := pre) (x := 2 * n - 7) (rest := vz (o - 1) ++ rest) (by rw [hz]; simp [List.append_assoc]) (by omega) (by omega)
    have hh : hd z pre.length = ((true, n), ((pre.length + vsz (2 * n - 7) : Nat) : Int), 0, 0) := by
      unfold hd
      rw [Rs.bind_of hv]
      have e : hdv (2 * n - 7) = (true, n) := by unfold hdv; rw [if_pos (by omega)]; congr 1; omega
      rw [e, if_neg (by show ¬ 1048576 < n; omega)]
    unfold tr
    rw [Rs.bind_of hh, trb_cpy]
    have hk := vg_put (z := z) (pre := pre ++ vz (2 * n - 7)) (x := o - 1) (rest := rest) (by rw [hz]; simp [List.append_assoc]) (by omega) (by omega)
    rw [List.length_append, vz_length] at hk
    have ho : ofs z ((pre.length + vsz (2 * n - 7) : Nat) : Int) = (o, ((pre.length + vsz (2 * n - 7) + vsz (o - 1) : Nat) : Int), 0, 0) := by
      unfold ofs
      rw [Rs.bind_of hk, if_neg (by omega)]
      congr 1
      omega
    rw [Rs.bind_of ho, List.length_append, vz_length, vz_length, Nat.add_assoc]
theorem tgo_put {z : List Int} : ∀ (U acc : List Tk) (k : Nat), (∀ t ∈ U, tright t = true) → z = tcat acc ++ tcat U → U.length ≤ k → tgo z k (tcat acc).length acc = (acc ++ U, (z.length : Int), 0, 0) := by
  intro U
  induction U with
  | nil =>
    intro acc k _ hz _
    rw [tgo_stop' (by rw [hz]; simp [tcat]), hz]
    simp [tcat]
  | cons t U ih =>
    intro acc k hU hz hk
    obtain ⟨k, rfl⟩ : ∃ j, k = j + 1 := ⟨k - 1, by simp at hk; omega⟩
    have e : tcat (t :: U) = tby t ++ tcat U := by simp [tcat]
    have h1 := tby_pos t
    have hz2 : z = tcat acc ++ tby t ++ tcat U := by rw [hz, e, List.append_assoc]
    rw [tgo_step' (by rw [hz2]; simp only [List.length_append]; push_cast; omega), Rs.bind_of (tr_put hz2 (hU t (by simp)))]
    have := ih (acc ++ [t]) k (fun x hx => hU x (by simp [hx])) (by rw [tcat_append, tcat_one, hz2]) (by simpa using hk)
    rw [tcat_append, tcat_one, List.length_append] at this
    rw [this, List.append_assoc]
    rfl
theorem tgv_put {T : List Tk} (h : ∀ t ∈ T, tright t = true) : tgv (tcat T) = (T, 0, 0) := by
  have := tgo_put (z := tcat T) T [] ((tcat T).length + 1) h (by simp [tcat]) (by have := tcat_len T; omega)
  have e : tg (tcat T) = (T, ((tcat T).length : Int), 0, 0) := by
    unfold tg
    have e0 : ((tcat []).length : Int) = 0 := by simp [tcat]
    rw [e0] at this
    rw [this]
    rfl
  unfold tgv
  rw [e]
  rfl
theorem tby_byte {t : Tk} (h : tkok t) (hr : tright t = true) : ∀ x ∈ tby t, 0 ≤ x ∧ x < 256 := by
  intro x hx
  unfold tby at hx
  split at hx
  · rename_i h1
    have hd : t.2.1 = 0 ∧ t.2.2 = 0 ∧ 1 ≤ t.1.length ∧ t.1.length ≤ 1048576 := by unfold trun at h1; exact of_decide_eq_true h1
    rcases List.mem_append.1 hx with hx | hx
    · exact vz_byte _ (by omega) (by omega) x hx
    · exact h.1 x hx
  · rename_i h1
    have hc : tcpy t.1.length t.2.1 t.2.2 = true := by unfold tright at hr; simpa [h1] using hr
    have hd : t.1.length = 0 ∧ 1 ≤ t.2.1 ∧ t.2.1 ≤ 65536 ∧ 4 ≤ t.2.2 ∧ t.2.2 ≤ 1048576 := by unfold tcpy at hc; exact of_decide_eq_true hc
    rcases List.mem_append.1 hx with hx | hx
    · exact vz_byte _ (by omega) (by omega) x hx
    · exact vz_byte _ (by omega) (by omega) x hx
theorem tcat_byte {T : List Tk} (h : ∀ t ∈ T, tkok t) (hr : ∀ t ∈ T, tright t = true) : ∀ x ∈ tcat T, 0 ≤ x ∧ x < 256 := by
  intro x hx
  obtain ⟨l, hl, hx⟩ := List.mem_flatten.1 hx
  obtain ⟨t, ht, rfl⟩ := List.mem_map.1 hl
  exact tby_byte (h t ht) (hr t ht) x hx
end Go.Proofs.Ytklkflfdianbpaa.Cur
