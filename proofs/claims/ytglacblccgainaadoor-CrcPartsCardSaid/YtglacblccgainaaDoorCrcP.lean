/- Rows of bytes that came in, as a list; Parts. -/
import Derived.Test.YtglacblccgainaaDoorK7
import Derived.Test.YtglacblccgainaaDoorK1
namespace Go.Proofs.YtglacblccgainaaDoor.Cur
open Go.RowKit Mem CrcM
set_option linter.unusedVariables false

def RowAt (w : World) (A : Option Addr) (i : Nat) (z : List Int) : Prop :=
  ∃ b o Ar Lr Cr, A = some ⟨b, o, none⟩ ∧ w.cell? ⟨b, o + i, none⟩ = some (.slice Ar Lr Cr) ∧ Bs w Ar Lr z ∧ (∀ x ∈ z, 0 ≤ x ∧ x < 256) ∧ (Ar = none → Cr = 0) ∧ Lr ≤ Cr
def RowsL (w : World) (A : Option Addr) (n : Nat) (R : List (List Int)) : Prop := R.length = n ∧ ∀ i, i < n → RowAt w A i (R.getD i [])
theorem RowsL.below {w w' : World} {A : Option Addr} {n : Nat} {R : List (List Int)} (h : RowsL w A n R) (hb : Below w.heap.size w w') : RowsL w' A n R :=
  ⟨h.1, fun i hi => by
    obtain ⟨b, o, Ar, Lr, Cr, e, h0, h1, r⟩ := h.2 i hi
    exact ⟨b, o, Ar, Lr, Cr, e, (hb.cell (lt_of_cell h0)).trans h0, h1.below hb, r⟩⟩
theorem rows_list {w : World} {A : Option Addr} {n : Nat} (h : IsRows w A n) : ∃ R, RowsL w A n R := by
  have h2 : ∀ i, i < n → ∃ z, RowAt w A i z := fun i hi => by
    obtain ⟨b, o, Ar, Lr, Cr, z, r⟩ := h i hi
    exact ⟨z, b, o, Ar, Lr, Cr, r⟩
  have h3 : ∀ k, k ≤ n → ∃ R : List (List Int), R.length = k ∧ ∀ i, i < k → RowAt w A i (R.getD i []) := by
    intro k
    induction k with
    | zero => exact fun _ => ⟨[], rfl, fun i hi => absurd hi (by omega)⟩
    | succ k ih =>
      intro hk
      obtain ⟨R, hl, hR⟩ := ih (by omega)
      obtain ⟨z, hz⟩ := h2 k (by omega)
      refine ⟨R ++ [z], by simp [hl], fun i hi => ?_⟩
      by_cases e : i = k
      · subst e
        have : (R ++ [z]).getD i [] = z := by rw [List.getD_eq_getElem?_getD, ← hl, List.getElem?_append_right (Nat.le_refl _)]; simp
        rw [this]; exact hz
      · have : (R ++ [z]).getD i [] = R.getD i [] := by rw [List.getD_eq_getElem?_getD, List.getElem?_append_left (by omega), ← List.getD_eq_getElem?_getD]
        rw [this]; exact hR i (by omega)
  exact h3 n (Nat.le_refl _)
/-- The first k rows, one behind the other. -/
def flat (R : List (List Int)) (k : Nat) : List Int := (R.take k).flatten
theorem flat_succ {R : List (List Int)} {k : Nat} (h : k < R.length) : flat R (k + 1) = flat R k ++ R.getD k [] := by
  unfold flat
  rw [List.take_succ_eq_append_getElem h, List.flatten_append]
  simp [List.getD_eq_getElem?_getD, List.getElem?_eq_getElem h]
theorem flat_byte {w : World} {A : Option Addr} {n : Nat} {R : List (List Int)} (h : RowsL w A n R) (k : Nat) (hk : k ≤ n) : ∀ x ∈ flat R k, 0 ≤ x ∧ x < 256 := by
  induction k with
  | zero => intro x hx; simp [flat] at hx
  | succ k ih =>
    intro x hx
    rw [flat_succ (by rw [h.1]; omega), List.mem_append] at hx
    rcases hx with hx | hx
    · exact ih (by omega) x hx
    · obtain ⟨_, _, _, _, _, _, _, _, hb, _⟩ := h.2 k (by omega)
      exact hb x hx
theorem flat_len {R : List (List Int)} (h : ∀ i, i < R.length → (R.getD i []).length ≤ 200) (k : Nat) (hk : k ≤ R.length) : (flat R k).length ≤ 200 * k := by
  induction k with
  | zero => simp [flat]
  | succ k ih =>
    rw [flat_succ (by omega), List.length_append]
    have := ih (by omega)
    have := h k (by omega)
    omega

set_option maxHeartbeats 1000000 in
theorem parts_any (A : Option Addr) (n m : Nat) (R : List (List Int)) (w : World) (h : RowsL w A n R) (hn : n ≤ 40) (h2 : ∀ i, i < R.length → (R.getD i []).length ≤ 200) (hT : Tbs w) :
    Calls Tryd.prog 19 #[.slice A n m] w fun e w' => e = .returned (.int .u32 (sm (flat R n) : Nat)) ∧ ∃ k, w' = w.drewN k := by
  have HR := Lib.hid h
  have H2 := Lib.hid h2
  have HT := Lib.hid hT
  clear h h2 hT
  go_enter Tryd.func19, Tryd.ntmps19
  go_wp2_with fail
  refine (cbegin_any _).mono ?_
  rintro e w' ⟨rfl, rfl⟩
  go_wp2
  go_loopw [3, 9] (fun v i wr => ∃ k j : Nat, k ≤ n ∧ i = .int .i64 k ∧ v = .int .u32 (fd 4294967295 (flat R k) : Nat) ∧ wr = w.drewN j) (fun _ i _ => n - (intOf i).toNat)
  case atStart => exact ⟨0, 0, by omega, rfl, rfl, rfl⟩
  case round =>
    obtain ⟨k, j, hk, rfl, rfl, rfl⟩ := hrel
    by_cases hlt : k < n
    · have hfl := fd_lt (s := 4294967295) (by decide) (flat_byte HR.out k hk)
      have HN : Hid (fd 4294967295 (flat R (k + 1)) = fd (fd 4294967295 (flat R k)) (R.getD k [])) := Lib.hid (by rw [flat_succ (by rw [HR.out.1]; exact hlt), fd_append])
      have hl := H2.out k (by rw [HR.out.1]; exact hlt)
      obtain ⟨b, o, Ar, Lr, Cr, rfl, hc, hbs, hby, hnil, hle⟩ := HR.out.2 k hlt
      generalize fd 4294967295 (flat R k) = t at *
      generalize R.getD k [] = z at *
      have HBY := Lib.hid hby
      have HL := Lib.hid hbs.1
      have hLr : Lr ≤ 200 := by rw [← hbs.1]; exact hl
      clear hby hl
      go_wp2_with fail
      refine (cadd_any t _ _ _ z _ hfl (hbs.drewN j) (by omega) HBY.out (HT.out.drewN j)).mono ?_
      rintro e w' ⟨rfl, j2, rfl⟩
      go_wp2
      go_roundw
      case rel => exact ⟨k + 1, j + j2, by omega, by go_num, by rw [HN.out], rfl⟩
      case measure => simp [intOf]; omega
    · obtain rfl : k = n := by omega
      have hfl := fd_lt (s := 4294967295) (by decide) (flat_byte HR.out k hk)
      have HS : Hid (sm (flat R k) = 4294967295 ^^^ fd 4294967295 (flat R k)) := Lib.hid rfl
      generalize fd 4294967295 (flat R k) = t at *
      go_wp2_with fail
      refine (cend_any t _ hfl).mono ?_
      rintro e w' ⟨rfl, rfl⟩
      go_wp2
      go_ret
      exact ⟨by rw [HS.out]; rfl, j, rfl⟩
end Go.Proofs.YtglacblccgainaaDoor.Cur
