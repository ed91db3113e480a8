/- The contracts of package varint: ReadMost, ReadInt, Get. -/
import Derived.Test.YtkedmhopajpkhaaVarC
namespace Go.Proofs.Ytkedmhopajpkhaa.Cur
open Go.RowKit Mem
set_option linter.unusedVariables false

/-- What ReadMost does. -/
def MostSt (n : Nat) (z : List Int) (p c q mo v p' c' q' : Int) : Prop :=
  ∃ v0 c0 q0, RdSt n z p c q v0 p' c0 q0 ∧ ((mo < v0 ∧ v = 0 ∧ FailSt c0 q0 2 p c' q') ∨ (v0 ≤ mo ∧ v = v0 ∧ c' = c0 ∧ q' = q0))
theorem MostSt.det {n : Nat} {z : List Int} {p c q mo v p' c' q' v2 p2 c2 q2 : Int} (h : MostSt n z p c q mo v p' c' q') (k : MostSt n z p c q mo v2 p2 c2 q2) : v = v2 ∧ p' = p2 ∧ c' = c2 ∧ q' = q2 := by
  obtain ⟨v0, c0, q0, hr, h⟩ := h
  obtain ⟨v1, c1, q1, kr, k⟩ := k
  obtain ⟨rfl, rfl, rfl, rfl⟩ := hr.det kr
  rcases h with ⟨h1, rfl, h2⟩ | ⟨h1, rfl, rfl, rfl⟩ <;> rcases k with ⟨k1, rfl, k2⟩ | ⟨k1, rfl, rfl, rfl⟩
  · obtain ⟨rfl, rfl⟩ := h2.det k2
    exact ⟨rfl, rfl, rfl, rfl⟩
  · omega
  · omega
  · exact ⟨rfl, rfl, rfl, rfl⟩
def MostPost (b : Nat) (s : Value) (n : Nat) (z : List Int) (p c q mo : Int) (w : World) (e : Ending) (w' : World) : Prop :=
  ∃ v p' c' q', e = .returned (.int .u64 v) ∧ Kp b w w' ∧ IsRd w' b s p' c' q' ∧ MostSt n z p c q mo v p' c' q'

set_option maxHeartbeats 800000 in
theorem vmost_any (b : Nat) (a : Option Addr) (n m : Nat) (z : List Int) (p c q mo : Int) (w : World) (h : IsRd w b (.slice a n m) p c q) (hz : Bs w a n z) (h0 : 0 ≤ p) (h1 : p ≤ n) (hn : n ≤ 1000000) (hby : ∀ x ∈ z, 0 ≤ x ∧ x < 256) :
    Calls Try.prog 51 #[.pointer (some ⟨b, 0, none⟩), .int .u64 mo] w (MostPost b (.slice a n m) n z p c q mo w) := by
  go_enter Try.func51, Try.ntmps51
  go_wp2_with fail
  refine (at_any _ _ _ _ _ _ h).mono ?_
  rintro e w0 ⟨rfl, rfl⟩
  go_wp2_with fail
  refine (vread_any _ _ _ _ _ _ _ _ _ h hz h0 h1 hn hby).mono ?_
  rintro e w1 ⟨v0, p', c0, q0, rfl, hk, hr, hs⟩
  have HS := Lib.hid hs
  clear hs
  by_cases hv : mo < v0
  · go_wp2_with fail
    refine (fail_any _ _ _ _ _ _ _ _ hr).mono ?_
    rintro e w2 ⟨c2, q2, rfl, hk2, hr2, hf⟩
    have HF := Lib.hid hf
    clear hf
    go_wp2
    go_ret
    exact ⟨0, _, _, _, rfl, hk.trans hk2, hr2, _, _, _, HS.out, .inl ⟨hv, rfl, HF.out⟩⟩
  · go_wp2
    go_ret
    exact ⟨v0, _, _, _, rfl, hk, hr, _, _, _, HS.out, .inr ⟨by omega, rfl, rfl, rfl⟩⟩

/-- What ReadInt does. -/
def IntSt (n : Nat) (z : List Int) (p c q mo v p' c' q' : Int) : Prop :=
  (0 ≤ mo ∧ MostSt n z p c q mo v p' c' q') ∨ (mo < 0 ∧ v = 0 ∧ ∃ v0 c0 q0, RdSt n z p c q v0 p' c0 q0 ∧ FailSt c0 q0 2 p c' q')
theorem IntSt.det {n : Nat} {z : List Int} {p c q mo v p' c' q' v2 p2 c2 q2 : Int} (h : IntSt n z p c q mo v p' c' q') (k : IntSt n z p c q mo v2 p2 c2 q2) : v = v2 ∧ p' = p2 ∧ c' = c2 ∧ q' = q2 := by
  rcases h with ⟨h0, h⟩ | ⟨h0, rfl, v0, c0, q0, hr, hf⟩ <;> rcases k with ⟨k0, k⟩ | ⟨k0, rfl, v1, c1, q1, kr, kf⟩
  · exact h.det k
  · omega
  · omega
  · obtain ⟨rfl, rfl, rfl, rfl⟩ := hr.det kr
    obtain ⟨rfl, rfl⟩ := hf.det kf
    exact ⟨rfl, rfl, rfl, rfl⟩
def IntPost (b : Nat) (s : Value) (n : Nat) (z : List Int) (p c q mo : Int) (w : World) (e : Ending) (w' : World) : Prop :=
  ∃ v p' c' q', e = .returned (.int .i64 v) ∧ Kp b w w' ∧ IsRd w' b s p' c' q' ∧ IntSt n z p c q mo v p' c' q'

theorem vgo_nonneg (l : List Int) (hl : ∀ x ∈ l, 0 ≤ x ∧ x < 256) : ∀ (i : Nat) (X : Int), 0 ≤ X → 0 ≤ (vgo l i X).1 := by
  induction l with
  | nil => intro i X h; exact Int.le_refl _
  | cons b l ih =>
    intro i X h
    have hb := hl b (by simp)
    have hp := pow128_pos i
    unfold vgo
    split
    · exact Int.le_refl _
    · split
      · exact Int.le_refl _
      · split
        · have := Int.mul_nonneg hb.1 (Int.le_of_lt hp)
          show 0 ≤ X + b * 128 ^ i
          omega
        · have := Int.mul_nonneg (show 0 ≤ b % 128 by omega) (Int.le_of_lt hp)
          exact ih (fun x hx => hl x (by simp [hx])) _ _ (by omega)
theorem RdSt.nonneg {n : Nat} {z : List Int} {p c q v p' c' q' : Int} (h : RdSt n z p c q v p' c' q') (hby : ∀ x ∈ z, 0 ≤ x ∧ x < 256) : 0 ≤ v := by
  rcases h with ⟨_, h, _⟩ | ⟨_, ⟨_, h, _⟩ | ⟨_, h, _⟩⟩
  · omega
  · rw [h]; exact vgo_nonneg _ (fun x hx => hby x (List.mem_of_mem_drop hx)) _ _ (Int.le_refl _)
  · omega
theorem MostSt.bd {n : Nat} {z : List Int} {p c q mo v p' c' q' : Int} (h : MostSt n z p c q mo v p' c' q') (hm : 0 ≤ mo) (hby : ∀ x ∈ z, 0 ≤ x ∧ x < 256) : 0 ≤ v ∧ v ≤ mo := by
  obtain ⟨v0, c0, q0, hr, h⟩ := h
  have := hr.nonneg hby
  rcases h with ⟨_, rfl, _⟩ | ⟨_, rfl, _⟩ <;> omega
theorem FailSt.again {c q c' p c2 q2 c3 q3 : Int} (h : FailSt c q c' p c2 q2) (hc : c' ≠ 0) (k : FailSt c2 q2 c' p c3 q3) : FailSt c q c' p c3 q3 := by
  rcases h with ⟨h1, rfl, rfl⟩ | ⟨h1, rfl, rfl⟩
  · rcases k with ⟨k1, _⟩ | ⟨_, rfl, rfl⟩
    · exact absurd k1 hc
    · exact .inl ⟨h1, rfl, rfl⟩
  · rcases k with ⟨k1, _⟩ | ⟨_, rfl, rfl⟩
    · exact absurd k1 h1
    · exact .inr ⟨h1, rfl, rfl⟩

set_option maxHeartbeats 800000 in
theorem vint_any (b : Nat) (a : Option Addr) (n m : Nat) (z : List Int) (p c q mo : Int) (w : World) (h : IsRd w b (.slice a n m) p c q) (hz : Bs w a n z) (h0 : 0 ≤ p) (h1 : p ≤ n) (hn : n ≤ 1000000) (hby : ∀ x ∈ z, 0 ≤ x ∧ x < 256) (hm : mo ≤ 9223372036854775807) :
    Calls Try.prog 38 #[.pointer (some ⟨b, 0, none⟩), .int .i64 mo] w (IntPost b (.slice a n m) n z p c q mo w) := by
  by_cases hmo : mo < 0
  · have hmo' : ¬ 0 ≤ mo := by omega
    go_enter Try.func38, Try.ntmps38
    go_wp2_with fail
    refine (at_any _ _ _ _ _ _ h).mono ?_
    rintro e w0 ⟨rfl, rfl⟩
    go_wp2_with fail
    refine (vmost_any _ _ _ _ _ _ _ _ _ _ h hz h0 h1 hn hby).mono ?_
    rintro e w1 ⟨v, p', c1, q1, rfl, hk, hr, hs⟩
    rw [show max mo 0 = 0 by omega] at hs
    have hbd := hs.bd (Int.le_refl _) hby
    obtain rfl : v = 0 := by omega
    have HS := Lib.hid hs
    clear hs hbd
    go_wp2_with fail
    refine (fail_any _ _ _ _ _ _ _ _ hr).mono ?_
    rintro e w2 ⟨c2, q2, rfl, hk2, hr2, hf⟩
    have HF := Lib.hid hf
    clear hf
    go_wp2
    go_ret
    refine ⟨0, _, _, _, rfl, hk.trans hk2, hr2, .inr ⟨hmo, rfl, ?_⟩⟩
    obtain ⟨v0, c0, q0, hrd, h⟩ := HS.out
    rcases h with ⟨_, _, hf1⟩ | ⟨_, _, rfl, rfl⟩
    · exact ⟨_, _, _, hrd, hf1.again (by omega) HF.out⟩
    · exact ⟨_, _, _, hrd, HF.out⟩
  · have hmo' : 0 ≤ mo := by omega
    go_enter Try.func38, Try.ntmps38
    go_wp2_with fail
    refine (at_any _ _ _ _ _ _ h).mono ?_
    rintro e w0 ⟨rfl, rfl⟩
    go_wp2_with fail
    refine (vmost_any _ _ _ _ _ _ _ _ _ _ h hz h0 h1 hn hby).mono ?_
    rintro e w1 ⟨v, p', c1, q1, rfl, hk, hr, hs⟩
    rw [show max mo 0 = mo by omega] at hs
    obtain ⟨b0, b1⟩ := hs.bd hmo' hby
    have HS := Lib.hid hs
    clear hs
    have b2 : v ≤ 9223372036854775807 := by omega
    go_wp2
    go_ret
    exact ⟨v, _, _, _, rfl, hk, hr, .inl ⟨hmo', HS.out⟩⟩

/-- The number at the front of bytes: where there is a fault there is no number, and the other way round. -/
theorem vgo_shape (l : List Int) : ∀ (i : Nat) (X : Int), ((vgo l i X).2.2.1 ≠ 0 → (vgo l i X).1 = 0 ∧ (vgo l i X).2.1 = 0) ∧ ((vgo l i X).2.2.1 = 0 → (vgo l i X).2.2.2 = 0) := by
  induction l with
  | nil => intro i X; exact ⟨fun _ => ⟨rfl, rfl⟩, fun h => absurd h (by show (1 : Int) ≠ 0; omega)⟩
  | cons b l ih =>
    intro i X
    unfold vgo
    split
    · exact ⟨fun _ => ⟨rfl, rfl⟩, fun h => absurd h (by show (5 : Int) ≠ 0; omega)⟩
    · split
      · exact ⟨fun _ => ⟨rfl, rfl⟩, fun h => absurd h (by show (4 : Int) ≠ 0; omega)⟩
      · split
        · exact ⟨fun h => absurd rfl h, fun _ => rfl⟩
        · exact ih _ _
/-- What Get tells. -/
abbrev gv (g : Int × Int × Int × Int) : Value := .tuple #[.int .u64 g.1, .int .i64 g.2.1, .agg #[.int .i64 g.2.2.1, .int .i64 g.2.2.2]]

end Go.Proofs.Ytkedmhopajpkhaa.Cur
