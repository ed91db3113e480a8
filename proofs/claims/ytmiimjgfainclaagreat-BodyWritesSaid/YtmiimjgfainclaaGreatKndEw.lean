/- As the seat's text, without what nothing here names. -/
import Derived.Test.YtmiimjgfainclaaGreatKndBw
import Derived.Test.YtmiimjgfainclaaGreatKndDw
namespace Go.Proofs.YtmiimjgfainclaaGreat.Cur
open Go.RowKit Mem
set_option linter.unusedVariables false
set_option maxRecDepth 100000
theorem pow_cases {x : Int} (h : x = 1 ∨ x = 2 ∨ x = 4 ∨ x = 8 ∨ x = 16 ∨ x = 32 ∨ x = 64 ∨ x = 128) : ∃ i : Nat, i < 8 ∧ x = ((2 ^ i : Nat) : Int) := by
  rcases h with rfl | rfl | rfl | rfl | rfl | rfl | rfl | rfl
  · exact ⟨0, by decide, rfl⟩
  · exact ⟨1, by decide, rfl⟩
  · exact ⟨2, by decide, rfl⟩
  · exact ⟨3, by decide, rfl⟩
  · exact ⟨4, by decide, rfl⟩
  · exact ⟨5, by decide, rfl⟩
  · exact ⟨6, by decide, rfl⟩
  · exact ⟨7, by decide, rfl⟩
theorem cases_pow {i : Nat} (h : i < 8) : ((2 ^ i : Nat) : Int) = 1 ∨ ((2 ^ i : Nat) : Int) = 2 ∨ ((2 ^ i : Nat) : Int) = 4 ∨ ((2 ^ i : Nat) : Int) = 8 ∨ ((2 ^ i : Nat) : Int) = 16 ∨ ((2 ^ i : Nat) : Int) = 32 ∨ ((2 ^ i : Nat) : Int) = 64 ∨ ((2 ^ i : Nat) : Int) = 128 := by
  match i, h with
  | 0, _ => decide
  | 1, _ => decide
  | 2, _ => decide
  | 3, _ => decide
  | 4, _ => decide
  | 5, _ => decide
  | 6, _ => decide
  | 7, _ => decide
set_option maxHeartbeats 4000000 in
theorem rkhas_any (k x : Int) (w : World) : Calls Tryz.prog 116 #[.int .i64 k, .int .i64 x] w (BPost (.bool (kh k x)) w) := by
  obtain ⟨hP0, hP, _, _⟩ := kof_bd k
  unfold BPost
  go_enter Tryz.func116, Tryz.ntmps116
  go_wp2
  go_loopw [5] (fun p wr => ∃ i : Nat, i ≤ 8 ∧ p = .int .i64 ((2 ^ i : Nat) : Int) ∧ (∀ j, j < i → ((2 ^ j : Nat) : Int) = x → (kof k).2.1 / x % 2 ≠ 1) ∧ Below w.heap.size w wr) (fun p _ => 300 - (intOf p).toNat)
  case atStart => exact ⟨0, by omega, rfl, fun j hj => by omega, Below.refl _ _⟩
  case round =>
    obtain ⟨i, hi, rfl, hno, hb⟩ := hrel
    by_cases h8 : i = 8
    · subst h8
      have e : kh k x = false := by
        unfold kh
        rw [Bool.and_eq_false_iff]
        by_cases hx : x = 1 ∨ x = 2 ∨ x = 4 ∨ x = 8 ∨ x = 16 ∨ x = 32 ∨ x = 64 ∨ x = 128
        · obtain ⟨j, hj, e⟩ := pow_cases hx
          exact .inr (decide_eq_false (hno j hj e.symm))
        · exact .inl (decide_eq_false hx)
      have HE := Lib.hid e
      have HB := Lib.hid hb
      clear hno hb e
      have e8 : (((2 ^ 8 : Nat) : Int)) = 256 := by decide
      rw [e8]
      go_wp2
      go_ret
      exact ⟨by rw [HE.out]; rfl, HB.out⟩
    · have h7 : i < 8 := by omega
      have hc := cases_pow h7
      have hp2 : IntKind.i64.wrap (2 * ((2 ^ i : Nat) : Int)) = ((2 ^ (i + 1) : Nat) : Int) := by
        rw [Nat.pow_succ, IntWalk.i64_in _ (by omega)]; omega
      have hstep : ∀ j, j < i + 1 → ((2 ^ j : Nat) : Int) = x → ¬ (((2 ^ i : Nat) : Int) = x ∧ (kof k).2.1 / x % 2 = 1) → (kof k).2.1 / x % 2 ≠ 1 := fun j hj e hn h => by
        by_cases hji : j = i
        · subst hji; exact hn ⟨e, h⟩
        · exact hno j (by omega) e h
      have HN : Hid (∀ j, j < i → ((2 ^ j : Nat) : Int) = x → (kof k).2.1 / x % 2 ≠ 1) := Lib.hid hno
      have HST := Lib.hid hstep
      have HB := Lib.hid hb
      have HC := Lib.hid hc
      have hmono : 2 ^ (i + 1) = 2 * 2 ^ i := by rw [Nat.pow_succ]; omega
      have hle : ((2 ^ i : Nat) : Int) ≤ 128 := by omega
      have hge : 1 ≤ ((2 ^ i : Nat) : Int) := by omega
      have hsub : (2 ^ (i + 1) : Nat) = 2 * (2 ^ i : Nat) := hmono
      have HS := Lib.hid hsub
      generalize hq : (2 ^ i : Nat) = q at *
      have HQ := Lib.hid hq
      clear hno hstep hb hc hmono hq hsub
      clear hp2
      by_cases hx : (q : Int) = x
      · have HX := Lib.hid hx
        have ht : ((kof k).2.1 / x).tmod 2 = (kof k).2.1 / x % 2 := Int.tmod_eq_emod_of_nonneg (Int.ediv_nonneg hP0 (by omega))
        by_cases hd : (kof k).2.1 / x % 2 = 1
        · rw [hd] at ht
          have e : kh k x = true := by
            unfold kh
            rw [Bool.and_eq_true, ← hx]
            exact ⟨decide_eq_true HC.out, decide_eq_true (by rw [hx]; exact hd)⟩
          have HE := Lib.hid e
          clear e
          go_wp2_with fail
          refine (rkof_any k _).mono ?_
          rintro e w1 ⟨rfl, hb1⟩
          unfold kagg
          obtain ⟨F0, F1, F2⟩ := rkfield (kof k).1 (kof k).2.1 (kof k).2.2 w1
          go_wp2
          go_ret
          exact ⟨by rw [HE.out]; rfl, HB.out.trans (hb1.mono HB.out.size)⟩
        · have ht1 : ((kof k).2.1 / x).tmod 2 ≠ 1 := by rw [ht]; exact hd
          clear ht
          go_wp2_with fail
          refine (rkof_any k _).mono ?_
          rintro e w1 ⟨rfl, hb1⟩
          unfold kagg
          obtain ⟨F0, F1, F2⟩ := rkfield (kof k).1 (kof k).2.1 (kof k).2.2 w1
          go_wp2
          go_roundw
          case rel => exact ⟨i + 1, by omega, by rw [HS.out, Int.natCast_mul, HX.out]; rfl, fun j hj e => HST.out j hj e (fun h => hd h.2), HB.out.trans (hb1.mono HB.out.size)⟩
          case measure => simp [intOf]; omega
      · have HX := Lib.hid hx
        go_wp2
        go_roundw
        case rel => exact ⟨i + 1, by omega, by rw [HS.out, Int.natCast_mul]; rfl, fun j hj e => HST.out j hj e (fun h => HX.out h.1), HB.out⟩
        case measure => simp [intOf]; omega
end Go.Proofs.YtmiimjgfainclaaGreat.Cur
