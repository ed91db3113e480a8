/- The epoch behind one. -/
import Derived.Test.YtpilpkhgoonfaaaEpoA
import Derived.IntWalk
namespace Go.Proofs.Ytpilpkhgoonfaaa.Cur
open Go.RowKit Mem
set_option linter.unusedVariables false

/-- Is there an epoch behind one? -/
def nxk (x : Int) : Bool := decide (1 ≤ x ∧ x < 4611686018427387903)
def nxv (x : Int) : Int := if nxk x then x + 1 else 0
theorem enext_any (x : Int) (h0 : 0 ≤ x) (h1 : x < 18446744073709551616) (w : World) :
    Calls Try.prog 25 #[.int .u64 x] w fun e w' => e = .returned (.tuple #[.int .u64 (nxv x), .bool (nxk x)]) ∧ w = w' := by
  by_cases hR : epk x = true
  · obtain ⟨r0, r1⟩ := epk_bd hR
    by_cases hN : epk (x + 1) = true
    · obtain ⟨s0, s1⟩ := epk_bd hN
      have hk : nxk x = true := decide_eq_true ⟨r0, by omega⟩
      have hv : nxv x = x + 1 := by unfold nxv; rw [hk]; rfl
      generalize nxv x = v at hv
      generalize nxk x = k at hk
      go_enter Try.func25, Try.ntmps25
      go_wp2_with fail
      refine (eright_any _ _).mono ?_
      rintro e w' ⟨rfl, rfl⟩
      rw [hR]
      go_wp2_with fail
      refine (eright_any _ _).mono ?_
      rintro e w' ⟨rfl, rfl⟩
      rw [hN]
      go_wp2
      refine bodyPost_ret (v := .tuple #[.int .u64 v, .bool k]) (by simp [results, Try.results25, go_sem, hv, hk]) rfl ⟨rfl, rfl⟩
    · have hN' : epk (x + 1) = false := by simpa using hN
      have hk : nxk x = false := decide_eq_false fun h => hN (epk_yes (by omega) (by omega))
      have hv : nxv x = 0 := by unfold nxv; rw [hk]; rfl
      clear hN
      generalize nxv x = v at hv
      generalize nxk x = k at hk
      go_enter Try.func25, Try.ntmps25
      go_wp2_with fail
      refine (eright_any _ _).mono ?_
      rintro e w' ⟨rfl, rfl⟩
      rw [hR]
      go_wp2_with fail
      refine (eright_any _ _).mono ?_
      rintro e w' ⟨rfl, rfl⟩
      rw [hN']
      go_wp2
      refine bodyPost_ret (v := .tuple #[.int .u64 v, .bool k]) (by simp [results, Try.results25, go_sem, hv, hk]) rfl ⟨rfl, rfl⟩
  · have hR' : epk x = false := by simpa using hR
    have hk : nxk x = false := decide_eq_false fun h => hR (epk_yes (by omega) (by omega))
    have hv : nxv x = 0 := by unfold nxv; rw [hk]; rfl
    clear hR
    generalize nxv x = v at hv
    generalize nxk x = k at hk
    go_enter Try.func25, Try.ntmps25
    go_wp2_with fail
    refine (eright_any _ _).mono ?_
    rintro e w' ⟨rfl, rfl⟩
    rw [hR']
    go_wp2
    refine bodyPost_ret (v := .tuple #[.int .u64 v, .bool k]) (by simp [results, Try.results25, go_sem, hv, hk]) rfl ⟨rfl, rfl⟩

/-- The greatest of the first k numbers, and are all of them epochs? -/
def latk (z : List Int) : Nat → Int
  | 0 => 0
  | k + 1 => max (latk z k) (z.getD k 0)
def allk (z : List Int) : Nat → Bool
  | 0 => true
  | k + 1 => allk z k && epk (z.getD k 0)
theorem latk_bd {z : List Int} (h : ∀ x ∈ z, 0 ≤ x ∧ x < 18446744073709551616) (k : Nat) : 0 ≤ latk z k ∧ latk z k < 18446744073709551616 := by
  induction k with
  | zero => exact ⟨Int.le_refl _, by show (0 : Int) < _; decide⟩
  | succ k ih =>
    have hx : 0 ≤ z.getD k 0 ∧ z.getD k 0 < 18446744073709551616 := by
      rcases Nat.lt_or_ge k z.length with h1 | h1
      · exact h _ (getD_mem h1)
      · rw [List.getD_eq_getElem?_getD, List.getElem?_eq_none h1]; exact ⟨Int.le_refl _, by decide⟩
    show 0 ≤ max (latk z k) (z.getD k 0) ∧ max (latk z k) (z.getD k 0) < _
    omega
theorem allk_not {z : List Int} {k j : Nat} (h : allk z k = false) (hk : k ≤ j) : allk z j = false := by
  induction j with
  | zero => obtain rfl : k = 0 := by omega
            exact h
  | succ j ih =>
    rcases Nat.lt_or_ge k (j + 1) with h1 | h1
    · show (allk z j && _) = false
      rw [ih (by omega)]; rfl
    · obtain rfl : k = j + 1 := by omega
      exact h

set_option maxHeartbeats 1000000 in
theorem elatest_any (A : Option Addr) (n m : Nat) (z : List Int) (w : World) (hz : Us w A n z) (hn : n ≤ 1000000) (hby : ∀ x ∈ z, 0 ≤ x ∧ x < 18446744073709551616) :
    Calls Try.prog 26 #[.slice A n m] w (BPost (.tuple #[.int .u64 (if allk z n then latk z n else 0), .bool (allk z n && decide (0 < n))]) w) := by
  unfold BPost
  by_cases hn0 : n = 0
  · subst hn0
    go_enter Try.func26, Try.ntmps26
    go_wp2
    go_loopw [4, 9] (fun v i wr => i = .int .i64 0 ∧ v = .int .u64 0 ∧ wr = w) (fun _ _ _ => 0)
    case atStart => exact ⟨rfl, rfl, rfl⟩
    case round =>
      obtain ⟨rfl, rfl, rfl⟩ := hrel
      go_wp2
      go_ret2
      exact ⟨rfl, Below.refl _ _⟩
  · obtain ⟨g, o, rfl, hg, hc⟩ := hz.cells (by omega)
    have HC := Lib.hid hc
    have HZ := Lib.hid hz.1
    have HB := Lib.hid hby
    have HLB := Lib.hid (latk_bd hby)
    clear hc hz hby
    obtain ⟨R, hR⟩ : ∃ R : Value, R = .tuple #[.int .u64 (if allk z n then latk z n else 0), .bool (allk z n && decide (0 < n))] := ⟨_, rfl⟩
    rw [← hR]
    have HRR := Lib.hid hR
    clear hR
    go_enter Try.func26, Try.ntmps26
    go_wp2
    go_loopw [4, 9] (fun v i wr => ∃ k : Nat, k ≤ n ∧ i = .int .i64 k ∧ v = .int .u64 (latk z k) ∧ Hid (allk z k = true) ∧ Below w.heap.size w wr) (fun _ i _ => n - (intOf i).toNat)
    case atStart => exact ⟨0, by omega, rfl, rfl, Lib.hid rfl, Below.refl _ _⟩
    case round =>
      obtain ⟨k, hk, rfl, rfl, ha, hb⟩ := hrel
      obtain ⟨T, hT⟩ : ∃ T, T = latk z k := ⟨_, rfl⟩
      have hTb := HLB.out k
      rw [← hT] at hTb ⊢
      have HT := Lib.hid hT
      clear hT
      by_cases hlt : k < n
      · have c0 := HC.out wr hb k hlt
        obtain ⟨x0, hx0⟩ : ∃ x, x = z.getD k 0 := ⟨_, rfl⟩
        have b0 := HB.out x0 (by rw [hx0]; exact getD_mem (by rw [HZ.out]; omega))
        rw [← hx0] at c0
        have HX0 := Lib.hid hx0
        clear hx0
        have e2 : (k : Int) < n := by omega
        have e3 : IntKind.i64.wrap ((k : Int) + 1) = ((k + 1 : Nat) : Int) := IntWalk.i64_in _ (by omega)
        cases hE : epk x0
        · have HE : Hid (allk z (k + 1) = false) := Lib.hid (by show (allk z k && epk (z.getD k 0)) = false; rw [← HX0.out, hE, Bool.and_false])
          go_wp2_with fail
          refine (eright_any _ _).mono ?_
          rintro e w' ⟨rfl, rfl⟩
          rw [hE]
          go_wp2
          refine bodyPost_ret (v := R) (by rw [HRR.out, allk_not HE.out (by omega)]; simp [results, Try.results26, go_sem]) rfl ⟨rfl, hb⟩
        · have HE : Hid (allk z (k + 1) = true) := Lib.hid (by show (allk z k && epk (z.getD k 0)) = true; rw [← HX0.out, hE, Bool.and_true]; exact ha.out)
          have HM : Hid (latk z (k + 1) = max T x0) := Lib.hid (by show max (latk z k) (z.getD k 0) = _; rw [HT.out, HX0.out])
          go_wp2_with fail
          refine (eright_any _ _).mono ?_
          rintro e w' ⟨rfl, rfl⟩
          rw [hE]
          go_wp2
          go_roundw
          case rel => exact ⟨k + 1, by omega, by go_num, by rw [HM.out], HE, hb⟩
          case measure => simp [intOf]; omega
      · obtain rfl : k = n := by omega
        have HD : Hid (decide (0 < k) = true) := Lib.hid (decide_eq_true (by omega))
        go_wp2
        refine bodyPost_ret (v := R) (by rw [HRR.out, ha.out, HD.out, ← HT.out]; simp [results, Try.results26, go_sem]) rfl ⟨rfl, hb⟩
end Go.Proofs.Ytpilpkhgoonfaaa.Cur
