/- The document's Fixed. -/
import Derived.Test.YtafbmickbgccfaaPenR
namespace Go.Proofs.Ytafbmickbgccfaa.Cur
open Go.RowKit Mem
set_option linter.unusedVariables false

def RFixPost (z : List Int) (w : World) (e : Ending) (w' : World) : Prop :=
  ∃ A m, e = .returned (.slice A z.length m) ∧ Below w.heap.size w w' ∧ Bs w' A z.length z ∧ (A = none → m = 0) ∧ ∀ a, A = some a → w.heap.size ≤ a.block

theorem fixN_iff (n : Int) (j : Nat) : j < fixN n ↔ (j : Int) < n ∧ (j : Int) < 8 := by
  unfold fixN; repeat' split <;> omega

theorem two56 (j : Nat) : (2 : Int) ^ (8 * j) = 256 ^ j := by
  induction j with
  | zero => rfl
  | succ j ih => rw [Nat.mul_succ, Int.pow_add, ih, Int.pow_succ]; rfl

set_option maxHeartbeats 800000 in
theorem rfixed_any (x n : Int) (w : World) (h0 : 0 ≤ x) (h1 : x < 18446744073709551616) :
    Calls Try.prog 15 #[.int .u64 x, .int .i64 n] w (RFixPost (fixZ x (fixN n)) w) := by
  go_enter Try.func15, Try.ntmps15
  go_wp2
  go_loopw [5, 6] (fun v i wr => ∃ j : Nat, j ≤ fixN n ∧ i = .int .i64 j ∧ Own wr w.heap.size v (fixZ x j) ∧ Below w.heap.size w wr) (fun _ i _ => fixN n - (intOf i).toNat)
  case atStart => exact ⟨0, Nat.zero_le _, rfl, Own.nil _ _, Below.refl _ _⟩
  case round =>
    obtain ⟨j, hj, rfl, hown, hbd⟩ := hrel
    have j1 : (0 : Int) ≤ j := by omega
    have hK := fixN_le n
    by_cases hlt : j < fixN n
    · obtain ⟨j2, j3⟩ := (fixN_iff n j).1 hlt
      obtain ⟨A, m, rfl⟩ := hown.slice
      have hnx : fixZ x j ++ [x / 2 ^ (8 * j) % 256] = fixZ x (j + 1) := by rw [two56, fixZ_succ]
      have HN := Lib.hid hnx
      clear hnx
      have hbs : Bs (wr.alloc (.cells #[.int .u8 (x / 2 ^ (8 * j) % 256)] 5)) (some ⟨wr.heap.size, 0, none⟩) 1 [x / 2 ^ (8 * j) % 256] := Bs.of_block (z := [x / 2 ^ (8 * j) % 256]) (heap_alloc_new _ _)
      have hl := fixZ_length x j
      go_wp2_with (at_builtin; go_must (refine list_append_bs rfl (.tmp 16) (.tmp 23) rfl w.heap.size (.slice A (fixZ x j).length m) (fixZ x j) rfl (hown.below (below_one _ _)) (some ⟨wr.heap.size, 0, none⟩) 1 1 [x / 2 ^ (8 * j) % 256] rfl hbs (by simp) (by rw [hl]; omega) (by have := hbd.size; simp; omega) ?_; intro v1 w1 hown1 hg1; have hb1 := Own.belowOf (hbd.alloc hbd.size _) (by have := hbd.size; simp; omega) (hown.below (below_one _ _)) hg1; rw [HN.out] at hown1; clear hg1 hown hbd hbs))
      go_roundw
      case rel => exact ⟨j + 1, by omega, by go_num, hown1, hb1⟩
      case measure => simp [intOf]; omega
    · have hjk : j = fixN n := by omega
      have hK' : (j : Int) < n → (j : Int) < 8 → False := fun a b => hlt ((fixN_iff n j).2 ⟨a, b⟩)
      obtain ⟨A, m, rfl⟩ := hown.slice
      have hp : RFixPost (fixZ x (fixN n)) w (.returned (.slice A (fixZ x j).length m)) wr := by
        rw [← hjk]
        refine ⟨A, m, rfl, hbd, hown.bs.2, ?_, ?_⟩
        · intro e
          subst e
          rcases hown.2 with ⟨e, _⟩ | ⟨g, cap, cur, e, _⟩
          · injection e
          · injection e with e; cases e
        · intro a ha
          subst ha
          rcases hown.2 with ⟨e, _⟩ | ⟨g, cap, cur, e, hg, _⟩
          · injection e with e; cases e
          · injection e with e; injection e with e; subst e; exact hg
      have HP := Lib.hid hp
      clear hp hown hbd hjk
      by_cases hjn : (j : Int) < n
      · have hj8 : ¬ (j : Int) < 8 := fun h => hK' hjn h
        clear hK'
        go_wp2
        go_ret
        exact HP.out
      · have hjd : decide ((j : Int) < n) = false := by simpa using hjn
        clear hK'
        go_wp2
        go_ret
        exact HP.out
end Go.Proofs.Ytafbmickbgccfaa.Cur
