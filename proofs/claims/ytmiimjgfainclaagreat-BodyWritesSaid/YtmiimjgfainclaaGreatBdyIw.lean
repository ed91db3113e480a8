/- As the seat's text, without what nothing here names. -/
import Derived.Test.YtmiimjgfainclaaGreatBdyDw
import Derived.Test.YtmiimjgfainclaaGreatBdyGw
import Derived.Test.YtmiimjgfainclaaGreatKndEw
namespace Go.Proofs.YtmiimjgfainclaaGreat.Cur
open Go.RowKit Mem
set_option linter.unusedVariables false
set_option linter.unusedSimpArgs false
set_option maxRecDepth 100000
set_option maxHeartbeats 1000000 in
theorem rhas28_any (k x : Int) (w : World) : Calls Tryz.prog 60 #[.int .i64 k, .int .i64 x] w (BPost (.bool (kh k x)) w) := by
  have hcon := rkhas_any k x w
  unfold BPost at hcon ⊢
  generalize kh k x = r at *
  go_enter Tryz.func60, Tryz.ntmps60
  go_wp2_with fail
  refine hcon.mono ?_
  rintro e w1 ⟨rfl, hb1⟩
  go_wp2
  go_ret
  exact ⟨rfl, hb1⟩
def rmost (k : Int) : Int := if k = 9 then 4 else 20
set_option maxHeartbeats 1000000 in
theorem rmost28_any (k : Int) (w : World) : Calls Tryz.prog 62 #[.int .i64 k] w (BPost (.int .i64 (rmost k)) w) := by
  unfold BPost
  by_cases h : k = 9
  · subst h
    go_enter Tryz.func62, Tryz.ntmps62
    go_wp2
    go_ret
    exact ⟨rfl, Below.refl _ _⟩
  · have h1 : (k == 9) = false := by simpa using h
    have HE : Hid (rmost k = 20) := Lib.hid (if_neg h)
    clear h
    go_enter Tryz.func62, Tryz.ntmps62
    go_wp2
    go_ret
    exact ⟨by rw [HE.out]; rfl, Below.refl _ _⟩
def rblk (k t : Int) : Bool := decide (k = 2 ∨ (k = 9 ∧ t = 1))
set_option maxHeartbeats 1000000 in
theorem rblock28_any (k t : Int) (w : World) : Calls Tryz.prog 20 #[.int .i64 k, .int .i64 t] w (BPost (.bool (rblk k t)) w) := by
  unfold BPost
  by_cases h : k = 2
  · subst h
    go_enter Tryz.func20, Tryz.ntmps20
    go_wp2
    go_ret
    exact ⟨by simp [rblk], Below.refl _ _⟩
  have h1 : (k == 2) = false := by simpa using h
  by_cases h2 : k = 9
  · subst h2
    clear h h1
    have HE : Hid (rblk 9 t = (t == 1)) := Lib.hid (by unfold rblk; rw [Bool.eq_iff_iff]; simp)
    go_enter Tryz.func20, Tryz.ntmps20
    go_wp2
    go_ret
    exact ⟨by rw [HE.out]; rfl, Below.refl _ _⟩
  · have h3 : (k == 9) = false := by simpa using h2
    have HE : Hid (rblk k t = false) := Lib.hid (by unfold rblk; exact decide_eq_false (by omega))
    clear h h2
    go_enter Tryz.func20, Tryz.ntmps20
    go_wp2
    go_ret
    exact ⟨by rw [HE.out]; rfl, Below.refl _ _⟩
theorem kh_data {k : Int} : kh k 32 = true ↔ k = 2 ∨ k = 9 := by
  by_cases h : 1 ≤ k ∧ k ≤ 14
  · rcases cases14 h.1 h.2 with rfl | rfl | rfl | rfl | rfl | rfl | rfl | rfl | rfl | rfl | rfl | rfl | rfl | rfl <;> decide
  · constructor
    · intro hk
      exact absurd (kh_kind hk) h
    · intro hk; omega
theorem kh_state {k : Int} (h : kh k 4 = true) : rmost k = bmost k := by
  obtain ⟨h1, h2⟩ := kh_kind h
  rcases cases14 h1 h2 with rfl | rfl | rfl | rfl | rfl | rfl | rfl | rfl | rfl | rfl | rfl | rfl | rfl | rfl <;> first | rfl | exact absurd h (by decide)
theorem rblk_is (M : Ms) : rblk M.k M.t = (kh M.k 32 && bears M) := by
  rw [Bool.eq_iff_iff, Bool.and_eq_true, kh_data]
  unfold rblk bears
  simp only [decide_eq_true_eq]
  omega
theorem bdk_out {M : Ms} (h : ¬ (1 ≤ M.k ∧ M.k ≤ 14)) : bdk M = false := by
  unfold bdk kri
  rw [decide_eq_false h, Bool.and_false]
theorem bdk_in {M : Ms} (h : 1 ≤ M.k ∧ M.k ≤ 14) : bdk M = (bfit M 0 && (bfit M 1 && (bfit M 2 && (bfit M 3 && (bfit M 4 && (bfit M 5 && (bfit M 6 && bfit M 7))))))) := by
  unfold bdk kri
  rw [decide_eq_true h, Bool.and_true]
  simp [bfk, Bool.and_assoc]
end Go.Proofs.YtmiimjgfainclaaGreat.Cur
