/- Two lists of numbers that are the same are told the same. -/
import Derived.Test.YtogfjejodoefeaaDoorK1
import Derived.Deep.QuietTactic
import Derived.BigQuiet
namespace Go.Proofs.YtogfjejodoefeaaDoor.Cur
open Go.RowKit Mem
set_option linter.unusedVariables false
set_option maxRecDepth 100000

theorem Us.cells {w : World} {A : Option Addr} {n : Nat} {z : List Int} (h : Us w A n z) (hn : 0 < n) : ∃ g o, A = some ⟨g, o, none⟩ ∧ g < w.heap.size ∧ ∀ w', Below w.heap.size w w' → ∀ k, k < n → w'.cell? ⟨g, o + k, none⟩ = some (.int .u64 (z.getD k 0)) := by
  obtain ⟨g, o, e, h0⟩ := h.at_ hn
  refine ⟨g, o, e, lt_of_cell h0, fun w' hb k hk => ?_⟩
  obtain ⟨g', o', e', hc⟩ := (h.below hb).at_ hk
  rw [e] at e'
  injection e' with e'
  injection e' with e1 e2
  subst e1 e2
  exact hc

set_option maxHeartbeats 1000000 in
theorem same5_any (A B : Option Addr) (n m c d : Nat) (z : List Int) (w : World) (ha : Us w A n z) (hb : Us w B m z) (hn : n ≤ 1000000) (hby : ∀ x ∈ z, 0 ≤ x ∧ x < 18446744073709551616) :
    Calls Tryd.prog 26 #[.slice A n c, .slice B m d] w (BPost (.bool true) w) := by
  unfold BPost
  obtain rfl : m = n := by rw [← ha.1, ← hb.1]
  by_cases hn0 : m = 0
  · subst hn0
    clear ha hb
    go_enter Tryd.func26, Tryd.ntmps26
    go_wp2
    go_loopw [5] (fun i wr => i = .int .i64 0 ∧ wr = w) (fun i _ => 0)
    case atStart => exact ⟨rfl, rfl⟩
    case round =>
      obtain ⟨rfl, rfl⟩ := hrel
      go_wp2
      go_ret
      exact ⟨rfl, Below.refl _ _⟩
  · have hzl := ha.1
    obtain ⟨g, o, rfl, hg, hc⟩ := ha.cells (by omega)
    obtain ⟨g', o', rfl, hg', hc'⟩ := hb.cells (by omega)
    have HC := Lib.hid hc
    have HC' := Lib.hid hc'
    have HB := Lib.hid hby
    have HZ := Lib.hid hzl
    clear hc hc' ha hb hby hzl
    go_enter Tryd.func26, Tryd.ntmps26
    go_wp2
    go_loopw [5] (fun i wr => ∃ k : Nat, k ≤ m ∧ i = .int .i64 k ∧ Below w.heap.size w wr) (fun i _ => m - (intOf i).toNat)
    case atStart => exact ⟨0, by omega, rfl, Below.refl _ _⟩
    case round =>
      obtain ⟨k, hk, rfl, hb⟩ := hrel
      by_cases hlt : k < m
      · have c0 := HC.out wr hb k hlt
        have c1 := HC'.out wr hb k hlt
        have b0 := HB.out _ (getD_mem (z := z) (k := k) (by rw [HZ.out]; exact hlt))
        generalize z.getD k 0 = x at *
        have e2 : (k : Int) < m := by omega
        go_wp2
        go_quiet (fail)
        go_wp2
        go_roundw
        case rel => exact ⟨k + 1, hlt, by go_num, below_drewN hb _⟩
        case measure => simp [intOf]; omega
      · go_wp2
        go_ret
        exact ⟨rfl, hb⟩

end Go.Proofs.YtogfjejodoefeaaDoor.Cur
