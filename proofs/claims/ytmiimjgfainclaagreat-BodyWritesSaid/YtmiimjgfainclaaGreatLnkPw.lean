/- As the seat's text, without what nothing here names. -/
import Derived.Test.YtmiimjgfainclaaGreatK35w
namespace Go.Proofs.YtmiimjgfainclaaGreat.Cur
open Go.RowKit Mem
set_option linter.unusedVariables false
set_option maxRecDepth 100000
def LgLPost (n : Nat) (L : List Lk) (w : World) (e : Ending) (w' : World) : Prop := ∃ b, e = .returned (.bool b) ∧ Below w.heap.size w w' ∧ (b = false → n ≤ 50 ∧ blen 50 L)
set_option maxHeartbeats 2000000 in
theorem long23_any (P : Nat → Prop) (A : Option Addr) (n m : Nat) (L : List Lk) (w : World) (hz : Lks w P A n L) :
    Calls Tryz.prog 29 #[.slice A n m] w (LgLPost n L w) := by
  have HL := Lib.hid hz.1
  have HC := Lib.hid (fun h => hz.cells h)
  clear hz
  go_enter Tryz.func29, Tryz.ntmps29
  go_wp2
  go_loopw [3] (fun i wr => ∃ k : Nat, k ≤ n ∧ k ≤ 50 ∧ i = .int .i64 k ∧ Hid (∀ j, j < k → (L.getD j lk0).2.length ≤ 50) ∧ Below w.heap.size w wr) (fun i _ => 50 - (intOf i).toNat)
  case atStart => exact ⟨0, by omega, by omega, rfl, Lib.hid (by intro j hj; omega), Below.refl _ _⟩
  case round =>
    obtain ⟨k, hk, hk50, rfl, hj, hbd⟩ := hrel
    by_cases hlt : k < n
    · have e1 : (k : Int) < n := by omega
      by_cases h50 : k < 50
      · have e2 : (k : Int) < 50 := by omega
        obtain ⟨g, o, rfl, _, hg, hc⟩ := HC.out (by omega)
        obtain ⟨x, z, a, l, mm, he, _, hl, _, _, _, _, _, _, hcell⟩ := hc k hlt
        obtain ⟨c0, c1⟩ := hcell wr hbd
        have HLL : Hid ((L.getD k lk0).2.length = l) := Lib.hid (by rw [he]; exact hl)
        have e3 : IntKind.i64.wrap ((k : Int) + 1) = ((k + 1 : Nat) : Int) := IntWalk.i64_in _ (by omega)
        clear hc hl hcell he
        by_cases hl2 : 50 < (l : Int)
        · go_wp2
          go_ret
          exact ⟨true, rfl, hbd, fun h => by cases h⟩
        · have HL3 : Hid (l ≤ 50) := Lib.hid (by omega)
          go_wp2
          go_roundw
          case rel => exact ⟨k + 1, by omega, by omega, by go_num, Lib.hid (fun j hjk => by
            rcases Nat.lt_or_ge j k with h | h
            · exact hj.out j h
            · obtain rfl : j = k := by omega
              rw [HLL.out]; exact HL3.out), hbd⟩
          case measure => simp [intOf]; omega
      · have e2 : ¬ (k : Int) < 50 := by omega
        have e3 : 50 < (n : Int) := by omega
        go_wp2
        go_ret
        exact ⟨true, rfl, hbd, fun h => by cases h⟩
    · obtain rfl : k = n := by omega
      have e3 : ¬ 50 < (k : Int) := by omega
      have HN : Hid (blen 50 L) := Lib.hid fun l hl => by
        obtain ⟨j, hj2, e⟩ := List.mem_iff_getElem.1 hl
        have := hj.out j (by rw [← HL.out]; exact hj2)
        rw [List.getD_eq_getElem?_getD, List.getElem?_eq_getElem hj2, Option.getD_some, e] at this
        exact this
      go_wp2
      go_ret
      exact ⟨false, rfl, hbd, fun _ => ⟨hk50, HN.out⟩⟩
end Go.Proofs.YtmiimjgfainclaaGreat.Cur
