/- As the seat's text, without what nothing here names. -/
import Derived.Test.YtlealkfkddhnnaaGreatBtcSv
namespace Go.Proofs.YtlealkfkddhnnaaGreat.Cur
open Go.RowKit Mem
set_option linter.unusedVariables false
set_option maxRecDepth 100000
def GrPost (z : List Int) (w : World) (e : Ending) (w' : World) : Prop := ∃ b, e = .returned (.bool b) ∧ Below w.heap.size w w' ∧ (b = false → NoGr z)
set_option maxHeartbeats 1000000 in
theorem great_any (A : Option Addr) (n m : Nat) (z : List Int) (w : World) (hz : Bs w A n z) (hby : ∀ x ∈ z, 0 ≤ x ∧ x < 256) (hn : n ≤ 1000000) : Calls Tryz.prog 21 #[.slice A n m] w (GrPost z w) := by
  have HBY := Lib.hid (fun k => (⟨by_at hby k, by_at hby (k + 1)⟩ : _ ∧ _))
  have HZL := Lib.hid hz.1
  clear hby
  obtain ⟨wo, hwo⟩ : ∃ wo, w = wo := ⟨_, rfl⟩
  have hb0 := Below.refl w.heap.size w
  rw [hwo] at hb0 ⊢
  go_enter Tryz.func21, Tryz.ntmps21
  go_wp2
  go_loopw [3] (fun i wr => ∃ k : Nat, k ≤ n ∧ i = .int .i64 k ∧ Hid (∀ j, j < k → ¬ (128 ≤ z.getD j 0 ∧ 3 ≤ z.getD (j + 1) 0)) ∧ Below wo.heap.size wo wr) (fun i _ => n - (intOf i).toNat)
  case atStart => exact ⟨0, by omega, rfl, Lib.hid (fun j hj => absurd hj (by omega)), Below.refl _ _⟩
  case round =>
    obtain ⟨k, hk, rfl, hG, hb⟩ := hrel
    have e3 : IntKind.i64.wrap ((k : Int) + 1) = ((k + 1 : Nat) : Int) := IntWalk.i64_in _ (by omega)
    by_cases hlt : k + 1 < n
    · obtain ⟨g, o, rfl, c0⟩ := (hz.below (hwo ▸ hb)).at_ (show k < n by omega)
      obtain ⟨g', o', hA, c1⟩ := (hz.below (hwo ▸ hb)).at_ (show k + 1 < n by omega)
      injection hA with hA
      injection hA with hA1 hA2
      subst hA1 hA2
      obtain ⟨⟨u0, u1⟩, ⟨v0, v1⟩⟩ := HBY.out k
      have ek : ((k + 1 : Nat) : Int) < n := by omega
      obtain ⟨x, hx⟩ : ∃ x, z.getD k 0 = x := ⟨_, rfl⟩
      obtain ⟨y, hy⟩ : ∃ y, z.getD (k + 1) 0 = y := ⟨_, rfl⟩
      rw [hx] at c0 u0 u1
      rw [hy] at c1 v0 v1
      have HXY := Lib.hid (And.intro hx hy)
      clear hx hy
      by_cases hx1 : 128 ≤ x
      · by_cases hy1 : 3 ≤ y
        · go_wp2
          go_ret
          exact ⟨true, rfl, hb, fun h => by cases h⟩
        · have hy2 : y < 3 := by omega
          go_wp2
          go_roundw
          case rel => exact ⟨k + 1, by omega, by go_num, Lib.hid (fun j hj hh => by
            by_cases hjk : j = k
            · subst hjk; rw [HXY.out.1, HXY.out.2] at hh; exact hy1 hh.2
            · exact hG.out j (by omega) hh), hb⟩
          case measure => simp [intOf]; omega
      · have hx2 : x < 128 := by omega
        go_wp2
        go_roundw
        case rel => exact ⟨k + 1, by omega, by go_num, Lib.hid (fun j hj hh => by
          by_cases hjk : j = k
          · subst hjk; rw [HXY.out.1, HXY.out.2] at hh; exact hx1 hh.1
          · exact hG.out j (by omega) hh), hb⟩
        case measure => simp [intOf]; omega
    · have ek : ¬ ((k + 1 : Nat) : Int) < n := by omega
      go_wp2
      go_ret
      exact ⟨false, rfl, hb, fun _ i hi => hG.out i (by have := HZL.out; omega)⟩
end Go.Proofs.YtlealkfkddhnnaaGreat.Cur
