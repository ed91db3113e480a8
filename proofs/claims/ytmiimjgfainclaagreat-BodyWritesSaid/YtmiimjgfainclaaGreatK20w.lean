/- As the seat's text, without what nothing here names. -/
import Derived.Test.YtmiimjgfainclaaGreatK5w
import Derived.IntWalk
namespace Go.Proofs.YtmiimjgfainclaaGreat.Cur
open Go.RowKit Mem
set_option linter.unusedVariables false
def epk (x : Int) : Bool := decide (1 ≤ x ∧ x ≤ 4611686018427387903)
def psk (x : Int) : Bool := decide (x ≤ 4611686018427387903)
theorem epk_yes {x : Int} (h0 : 1 ≤ x) (h1 : x ≤ 4611686018427387903) : epk x = true := decide_eq_true ⟨h0, h1⟩
theorem epk_low {x : Int} (h0 : ¬ 1 ≤ x) : epk x = false := decide_eq_false fun h => h0 h.1
theorem epk_high {x : Int} (h0 : ¬ x ≤ 4611686018427387903) : epk x = false := decide_eq_false fun h => h0 h.2
theorem epk_bd {x : Int} (h : epk x = true) : 1 ≤ x ∧ x ≤ 4611686018427387903 := of_decide_eq_true h
theorem eright_any (x : Int) (w : World) : Calls Tryz.prog 110 #[.int .u64 x] w fun e w' => e = .returned (.bool (epk x)) ∧ w = w' := by
  by_cases h0 : 1 ≤ x
  · by_cases h1 : x ≤ 4611686018427387903
    · have hv := epk_yes h0 h1
      generalize epk x = v at hv
      go_enter Tryz.func110, Tryz.ntmps110
      go_wp2
      go_ret
      first | exact ⟨rfl, rfl⟩ | exact ⟨by rw [hv]; rfl, rfl⟩
    · have hv := epk_high h1
      generalize epk x = v at hv
      go_enter Tryz.func110, Tryz.ntmps110
      go_wp2
      go_ret
      first | exact ⟨rfl, rfl⟩ | exact ⟨by rw [hv]; rfl, rfl⟩
  · have hv := epk_low h0
    generalize epk x = v at hv
    go_enter Tryz.func110, Tryz.ntmps110
    go_wp2
    go_ret
    first | exact ⟨rfl, rfl⟩ | exact ⟨by rw [hv]; rfl, rfl⟩
theorem rright17_any (x : Int) (h : 0 ≤ x) (w : World) : Calls Tryz.prog 118 #[.int .u64 x] w fun e w' => e = .returned (.bool (epk x)) ∧ w = w' := by
  by_cases h0 : 0 < x
  · by_cases h1 : x ≤ 4611686018427387903
    · have hv := epk_yes h0 h1
      generalize epk x = v at hv
      go_enter Tryz.func118, Tryz.ntmps118
      go_wp2
      go_ret
      first | exact ⟨rfl, rfl⟩ | exact ⟨by rw [hv]; rfl, rfl⟩
    · have hv := epk_high h1
      generalize epk x = v at hv
      go_enter Tryz.func118, Tryz.ntmps118
      go_wp2
      go_ret
      first | exact ⟨rfl, rfl⟩ | exact ⟨by rw [hv]; rfl, rfl⟩
  · have hv := epk_low (x := x) (by omega)
    generalize epk x = v at hv
    go_enter Tryz.func118, Tryz.ntmps118
    go_wp2
    go_ret
    first | exact ⟨rfl, rfl⟩ | exact ⟨by rw [hv]; rfl, rfl⟩
theorem epos_any (x : Int) (w : World) : Calls Tryz.prog 50 #[.int .u64 x] w fun e w' => e = .returned (.bool (psk x)) ∧ w = w' := by
  have hv : psk x = decide (x < 4611686018427387904) := by unfold psk; congr 1; exact propext ⟨fun h => by omega, fun h => by omega⟩
  generalize psk x = v at hv
  go_enter Tryz.func50, Tryz.ntmps50
  go_wp2
  go_ret
  first | exact ⟨rfl, rfl⟩ | exact ⟨by rw [hv]; rfl, rfl⟩
theorem rpos17_any (x : Int) (w : World) : Calls Tryz.prog 61 #[.int .u64 x] w fun e w' => e = .returned (.bool (psk x)) ∧ w = w' := by
  have hv : psk x = decide (x ≤ 4611686018427387903) := rfl
  generalize psk x = v at hv
  go_enter Tryz.func61, Tryz.ntmps61
  go_wp2
  go_ret
  first | exact ⟨rfl, rfl⟩ | exact ⟨by rw [hv]; rfl, rfl⟩
end Go.Proofs.YtmiimjgfainclaaGreat.Cur
namespace Go.Proofs.YtmiimjgfainclaaGreat.Cur
open Go.RowKit Mem
set_option linter.unusedVariables false
end Go.Proofs.YtmiimjgfainclaaGreat.Cur
namespace Go.Proofs.YtmiimjgfainclaaGreat.Cur
open Go.RowKit Mem
set_option linter.unusedVariables false
def EPutPost (ok : Int → Bool) (B b : Nat) (r : Option Nat) (z : List Int) (M c x : Int) (w : World) (e : Ending) (w' : World) : Prop :=
  (ok x = true ∧ WPutPost B b r z (vz x) M c w e w') ∨ (ok x = false ∧ WFailPost B b r z M c 3 w e w')
theorem eput0_yes {w : World} {B b : Nat} {r : Option Nat} {z : List Int} {M c : Int} (x : Int) (h : Wr w B b r z M c) (h0 : 0 ≤ x) (h1 : x < 18446744073709551616) (hsz : z.length ≤ 900000) (hBw : B ≤ w.heap.size) :
    Calls Tryz.prog 100 #[.pointer (some ⟨b, 0, none⟩), .int .u64 x, .bool true] w (WPutPost B b r z (vz x) M c w) := by
  go_enter Tryz.func100, Tryz.ntmps100
  go_wp2_with fail
  refine (vput_any _ h h0 h1 hsz hBw).mono ?_
  rintro e w' ⟨r', rfl, hk, hg, hw⟩
  go_wp2
  go_end0
  exact ⟨r', rfl, hk, hg, hw⟩
theorem eput0_no {w : World} {B b : Nat} {r : Option Nat} {z : List Int} {M c : Int} (x : Int) (h : Wr w B b r z M c) :
    Calls Tryz.prog 100 #[.pointer (some ⟨b, 0, none⟩), .int .u64 x, .bool false] w (WFailPost B b r z M c 3 w) := by
  go_enter Tryz.func100, Tryz.ntmps100
  go_wp2_with fail
  refine (wfail_any 3 h).mono ?_
  rintro e w' ⟨rfl, hk, hw⟩
  have HW := Lib.hid hw
  clear hw
  go_wp2
  go_end0
  exact ⟨rfl, hk, HW.out⟩
theorem eput_any {w : World} {B b : Nat} {r : Option Nat} {z : List Int} {M c : Int} (x : Int) (h : Wr w B b r z M c) (h0 : 0 ≤ x) (h1 : x < 18446744073709551616) (hsz : z.length ≤ 900000) (hBw : B ≤ w.heap.size) :
    Calls Tryz.prog 107 #[.pointer (some ⟨b, 0, none⟩), .int .u64 x] w (EPutPost epk B b r z M c x w) := by
  generalize hk : epk x = k
  cases k
  · go_enter Tryz.func107, Tryz.ntmps107
    go_wp2_with fail
    refine (eright_any _ _).mono ?_
    rintro e w' ⟨rfl, rfl⟩
    rw [hk]
    go_wp2_with fail
    refine (eput0_no x h).mono ?_
    rintro e w' hp
    obtain ⟨rfl, hp1, hp2⟩ := hp
    have HP := Lib.hid hp2
    clear hp2
    go_wp2
    go_end0
    exact .inr ⟨hk, rfl, hp1, HP.out⟩
  · go_enter Tryz.func107, Tryz.ntmps107
    go_wp2_with fail
    refine (eright_any _ _).mono ?_
    rintro e w' ⟨rfl, rfl⟩
    rw [hk]
    go_wp2_with fail
    refine (eput0_yes x h h0 h1 hsz hBw).mono ?_
    rintro e w' ⟨r', rfl, hk', hg, hw⟩
    go_wp2
    go_end0
    exact .inl ⟨hk, r', rfl, hk', hg, hw⟩
theorem eputpos_any {w : World} {B b : Nat} {r : Option Nat} {z : List Int} {M c : Int} (x : Int) (h : Wr w B b r z M c) (h0 : 0 ≤ x) (h1 : x < 18446744073709551616) (hsz : z.length ≤ 900000) (hBw : B ≤ w.heap.size) :
    Calls Tryz.prog 34 #[.pointer (some ⟨b, 0, none⟩), .int .u64 x] w (EPutPost psk B b r z M c x w) := by
  generalize hk : psk x = k
  cases k
  · go_enter Tryz.func34, Tryz.ntmps34
    go_wp2_with fail
    refine (epos_any _ _).mono ?_
    rintro e w' ⟨rfl, rfl⟩
    rw [hk]
    go_wp2_with fail
    refine (eput0_no x h).mono ?_
    rintro e w' hp
    obtain ⟨rfl, hp1, hp2⟩ := hp
    have HP := Lib.hid hp2
    clear hp2
    go_wp2
    go_end0
    exact .inr ⟨hk, rfl, hp1, HP.out⟩
  · go_enter Tryz.func34, Tryz.ntmps34
    go_wp2_with fail
    refine (epos_any _ _).mono ?_
    rintro e w' ⟨rfl, rfl⟩
    rw [hk]
    go_wp2_with fail
    refine (eput0_yes x h h0 h1 hsz hBw).mono ?_
    rintro e w' ⟨r', rfl, hk', hg, hw⟩
    go_wp2
    go_end0
    exact .inl ⟨hk, r', rfl, hk', hg, hw⟩
end Go.Proofs.YtmiimjgfainclaaGreat.Cur
