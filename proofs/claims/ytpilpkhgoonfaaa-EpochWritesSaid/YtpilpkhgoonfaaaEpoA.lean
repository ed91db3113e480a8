/- Epochs, positions and tails: which numbers are some. By the program and by the document. -/
import Derived.Test.YtpilpkhgoonfaaaK5
namespace Go.Proofs.Ytpilpkhgoonfaaa.Cur
open Go.RowKit Mem
set_option linter.unusedVariables false

/-- Is a number an epoch, a position, a tail? -/
def epk (x : Int) : Bool := decide (1 ≤ x ∧ x ≤ 4611686018427387903)
def psk (x : Int) : Bool := decide (x ≤ 4611686018427387903)
def tlk (x : Int) : Bool := decide (x ≤ 4611686018427387904)
theorem epk_yes {x : Int} (h0 : 1 ≤ x) (h1 : x ≤ 4611686018427387903) : epk x = true := decide_eq_true ⟨h0, h1⟩
theorem epk_low {x : Int} (h0 : ¬ 1 ≤ x) : epk x = false := decide_eq_false fun h => h0 h.1
theorem epk_high {x : Int} (h0 : ¬ x ≤ 4611686018427387903) : epk x = false := decide_eq_false fun h => h0 h.2
theorem epk_bd {x : Int} (h : epk x = true) : 1 ≤ x ∧ x ≤ 4611686018427387903 := of_decide_eq_true h

theorem eright_any (x : Int) (w : World) : Calls Try.prog 7 #[.int .u64 x] w fun e w' => e = .returned (.bool (epk x)) ∧ w = w' := by
  by_cases h0 : 1 ≤ x
  · by_cases h1 : x ≤ 4611686018427387903
    · have hv := epk_yes h0 h1
      generalize epk x = v at hv
      go_enter Try.func7, Try.ntmps7
      go_wp2
      go_ret
      first | exact ⟨rfl, rfl⟩ | exact ⟨by rw [hv]; rfl, rfl⟩
    · have hv := epk_high h1
      generalize epk x = v at hv
      go_enter Try.func7, Try.ntmps7
      go_wp2
      go_ret
      first | exact ⟨rfl, rfl⟩ | exact ⟨by rw [hv]; rfl, rfl⟩
  · have hv := epk_low h0
    generalize epk x = v at hv
    go_enter Try.func7, Try.ntmps7
    go_wp2
    go_ret
    first | exact ⟨rfl, rfl⟩ | exact ⟨by rw [hv]; rfl, rfl⟩

theorem rright17_any (x : Int) (h : 0 ≤ x) (w : World) : Calls Try.prog 8 #[.int .u64 x] w fun e w' => e = .returned (.bool (epk x)) ∧ w = w' := by
  by_cases h0 : 0 < x
  · by_cases h1 : x ≤ 4611686018427387903
    · have hv := epk_yes h0 h1
      generalize epk x = v at hv
      go_enter Try.func8, Try.ntmps8
      go_wp2
      go_ret
      first | exact ⟨rfl, rfl⟩ | exact ⟨by rw [hv]; rfl, rfl⟩
    · have hv := epk_high h1
      generalize epk x = v at hv
      go_enter Try.func8, Try.ntmps8
      go_wp2
      go_ret
      first | exact ⟨rfl, rfl⟩ | exact ⟨by rw [hv]; rfl, rfl⟩
  · have hv := epk_low (x := x) (by omega)
    generalize epk x = v at hv
    go_enter Try.func8, Try.ntmps8
    go_wp2
    go_ret
    first | exact ⟨rfl, rfl⟩ | exact ⟨by rw [hv]; rfl, rfl⟩

theorem epos_any (x : Int) (w : World) : Calls Try.prog 9 #[.int .u64 x] w fun e w' => e = .returned (.bool (psk x)) ∧ w = w' := by
  have hv : psk x = decide (x < 4611686018427387904) := by unfold psk; congr 1; exact propext ⟨fun h => by omega, fun h => by omega⟩
  generalize psk x = v at hv
  go_enter Try.func9, Try.ntmps9
  go_wp2
  go_ret
  first | exact ⟨rfl, rfl⟩ | exact ⟨by rw [hv]; rfl, rfl⟩

theorem rpos17_any (x : Int) (w : World) : Calls Try.prog 10 #[.int .u64 x] w fun e w' => e = .returned (.bool (psk x)) ∧ w = w' := by
  have hv : psk x = decide (x ≤ 4611686018427387903) := rfl
  generalize psk x = v at hv
  go_enter Try.func10, Try.ntmps10
  go_wp2
  go_ret
  first | exact ⟨rfl, rfl⟩ | exact ⟨by rw [hv]; rfl, rfl⟩

theorem etail_any (x : Int) (w : World) : Calls Try.prog 32 #[.int .u64 x] w fun e w' => e = .returned (.bool (tlk x)) ∧ w = w' := by
  have hv : tlk x = decide (x ≤ 4611686018427387904) := rfl
  generalize tlk x = v at hv
  go_enter Try.func32, Try.ntmps32
  go_wp2
  go_ret
  first | exact ⟨rfl, rfl⟩ | exact ⟨by rw [hv]; rfl, rfl⟩

/-- What a node in its own epoch answers. -/
def adm (own : Int) (sealed : Bool) (e : Int) : Int :=
  if epk own = false ∨ epk e = false then 3 else if e = own ∧ sealed = false then 0 else if own < e then 13 else 18


theorem eadmit_any (own e : Int) (sealed : Bool) (w : World) :
    Calls Try.prog 27 #[.int .u64 own, .bool sealed, .int .u64 e] w fun x w' => x = .returned (.int .i64 (adm own sealed e)) ∧ w = w' := by
  by_cases hR : epk own = true
  · by_cases hE : epk e = true
    · have hv : adm own sealed e = if e = own ∧ sealed = false then 0 else if own < e then 13 else 18 := by unfold adm; rw [if_neg (by simp [hR, hE])]
      by_cases hs : e = own
      · subst hs
        cases sealed
        · rw [if_pos ⟨rfl, rfl⟩] at hv
          generalize adm e false e = v at hv
          go_enter Try.func27, Try.ntmps27
          go_wp2_with fail
          refine (eright_any _ _).mono ?_
          rintro e' w' ⟨rfl, rfl⟩
          rw [hR]
          go_wp2_with fail
          refine (eright_any _ _).mono ?_
          rintro e' w' ⟨rfl, rfl⟩
          rw [hE]
          go_wp2
          go_ret
          first | exact ⟨rfl, rfl⟩ | exact ⟨by rw [hv]; rfl, rfl⟩
        · rw [if_neg (by simp), if_neg (by omega)] at hv
          generalize adm e true e = v at hv
          go_enter Try.func27, Try.ntmps27
          go_wp2_with fail
          refine (eright_any _ _).mono ?_
          rintro e' w' ⟨rfl, rfl⟩
          rw [hR]
          go_wp2_with fail
          refine (eright_any _ _).mono ?_
          rintro e' w' ⟨rfl, rfl⟩
          rw [hE]
          go_wp2
          go_ret
          first | exact ⟨rfl, rfl⟩ | exact ⟨by rw [hv]; rfl, rfl⟩
      · rw [if_neg (fun h => hs h.1)] at hv
        by_cases hg : own < e
        · rw [if_pos hg] at hv
          generalize adm own sealed e = v at hv
          go_enter Try.func27, Try.ntmps27
          go_wp2_with fail
          refine (eright_any _ _).mono ?_
          rintro e' w' ⟨rfl, rfl⟩
          rw [hR]
          go_wp2_with fail
          refine (eright_any _ _).mono ?_
          rintro e' w' ⟨rfl, rfl⟩
          rw [hE]
          go_wp2
          go_ret
          first | exact ⟨rfl, rfl⟩ | exact ⟨by rw [hv]; rfl, rfl⟩
        · rw [if_neg hg] at hv
          generalize adm own sealed e = v at hv
          go_enter Try.func27, Try.ntmps27
          go_wp2_with fail
          refine (eright_any _ _).mono ?_
          rintro e' w' ⟨rfl, rfl⟩
          rw [hR]
          go_wp2_with fail
          refine (eright_any _ _).mono ?_
          rintro e' w' ⟨rfl, rfl⟩
          rw [hE]
          go_wp2
          go_ret
          first | exact ⟨rfl, rfl⟩ | exact ⟨by rw [hv]; rfl, rfl⟩
    · have hE' : epk e = false := by simpa using hE
      have hv : adm own sealed e = 3 := by unfold adm; rw [if_pos (.inr hE')]
      generalize adm own sealed e = v at hv
      clear hE
      go_enter Try.func27, Try.ntmps27
      go_wp2_with fail
      refine (eright_any _ _).mono ?_
      rintro e' w' ⟨rfl, rfl⟩
      rw [hR]
      go_wp2_with fail
      refine (eright_any _ _).mono ?_
      rintro e' w' ⟨rfl, rfl⟩
      rw [hE']
      go_wp2
      go_ret
      first | exact ⟨rfl, rfl⟩ | exact ⟨by rw [hv]; rfl, rfl⟩
  · have hR' : epk own = false := by simpa using hR
    have hv : adm own sealed e = 3 := by unfold adm; rw [if_pos (.inl hR')]
    generalize adm own sealed e = v at hv
    clear hR
    go_enter Try.func27, Try.ntmps27
    go_wp2_with fail
    refine (eright_any _ _).mono ?_
    rintro e' w' ⟨rfl, rfl⟩
    rw [hR']
    go_wp2
    go_ret
    first | exact ⟨rfl, rfl⟩ | exact ⟨by rw [hv]; rfl, rfl⟩

theorem radmit_any (own e : Int) (sealed : Bool) (h0 : 0 ≤ own) (h1 : 0 ≤ e) (w : World) :
    Calls Try.prog 28 #[.int .u64 own, .bool sealed, .int .u64 e] w fun x w' => x = .returned (.int .i64 (adm own sealed e)) ∧ w = w' := by
  by_cases hR : epk own = true
  · by_cases hE : epk e = true
    · have hv : adm own sealed e = if e = own ∧ sealed = false then 0 else if own < e then 13 else 18 := by unfold adm; rw [if_neg (by simp [hR, hE])]
      by_cases hs : e = own
      · subst hs
        cases sealed
        · rw [if_pos ⟨rfl, rfl⟩] at hv
          generalize adm e false e = v at hv
          go_enter Try.func28, Try.ntmps28
          go_wp2_with fail
          refine (rright17_any _ h0 _).mono ?_
          rintro e' w' ⟨rfl, rfl⟩
          rw [hR]
          go_wp2_with fail
          refine (rright17_any _ h1 _).mono ?_
          rintro e' w' ⟨rfl, rfl⟩
          rw [hE]
          go_wp2
          go_ret
          first | exact ⟨rfl, rfl⟩ | exact ⟨by rw [hv]; rfl, rfl⟩
        · rw [if_neg (by simp), if_neg (by omega)] at hv
          generalize adm e true e = v at hv
          go_enter Try.func28, Try.ntmps28
          go_wp2_with fail
          refine (rright17_any _ h0 _).mono ?_
          rintro e' w' ⟨rfl, rfl⟩
          rw [hR]
          go_wp2_with fail
          refine (rright17_any _ h1 _).mono ?_
          rintro e' w' ⟨rfl, rfl⟩
          rw [hE]
          go_wp2
          go_ret
          first | exact ⟨rfl, rfl⟩ | exact ⟨by rw [hv]; rfl, rfl⟩
      · rw [if_neg (fun h => hs h.1)] at hv
        by_cases hg : own < e
        · rw [if_pos hg] at hv
          generalize adm own sealed e = v at hv
          go_enter Try.func28, Try.ntmps28
          go_wp2_with fail
          refine (rright17_any _ h0 _).mono ?_
          rintro e' w' ⟨rfl, rfl⟩
          rw [hR]
          go_wp2_with fail
          refine (rright17_any _ h1 _).mono ?_
          rintro e' w' ⟨rfl, rfl⟩
          rw [hE]
          go_wp2
          go_ret
          first | exact ⟨rfl, rfl⟩ | exact ⟨by rw [hv]; rfl, rfl⟩
        · rw [if_neg hg] at hv
          generalize adm own sealed e = v at hv
          go_enter Try.func28, Try.ntmps28
          go_wp2_with fail
          refine (rright17_any _ h0 _).mono ?_
          rintro e' w' ⟨rfl, rfl⟩
          rw [hR]
          go_wp2_with fail
          refine (rright17_any _ h1 _).mono ?_
          rintro e' w' ⟨rfl, rfl⟩
          rw [hE]
          go_wp2
          go_ret
          first | exact ⟨rfl, rfl⟩ | exact ⟨by rw [hv]; rfl, rfl⟩
    · have hE' : epk e = false := by simpa using hE
      have hv : adm own sealed e = 3 := by unfold adm; rw [if_pos (.inr hE')]
      generalize adm own sealed e = v at hv
      clear hE
      go_enter Try.func28, Try.ntmps28
      go_wp2_with fail
      refine (rright17_any _ h0 _).mono ?_
      rintro e' w' ⟨rfl, rfl⟩
      rw [hR]
      go_wp2_with fail
      refine (rright17_any _ h1 _).mono ?_
      rintro e' w' ⟨rfl, rfl⟩
      rw [hE']
      go_wp2
      go_ret
      first | exact ⟨rfl, rfl⟩ | exact ⟨by rw [hv]; rfl, rfl⟩
  · have hR' : epk own = false := by simpa using hR
    have hv : adm own sealed e = 3 := by unfold adm; rw [if_pos (.inl hR')]
    generalize adm own sealed e = v at hv
    clear hR
    go_enter Try.func28, Try.ntmps28
    go_wp2_with fail
    refine (rright17_any _ h0 _).mono ?_
    rintro e' w' ⟨rfl, rfl⟩
    rw [hR']
    go_wp2
    go_ret
    first | exact ⟨rfl, rfl⟩ | exact ⟨by rw [hv]; rfl, rfl⟩

/-- The document's example for epochs is as it says. -/
theorem live17_any (w : World) : Calls Try.prog 17 #[] w fun e w' => e = .returned (.bool true) ∧ w = w' := by
  have p1 : adm 3 true 3 = 18 := by decide
  have p2 : adm 3 true 4 = 13 := by decide
  have p3 : epk 1 = true := by decide
  go_enter Try.func17, Try.ntmps17
  go_wp2_with fail
  refine (eadmit_any _ _ _ _).mono ?_
  rintro e w' ⟨rfl, rfl⟩
  rw [p1]
  go_wp2_with fail
  refine (eadmit_any _ _ _ _).mono ?_
  rintro e w' ⟨rfl, rfl⟩
  rw [p2]
  go_wp2_with fail
  refine (eright_any _ _).mono ?_
  rintro e w' ⟨rfl, rfl⟩
  rw [p3]
  go_wp2
  go_ret
  exact ⟨rfl, rfl⟩
end Go.Proofs.Ytpilpkhgoonfaaa.Cur
