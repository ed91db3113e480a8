/- EpochAdmits: called with any two numbers, any number and any truth, the law returns true; no condition. -/
import Derived.Test.YtpilpkhgoonfaaaRows
import Derived.Test.YtpilpkhgoonfaaaEpoA
import Derived.Test.YtpilpkhgoonfaaaK1
import Derived.ProofKit
import Derived.OpenShut
import Derived.ShutString
import Derived.ChangeOld
namespace Go.Proofs.Ytpilpkhgoonfaaa.epochAdmits
open Go.ChangeShapes Go.WideShapes Go.ChangeAt Go.RowKit
open Go.ChangeMaps (open_string shut_string)
set_option linter.unusedVariables false

theorem own : ownKnob Try.prog.godebug = none := by kernel_rfl
theorem laidOut : laidOutB Try.prog = true := by kernel_rfl
open Cur Mem

theorem adm_sealed (own e : Int) : adm own true e ≠ 0 := by
  unfold adm
  split
  · decide
  · rw [if_neg (by simp)]; split <;> decide
theorem adm_own {own e : Int} {s : Bool} (h : adm own s e = 0) : e = own := by
  unfold adm at h
  split at h
  · exact absurd h (by decide)
  · split at h
    · rename_i hh; exact hh.1
    · split at h <;> exact absurd h (by decide)

set_option maxRecDepth 100000 in
set_option maxHeartbeats 4000000 in
theorem walk {H : Type} (enc : TypeId × Value → H) (w : World) (base : Nat) (v0 : Value) (d0 : DataW H) (p0 : List MemPlace) (g0 : Value.okWide Try.prog w .any base 51 v0) (h0 : DataW.Trod enc Try.prog w 0 (fun _ => true) true 51 v0 d0 p0) (v1 : Value) (d1 : DataW H) (p1 : List MemPlace) (g1 : Value.okWide Try.prog w .any base 22 v1) (h1 : DataW.Trod enc Try.prog w 0 (fun _ => true) true 22 v1 d1 p1) (v2 : Value) (d2 : DataW H) (p2 : List MemPlace) (g2 : Value.okWide Try.prog w .any base 4 v2) (h2 : DataW.Trod enc Try.prog w 0 (fun _ => true) true 4 v2 d2 p2) :
    Calls Try.prog 6 #[v0, v1, v2] w fun e w' => e = .returned (.bool true) ∧ Below w.heap.size w w' := by
  obtain ⟨own, oth, rfl, _, _, wp, wq⟩ := WideMaps.open_pair (k := 51) (e := 22) ⟨Try.underlying51, by kernel_rfl, by kernel_rfl, by kernel_rfl⟩ Try.underlying22 g0 h0
  obtain ⟨e0, rfl, x0, x1⟩ := open_u64 g1 h1
  obtain ⟨s, rfl, _⟩ := open_bool Try.underlying4 g2 h2
  have o0 := (bounds_u64 wp).1
  clear g0 h0 g1 h1 g2 h2 wp wq x1
  have hbx := below_one w (.cells #[.int .u64 own, .int .u64 oth] 51)
  obtain ⟨c0, c1⟩ := (Blk.new w #[.int .u64 own, .int .u64 oth] 51).c2
  have f0 := (Blk.new w #[.int .u64 own, .int .u64 oth] 51).free 0
  go_enter Try.func6, Try.ntmps6
  go_wp2
  go_quiet (fail)
  clear c0 c1 f0
  go_wp2_with fail
  refine (eadmit_any _ _ _ _).mono ?_
  rintro e w' ⟨rfl, rfl⟩
  go_wp2_with fail
  refine (radmit_any _ _ _ o0 x0 _).mono ?_
  rintro e w' ⟨rfl, rfl⟩
  go_wp2_with fail
  refine (eadmit_any _ _ _ _).mono ?_
  rintro e w' ⟨rfl, rfl⟩
  have s1 : (adm own true e0 == 0) = false := by simpa using adm_sealed own e0
  go_wp2_with fail
  refine (eadmit_any _ _ _ _).mono ?_
  rintro e w' ⟨rfl, rfl⟩
  by_cases ha : adm own false e0 = 0
  · have hao := adm_own ha
    have hb1 : (adm own false e0 != 0) = false := by simpa using ha
    clear ha
    subst hao
    go_wp2_with fail
    refine (eadmit_any _ _ _ _).mono ?_
    rintro e w' ⟨rfl, rfl⟩
    by_cases hb : adm oth s e0 = 0
    · have hbo := adm_own hb
      subst hbo
      go_wp2_with fail
      refine (live17_any _).mono ?_
      rintro e w' ⟨rfl, rfl⟩
      go_wp2
      go_ret
      exact ⟨rfl, below_drewN hbx _⟩
    · have hb2 : (adm oth s e0 != 0) = true := by simpa using hb
      go_wp2_with fail
      refine (live17_any _).mono ?_
      rintro e w' ⟨rfl, rfl⟩
      go_wp2
      go_ret
      exact ⟨rfl, below_drewN hbx _⟩
  · have hb1 : (adm own false e0 != 0) = true := by simpa using ha
    go_wp2_with fail
    refine (live17_any _).mono ?_
    rintro e w' ⟨rfl, rfl⟩
    go_wp2
    go_ret
    exact ⟨rfl, below_drewN hbx _⟩

set_option maxRecDepth 100000 in
theorem lifted (os : Os) (started : os.Started) (H : Type) (enc : TypeId × Value → H) :
    ReturnsInHanded {} Try.checked os 6 .any (Rows.epochAdmitsSpec.pre6 enc Try.prog Try.f6 Rows.epochAdmitsRow.domain false) (Rows.epochAdmitsSpec.post enc Try.prog Try.f6 false true false false) := by
  refine returnsInHanded_of_change (C := Try.checked) own started (by kernel_rfl) Try.func6
    (ChangeSpec.witness6 (enc := enc) (C := Try.checked) false ⟨#[], #[.agg #[.int .u64 0, .int .u64 0], .int .u64 0, .bool false], []⟩ 8 (by kernel_rfl) (by kernel_rfl) (by kernel_rfl) (by kernel_rfl)) ?_
  intro W base args ds gs before hval0 hW hcnd _
  have hval : ∀ (j : Nat) t v, Try.f6.params[j]? = some t → args[j]? = some v → Value.okWide Try.prog W .any base t v := hval0
  have hW' := hW
  obtain ⟨p, q, hA0, hV, rfl, hfz, hnd⟩ := hW
  have hA : DataW.TrodAll enc Try.prog W 0 (fun _ => true) true Try.f6.params.toList args.toList ds p := hA0
  rw [Try.params6] at hA hval
  obtain ⟨v0, vs0, d0, ds0, p0, q0, hargs, rfl, rfl, h0, r0⟩ := trodAll_cons hA
  obtain ⟨v1, vs1, d1, ds1, p1, q1, rfl, rfl, rfl, h1, r1⟩ := trodAll_cons r0
  obtain ⟨v2, vs2, d2, ds2, p2, q2, rfl, rfl, rfl, h2, r2⟩ := trodAll_cons r1
  obtain ⟨rfl, rfl, rfl⟩ := trodAll_nil r2
  obtain rfl : args = #[v0, v1, v2] := by cases args; simp_all
  obtain ⟨rfl, rfl⟩ := trodVars_none hV
  have lt0 : ∀ x ∈ p0, x.block < W.heap.size := by obtain ⟨m, hm⟩ := h0; exact DataW.trod_lt m _ _ _ hm
  have lt1 : ∀ x ∈ p1, x.block < W.heap.size := by obtain ⟨m, hm⟩ := h1; exact DataW.trod_lt m _ _ _ hm
  have lt2 : ∀ x ∈ p2, x.block < W.heap.size := by obtain ⟨m, hm⟩ := h2; exact DataW.trod_lt m _ _ _ hm
  clear hA0 hval0
  refine (walk enc W base v0 d0 p0 (hval 0 51 v0 rfl rfl) h0 v1 d1 p1 (hval 1 22 v1 rfl rfl) h1 v2 d2 p2 (hval 2 4 v2 rfl rfl) h2).mono fun e W' ⟨he, bel⟩ => ?_
  subst he
  exact ⟨_, rfl, _, _, _, [], _, [], hW', trodAll_mk1 (shut_bool Try.underlying4 _), (trodAll_cons_mk (Below.trod laidOut (by kernel_rfl) (of_decide_eq_true (by kernel_rfl)) h0 bel lt0) (trodAll_cons_mk (Below.trod laidOut (by kernel_rfl) (of_decide_eq_true (by kernel_rfl)) h1 bel lt1) (trodAll_cons_mk (Below.trod laidOut (by kernel_rfl) (of_decide_eq_true (by kernel_rfl)) h2 bel lt2) trodAll_mk0))), rfl, bel.frame _, fun h => by cases h⟩

theorem over : Rows.epochAdmitsRow.holds Try.pinned (OpenSpec.ofChange Rows.epochAdmitsSpec) :=
  OpenClaim.holds_of_wide 6 Try.f6 rfl rfl rfl rfl rfl rfl rfl ⟨rfl, rfl, rfl, rfl, rfl⟩ rfl rfl rfl rfl rfl (by kernel_rfl) Try.func6 (by kernel_rfl)
    (of_decide_eq_true (by kernel_rfl)) (by unfold Func.isWrapper; first | (rw [if_pos (by decide +kernel)]; kernel_rfl) | (rw [if_neg (by decide +kernel)]; exact ⟨rfl, rfl⟩))
    (fun os started H enc _ => lifted os started H enc)

/-- THE STATEMENT. -/
theorem proved : Rows.EpochAdmitsSaid := over
#print axioms proved
end Go.Proofs.Ytpilpkhgoonfaaa.epochAdmits
