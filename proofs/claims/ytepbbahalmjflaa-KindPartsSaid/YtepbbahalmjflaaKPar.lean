/- KindParts: called with any number, the law returns true; no condition. -/
import Derived.Test.YtepbbahalmjflaaRows
import Derived.Test.YtepbbahalmjflaaKndL
import Derived.ProofKit
import Derived.OpenShut
import Derived.ShutString
import Derived.ChangeOld
namespace Go.Proofs.Ytepbbahalmjflaa.kindParts
open Go.ChangeShapes Go.WideShapes Go.ChangeAt Go.RowKit
open Go.ChangeMaps (open_string shut_string)
set_option linter.unusedVariables false

theorem own : ownKnob Try.prog.godebug = none := by kernel_rfl
theorem laidOut : laidOutB Try.prog = true := by kernel_rfl
open Cur Mem
set_option maxRecDepth 100000

/-- What the first so many fields come to. -/
def psm (k : Int) : Nat → Int
  | 0 => 0
  | i + 1 => if kh k ((2 ^ i : Nat) : Int) then psm k i + ((2 ^ i : Nat) : Int) else psm k i
theorem kh_zero (p : Int) : ∀ k : Int, ¬ (1 ≤ k ∧ k ≤ 14) → kh k p = false := fun k h => by
  unfold kh
  rw [kof_out h, Bool.and_eq_false_iff]
  exact .inr (decide_eq_false (by simp))
theorem psm_all (k : Int) : psm k 9 = (kof k).2.1 := by
  by_cases h : 1 ≤ k ∧ k ≤ 14
  · rcases cases14 h.1 h.2 with rfl | rfl | rfl | rfl | rfl | rfl | rfl | rfl | rfl | rfl | rfl | rfl | rfl | rfl <;> decide +kernel
  · simp only [psm, kh_zero _ k h, Bool.false_eq_true, if_false]
    rw [kof_out h]
theorem psm_bd (k : Int) : ∀ i : Nat, 0 ≤ psm k i ∧ psm k i < ((2 ^ i : Nat) : Int)
  | 0 => ⟨Int.le_refl _, by show (0 : Int) < ((2 ^ 0 : Nat) : Int); decide⟩
  | i + 1 => by
    have := psm_bd k i
    unfold psm
    rw [Nat.pow_succ]
    split <;> omega
theorem pow9 {i : Nat} (h : i < 9) : 2 ^ i ≤ 256 := by
  have := Nat.pow_le_pow_right (n := 2) (by decide) (show i ≤ 8 by omega)
  omega
theorem kh3 (k : Int) : kh k 3 = false ∧ kh k 0 = false := ⟨by unfold kh; rw [Bool.and_eq_false_iff]; exact .inl (by decide), by unfold kh; rw [Bool.and_eq_false_iff]; exact .inl (by decide)⟩
set_option maxHeartbeats 8000000 in
theorem walk {H : Type} (enc : TypeId × Value → H) (w : World) (base : Nat) (v0 : Value) (d0 : DataW H) (p0 : List MemPlace) (g0 : Value.okWide Try.prog w .any base 3 v0) (h0 : DataW.Trod enc Try.prog w 0 (fun _ => true) true 3 v0 d0 p0) :
    Calls Try.prog 6 #[v0] w fun e w' => e = .returned (.bool true) ∧ Below w.heap.size w w' := by
  obtain ⟨k, rfl, k0, k1⟩ := open_i64 g0 h0
  clear g0 h0
  go_enter Try.func6, Try.ntmps6
  go_wp2
  go_loopw [3, 4] (fun s p wr => ∃ i : Nat, i ≤ 9 ∧ s = .int .i64 (psm k i) ∧ p = .int .i64 ((2 ^ i : Nat) : Int) ∧ Below w.heap.size w wr) (fun _ p _ => 600 - (intOf p).toNat)
  case atStart => exact ⟨0, by omega, rfl, rfl, Below.refl _ _⟩
  case round =>
    obtain ⟨i, hi, rfl, rfl, hb⟩ := hrel
    by_cases h9 : i = 9
    · subst h9
      have HB := Lib.hid hb
      have HP := Lib.hid (psm_all k)
      have e9 : ((2 ^ 9 : Nat) : Int) = 512 := by decide
      obtain ⟨K3, K0⟩ := kh3 k
      rw [HP.out, e9]
      clear hb e9
      go_wp2_with fail
      refine (kparts_any k _).mono ?_
      rintro e w1 ⟨rfl, hb1⟩
      have hbd := HB.out.trans (hb1.mono HB.out.size)
      clear hb1
      go_wp2_with fail
      refine (khas_any k 3 _ (by decide) (by decide)).mono ?_
      rintro e w2 ⟨rfl, hb2⟩
      rw [K3]
      replace hbd := hbd.trans (hb2.mono hbd.size)
      clear hb2
      go_wp2_with fail
      refine (khas_any k 0 _ (by decide) (by decide)).mono ?_
      rintro e w3 ⟨rfl, hb3⟩
      rw [K0]
      replace hbd := hbd.trans (hb3.mono hbd.size)
      clear hb3
      go_wp2_with fail
      refine (live27_any _).mono ?_
      rintro e w4 ⟨rfl, hb4⟩
      replace hbd := hbd.trans (hb4.mono hbd.size)
      clear hb4
      go_wp2
      go_ret
      exact ⟨rfl, hbd⟩
    · have hp := pow9 (show i < 9 by omega)
      have hps := psm_bd k i
      have hp1 : 1 ≤ 2 ^ i := Nat.one_le_two_pow
      have hle : ((2 ^ i : Nat) : Int) ≤ 256 := by omega
      have hsu : (2 ^ (i + 1) : Nat) = 2 * 2 ^ i := by rw [Nat.pow_succ]; omega
      have HB := Lib.hid hb
      have HSU := Lib.hid hsu
      have hst : psm k (i + 1) = if kh k ((2 ^ i : Nat) : Int) then psm k i + ((2 ^ i : Nat) : Int) else psm k i := rfl
      obtain ⟨s, hs⟩ : ∃ s, s = psm k i := ⟨_, rfl⟩
      rw [← hs] at hst hps ⊢
      clear hs hb
      generalize (2 ^ i : Nat) = q at *
      have HST := Lib.hid hst
      have hc := khas_any k (q : Int) wr (by omega) (by omega)
      clear hst hsu
      cases hkh : kh k (q : Int)
      case false =>
        rw [hkh] at hc
        have HK := Lib.hid hkh
        clear hkh
        go_wp2_with fail
        refine hc.mono ?_
        rintro e w1 ⟨rfl, hb1⟩
        go_wp2
        go_roundw
        case rel => exact ⟨i + 1, by omega, by rw [HST.out, HK.out]; rfl, by rw [HSU.out, Int.natCast_mul]; rfl, HB.out.trans (hb1.mono HB.out.size)⟩
        case measure => simp [intOf]; omega
      case true =>
        rw [hkh] at hc
        have HK := Lib.hid hkh
        clear hkh
        go_wp2_with fail
        refine hc.mono ?_
        rintro e w1 ⟨rfl, hb1⟩
        go_wp2
        go_roundw
        case rel => exact ⟨i + 1, by omega, by rw [HST.out, HK.out]; rfl, by rw [HSU.out, Int.natCast_mul]; rfl, HB.out.trans (hb1.mono HB.out.size)⟩
        case measure => simp [intOf]; omega


set_option maxRecDepth 100000 in
theorem lifted (os : Os) (started : os.Started) (H : Type) (enc : TypeId × Value → H) :
    ReturnsInHanded {} Try.checked os 6 .any (Rows.kindPartsSpec.pre6 enc Try.prog Try.f6 Rows.kindPartsRow.domain false) (Rows.kindPartsSpec.post enc Try.prog Try.f6 false true false false) := by
  refine returnsInHanded_of_change (C := Try.checked) own started (by kernel_rfl) Try.func6
    (ChangeSpec.witness6 (enc := enc) (C := Try.checked) false ⟨#[], #[.int .i64 1], []⟩ 8 (by kernel_rfl) (by kernel_rfl) (by kernel_rfl) (by kernel_rfl)) ?_
  intro W base args ds gs before hval0 hW hcnd _
  have hval : ∀ (j : Nat) t v, Try.f6.params[j]? = some t → args[j]? = some v → Value.okWide Try.prog W .any base t v := hval0
  have hW' := hW
  obtain ⟨p, q, hA0, hV, rfl, hfz, hnd⟩ := hW
  have hA : DataW.TrodAll enc Try.prog W 0 (fun _ => true) true Try.f6.params.toList args.toList ds p := hA0
  rw [Try.params6] at hA hval
  obtain ⟨v0, vs0, d0, ds0, p0, q0, hargs, rfl, rfl, h0, r0⟩ := trodAll_cons hA
  obtain ⟨rfl, rfl, rfl⟩ := trodAll_nil r0
  obtain rfl : args = #[v0] := by cases args; simp_all
  obtain ⟨rfl, rfl⟩ := trodVars_none hV
  have lt0 : ∀ x ∈ p0, x.block < W.heap.size := by obtain ⟨m, hm⟩ := h0; exact DataW.trod_lt m _ _ _ hm
  clear hA0 hval0
  refine (walk enc W base v0 d0 p0 (hval 0 3 v0 rfl rfl) h0).mono fun e W' ⟨he, bel⟩ => ?_
  subst he
  exact ⟨_, rfl, _, _, _, [], _, [], hW', trodAll_mk1 (shut_bool Try.underlying4 _), (trodAll_cons_mk (Below.trod laidOut (by kernel_rfl) (of_decide_eq_true (by kernel_rfl)) h0 bel lt0) trodAll_mk0), rfl, bel.frame _, fun h => by cases h⟩

theorem over : Rows.kindPartsRow.holds Try.pinned (OpenSpec.ofChange Rows.kindPartsSpec) :=
  OpenClaim.holds_of_wide 6 Try.f6 rfl rfl rfl rfl rfl rfl rfl ⟨rfl, rfl, rfl, rfl, rfl⟩ rfl rfl rfl rfl rfl (by kernel_rfl) Try.func6 (by kernel_rfl)
    (of_decide_eq_true (by kernel_rfl)) (by unfold Func.isWrapper; first | (rw [if_pos (by decide +kernel)]; kernel_rfl) | (rw [if_neg (by decide +kernel)]; exact ⟨rfl, rfl⟩))
    (fun os started H enc _ => lifted os started H enc)

/-- THE STATEMENT. -/
theorem proved : Rows.KindPartsSaid := over
#print axioms proved
end Go.Proofs.Ytepbbahalmjflaa.kindParts
