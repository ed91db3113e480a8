/- The contracts of package tally, I: what is one part's, and what a tally is. -/
import Derived.Test.YtepebneigehboaaFltQ
import Derived.Test.YtepebneigehboaaK1
import Derived.Laws.Externs
namespace Go.Proofs.Ytepebneigehboaa.Cur
open Go.RowKit Mem Flt
set_option linter.unusedVariables false
set_option maxRecDepth 100000

/-- Are two counts a tally? -/
def rt (n m : Int) : Bool := decide (0 ≤ n ∧ n ≤ 1125899906842624 ∧ 0 ≤ m ∧ m ≤ 1125899906842624 ∧ (0 < n ∨ m = 0))
/-- The number of two counts. -/
def tv (n m : Int) : Value := .complex .f64 (rung n.toNat) (rung m.toNat)
/-- The tally of two counts, or 0. -/
def nz (n m : Int) : Value := if rt n m then tv n m else .complex .f64 0 0

theorem arch_run {x : Nat} {n : Int} (h : Pt x n) (h0 : 0 ≤ n) (h1 : n ≤ 1125899906842624) (w : World) : (callFunc 30 #[.float .f64 x]).run Try.prog w = .ok (.value (.float .f64 x)) w := by
  obtain ⟨d, hd, ⟨s, m, p, rfl⟩, he⟩ := pt_floor h h0 h1
  rw [run_callFunc_extern Try.func30 (by kernel_rfl) (by kernel_rfl) (by kernel_rfl) (e := Extern.MathFloor.toIntegral "math.archFloor" .down) (by kernel_rfl)]
  have e : Extern.MathFloor.toIntegral "math.archFloor" .down #[.float .f64 x] = pure (.float .f64 x) := by
    change (match FloatKind.f64.decode x with
      | .nan s t => (if FloatKind.f64.format.quiet t = t then pure (Value.float .f64 x) else do
          let kept ← choose (.extern "math.Floor,Ceil,Trunc,RoundToEven.signallingNaN kept" 2)
          pure (Value.float .f64 (if kept == 1 then x else FloatKind.f64.encode (.nan s (FloatKind.f64.format.quiet t)))))
      | d => (pure (Value.float .f64 (FloatKind.f64.encode (d.integral .down))) : Sem Value)) = _
    rw [hd]
    show pure (Value.float .f64 (FloatKind.f64.encode (Ieee.Datum.integral .down (.number s m p)))) = _
    rw [he]
  rw [e]
  rfl

theorem floor_any {x : Nat} {n : Int} (h : Pt x n) (h0 : 0 ≤ n) (h1 : n ≤ 1125899906842624) (w : World) :
    Calls Try.prog 29 #[.float .f64 x] w fun e w' => e = .returned (.float .f64 x) ∧ w = w' := by
  have HA := arch_run h h0 h1
  go_enter Try.func29, Try.ntmps29
  go_wp2
  go_ret
  exact ⟨rfl, rfl⟩

theorem uns_any {x : Nat} {n : Int} (h : Pt x n) (w : World) :
    Calls Try.prog 28 #[.float .f64 x] w fun e w' => e = .returned (.float .f64 x) ∧ w = w' := by
  have hq := pt_eq0 h
  have hx : n = 0 → x = 0 := fun e => by subst e; exact h.in_ (by omega) (by omega)
  by_cases hn : n = 0
  · rw [decide_eq_true hn] at hq
    obtain rfl := hx hn
    clear hx h
    go_enter Try.func28, Try.ntmps28
    go_wp2
    go_ret
    exact ⟨rfl, rfl⟩
  · rw [decide_eq_false hn] at hq
    clear hx h
    go_enter Try.func28, Try.ntmps28
    go_wp2
    go_ret
    exact ⟨rfl, rfl⟩

theorem count_any {x : Nat} {n : Int} (h : Pt x n) (w : World) :
    Calls Try.prog 27 #[.float .f64 x] w fun e w' => e = .returned (.bool (decide (0 ≤ n ∧ n ≤ 1125899906842624))) ∧ w = w' := by
  have hg := pt_ge0 h
  by_cases h0 : 0 ≤ n
  · have hm := pt_most h h0
    rw [decide_eq_true h0] at hg
    by_cases h1 : n ≤ 1125899906842624
    · have hs := pt_same h h0 h1
      rw [decide_eq_true h1] at hm
      have hf := floor_any h h0 h1
      rw [decide_eq_true ⟨h0, h1⟩]
      clear h h0 h1
      go_enter Try.func27, Try.ntmps27
      go_wp2_with fail
      refine (hf _).mono ?_
      rintro e w' ⟨rfl, rfl⟩
      go_wp2
      go_ret
      exact ⟨rfl, rfl⟩
    · rw [decide_eq_false h1] at hm
      rw [decide_eq_false (fun h => h1 h.2)]
      clear h h0 h1
      go_enter Try.func27, Try.ntmps27
      go_wp2
      go_ret
      exact ⟨rfl, rfl⟩
  · rw [decide_eq_false h0] at hg
    rw [decide_eq_false (fun h => h0 h.1)]
    clear h h0
    go_enter Try.func27, Try.ntmps27
    go_wp2
    go_ret
    exact ⟨rfl, rfl⟩
end Go.Proofs.Ytepebneigehboaa.Cur
