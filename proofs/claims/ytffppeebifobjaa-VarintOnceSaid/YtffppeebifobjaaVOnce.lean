/- VarintOnce: called with any bytes, the law returns true; no condition. -/
import Derived.Test.YtffppeebifobjaaRows
import Derived.Test.YtffppeebifobjaaVarL
import Derived.Test.YtffppeebifobjaaOpenA
import Derived.IntWalk
import Derived.Deep.RegionHeld3
import Derived.ProofKit
import Derived.OpenShut
import Derived.ShutString
import Derived.ChangeOld
namespace Go.Proofs.Ytffppeebifobjaa.varintOnce
open Go.ChangeShapes Go.WideShapes Go.ChangeAt Go.RowKit
open Go.ChangeMaps (open_string shut_string)
set_option linter.unusedVariables false

theorem own : ownKnob Try.prog.godebug = none := by kernel_rfl
theorem laidOut : laidOutB Try.prog = true := by kernel_rfl
open Cur Mem

set_option maxRecDepth 100000 in
set_option maxHeartbeats 1000000 in
theorem walk {H : Type} (enc : TypeId × Value → H) (w : World) (base : Nat) (v0 : Value) (d0 : DataW H) (p0 : List MemPlace) (g0 : Value.okWide Try.prog w .any base 23 v0) (h0 : DataW.Trod enc Try.prog w 0 (fun _ => true) true 23 v0 d0 p0) :
    Calls Try.prog 6 #[v0] w fun e w' => e = .returned (.bool true) ∧ Below w.heap.size w w' := by
  obtain ⟨a, n, m, z, rfl, hnm, hz, hby, _⟩ := open_bytes g0 h0
  clear g0 h0
  by_cases hn : 300 < (n : Int)
  · go_enter Try.func6, Try.ntmps6
    go_wp2_with fail
    refine (live4_any _).mono ?_
    rintro e w1 ⟨rfl, hb⟩
    go_wp2
    go_ret
    exact ⟨rfl, hb⟩
  · have hget := vget_any a n m z w hz hnm (by omega) hby
    obtain ⟨s1, s2⟩ := vgo_shape z 0 0
    have hon := vgo_once z 0 0 hby (by omega)
    unfold gv at hget
    generalize vgo z 0 0 = g at *
    obtain ⟨x, k, gc, ga⟩ := g
    simp only at s1 s2 hon hget
    have HBY := Lib.hid hby
    clear hby
    by_cases hgc : gc = 0
    · obtain ⟨y, j, j1, j2, e1, e2, y0, y1, e3, _⟩ := hon hgc
      have hx : x = y := by rw [e2]; simp
      have hk : k = j := by rw [e1]; simp
      subst hgc hx hk
      have y2 : x < 18446744073709551616 := by simp at y1; omega
      have hjn : j ≤ n := by rw [← hz.1]; exact j2
      have hzt := hz.take (k := j) hjn
      rw [← e3] at hzt
      have HZT := Lib.hid hzt
      have hjm : (j : Int) ≤ m := by omega
      have hj0 : (1 : Int) ≤ j := by omega
      have hjn' : (j : Int) ≤ n := by omega
      clear hon e1 e2 e3 y1 s1 s2 j1 j2 hzt
      go_enter Try.func6, Try.ntmps6
      go_wp2_with fail
      refine hget.mono ?_
      rintro e w1 ⟨rfl, hb⟩
      have hbd1 := hb.trans ((below_one w1 (.cells #[.int .i64 0, .int .i64 ga] 37)).mono hb.size)
      go_wp2_with fail
      generalize w1.alloc (.cells #[.int .i64 0, .int .i64 ga] 37) = wf at *
      clear hget hb
      go_region_held3 (fun w' => True)
        (first
          | trivial)
        (first
          | (go_at_call 14; go_must (refine (vbytes_any _ _ y0 y2).mono ?_; rintro e w2 ⟨q, rfl, hq, hb2, hblk⟩; have hb2' : Below wf.heap.size wf w2 := (by first | exact hb2 | exact below_of_drew hb2); have hbd := hbd1.trans (hb2'.mono hbd1.size); have hs : Bs w2 (some ⟨q, 0, none⟩) (vsz x) (vz x) := (by have := Bs.of_block hblk; rw [vz_length] at this; exact this); have hzw := HZT.out.below hbd))
          | (go_at_call 13; go_must (refine (same_any _ _ _ _ _ _ (vz x) _ (by exact hs) (by exact hzw)).mono ?_; rintro e w3 ⟨rfl, rfl⟩))
          | (go_at_call 7; go_must (refine (live4_any _).mono ?_; rintro e w4 ⟨rfl, hb4⟩))
          | fail)
      go_wp2
      go_ret
      exact ⟨rfl, hbd.trans (hb4.mono hbd.size)⟩
    · obtain ⟨rfl, rfl⟩ := s1 hgc
      have hcb : (gc != 0) = true := by simpa using hgc
      clear s1 s2 hon hgc
      go_enter Try.func6, Try.ntmps6
      go_wp2_with fail
      refine hget.mono ?_
      rintro e w1 ⟨rfl, hb⟩
      go_wp2_with fail
      refine (live4_any _).mono ?_
      rintro e w4 ⟨rfl, hb4⟩
      go_wp2
      go_ret
      exact ⟨rfl, hb.trans (((below_one w1 _).trans (hb4.mono (by simp))).mono hb.size)⟩

set_option maxRecDepth 100000 in
theorem lifted (os : Os) (started : os.Started) (H : Type) (enc : TypeId × Value → H) :
    ReturnsInHanded {} Try.checked os 6 .any (Rows.varintOnceSpec.pre6 enc Try.prog Try.f6 Rows.varintOnceRow.domain false) (Rows.varintOnceSpec.post enc Try.prog Try.f6 false true false false) := by
  refine returnsInHanded_of_change (C := Try.checked) own started (by kernel_rfl) Try.func6
    (ChangeSpec.witness6 (enc := enc) (C := Try.checked) false ⟨#[], #[.slice none 0 0], []⟩ 8 (by kernel_rfl) (by kernel_rfl) (by kernel_rfl) (by kernel_rfl)) ?_
  intro W base args ds gs before hval0 hW hcnd _
  have hval : ∀ (j : Nat) t v, Try.f6.params[j]? = some t → args[j]? = some v → Value.okWide Try.prog W .any base t v := hval0
  have hW' := hW
  obtain ⟨p, q, hA0, hV, rfl, hfz, hnd⟩ := hW
  have hA : DataW.TrodAll enc Try.prog W 0 (fun _ => true) true Try.f6.params.toList args.toList ds p := hA0
  rw [Try.params6] at hA hval
  obtain ⟨v0, vs0, d0, ds0, p0, q0, hargs, rfl, rfl, h0, r0⟩ := trodAll_cons hA
  obtain ⟨rfl, rfl, rfl⟩ := trodAll_nil r0
  obtain rfl : args = #[v0] := by cases args; simp_all
  obtain ⟨rfl, rfl⟩ := trodVars_none hV
  have lt0 : ∀ x ∈ p0, x.block < W.heap.size := by obtain ⟨m, hm⟩ := h0; exact DataW.trod_lt m _ _ _ hm
  clear hA0 hval0
  refine (walk enc W base v0 d0 p0 (hval 0 23 v0 rfl rfl) h0).mono fun e W' ⟨he, bel⟩ => ?_
  subst he
  exact ⟨_, rfl, _, _, _, [], _, [], hW', trodAll_mk1 (shut_bool Try.underlying4 _), (trodAll_cons_mk (Below.trod laidOut (by kernel_rfl) (of_decide_eq_true (by kernel_rfl)) h0 bel lt0) trodAll_mk0), rfl, bel.frame _, fun h => by cases h⟩

theorem over : Rows.varintOnceRow.holds Try.pinned (OpenSpec.ofChange Rows.varintOnceSpec) :=
  OpenClaim.holds_of_wide 6 Try.f6 rfl rfl rfl rfl rfl rfl rfl ⟨rfl, rfl, rfl, rfl, rfl⟩ rfl rfl rfl rfl rfl (by kernel_rfl) Try.func6 (by kernel_rfl)
    (of_decide_eq_true (by kernel_rfl)) (by unfold Func.isWrapper; first | (rw [if_pos (by decide +kernel)]; kernel_rfl) | (rw [if_neg (by decide +kernel)]; exact ⟨rfl, rfl⟩))
    (fun os started H enc _ => lifted os started H enc)

/-- THE STATEMENT. -/
theorem proved : Rows.VarintOnceSaid := over
#print axioms proved
end Go.Proofs.Ytffppeebifobjaa.varintOnce
