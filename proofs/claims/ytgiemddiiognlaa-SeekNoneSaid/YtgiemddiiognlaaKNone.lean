/- SeekNone: called with any bytes and any int, the law returns true; no condition. -/
import Derived.Test.YtgiemddiiognlaaRows
import Derived.Test.YtgiemddiiognlaaSekE
import Derived.ProofKit
import Derived.OpenShut
import Derived.ShutString
import Derived.ChangeOld
namespace Go.Proofs.Ytgiemddiiognlaa.seekNone
open Go.ChangeShapes Go.WideShapes Go.ChangeAt Go.RowKit
open Go.ChangeMaps (open_string shut_string)
set_option linter.unusedVariables false

theorem own : ownKnob Try.prog.godebug = none := by kernel_rfl
theorem laidOut : laidOutB Try.prog = true := by kernel_rfl
open Cur Mem
attribute [local go_sem] Oper.semAt_some

set_option maxRecDepth 100000 in
set_option maxHeartbeats 8000000 in
theorem walk {H : Type} (enc : TypeId × Value → H) (w : World) (base : Nat) (v0 : Value) (d0 : DataW H) (p0 : List MemPlace) (g0 : Value.okWide Try.prog w .any base 22 v0) (h0 : DataW.Trod enc Try.prog w 0 (fun _ => true) true 22 v0 d0 p0) (v1 : Value) (d1 : DataW H) (p1 : List MemPlace) (g1 : Value.okWide Try.prog w .any base 3 v1) (h1 : DataW.Trod enc Try.prog w 0 (fun _ => true) true 3 v1 d1 p1) :
    Calls Try.prog 4 #[v0, v1] w fun e w' => e = .returned (.bool true) ∧ Below w.heap.size w w' := by
  obtain ⟨A, n, m, z, rfl, hnm, hz, hby, _⟩ := open_bytes g0 h0
  obtain ⟨a, rfl, ha⟩ := open_i64 g1 h1
  clear g0 h0 g1 h1
  have hzl := hz.1
  by_cases h200 : 200 < n
  · clear hz hby
    go_enter Try.func4, Try.ntmps4
    go_wp2_with fail
    refine (live14_any _).mono ?_
    rintro e w15 ⟨rfl, hb15⟩
    go_wp2
    go_ret
    exact ⟨rfl, hb15⟩
  · have hd1 : decide ((200 : Int) < n) = false := decide_eq_false (by omega)
    have hn : n ≤ 200 := by omega
    have h1 := sbest_any (w := w) (m := m) a hz hby hnm (by omega) ha
    have HZ := Lib.hid hz
    have HBY := Lib.hid hby
    have hc := best_cases z a
    unfold BstPost at h1
    obtain ⟨off, hoff⟩ : ∃ off, bof z a (alls a) = off := ⟨_, rfl⟩
    obtain ⟨N, hN⟩ : ∃ N, bnf z a (alls a) = N := ⟨_, rfl⟩
    rw [hoff, hN] at h1 hc
    have HZL := Lib.hid hzl
    have HA := Lib.hid ha
    have hmv : ∀ o : Int, 1 ≤ o → o ≤ a → a < n → (a - o).toNat ∈ alls a ∧ mv z a o = (mt z a.toNat (a - o).toNat : Nat) := fun o h1 h2 h3 => ⟨alls_mem.2 (by omega), by unfold mv; rw [if_pos (by omega)]⟩
    clear hz hby hoff hN h200
    rcases hc with ⟨rfl, rfl, hle⟩ | ⟨p, hp, hof, hNm, h4, hmax, hlt⟩
    · have HM := Lib.hid (fun (o : Int) (h1 : 1 ≤ o) (h2 : o ≤ a) (h3 : a < n) => (by
        obtain ⟨e1, e2⟩ := hmv o h1 h2 h3
        have := hle _ e1
        rw [e2]
        omega : mv z a o ≤ 3))
      clear hmv hle hzl ha
      go_enter Try.func4, Try.ntmps4
      go_wp2_with fail
      refine h1.mono ?_
      rintro e w2 ⟨rfl, hb2⟩
      have HB := Lib.hid hb2
      clear h1 hb2
      go_wp2
      go_loopw [7] (fun v wr => ∃ (o : Int) (q : Nat), 1 ≤ o ∧ v = .int .i64 o ∧ wr = w2.drewN q) (fun v _ => 202 - (intOf v).toNat)
      case atStart => exact ⟨1, 0, by omega, rfl, rfl⟩
      case round =>
        obtain ⟨o, q, ho, rfl, rfl⟩ := hrel
        by_cases hoa : o ≤ a
        · by_cases han : a < n
          · have hMa := rmatch_any (w := w2.drewN q) (m := m) a o (HZ.out.below (below_drewN HB.out q)) HBY.out hnm (by omega)
            unfold MatchPost at hMa
            have hmo := HM.out o ho hoa han
            have hw : IntKind.i64.wrap (o + 1) = o + 1 := IntWalk.i64_in _ (by omega)
            obtain ⟨M, hM⟩ : ∃ M, mv z a o = M := ⟨_, rfl⟩
            rw [hM] at hMa hmo
            have HMA := Lib.hid hMa
            clear hM hMa
            have g3 : decide (4 ≤ M) = false := decide_eq_false (by omega)
            clear hmo
            go_wp2_with fail
            refine HMA.out.mono ?_
            rintro e w3 ⟨rfl, q3, rfl⟩
            clear HMA
            go_wp2
            go_roundw
            case rel => exact ⟨o + 1, q + q3, by omega, by go_num, rfl⟩
            case measure => simp [intOf]; omega
          · have g1 : decide (a < (n : Int)) = false := decide_eq_false han
            go_wp2_with fail
            refine (skbest_none a _).mono ?_
            rintro e w4 ⟨rfl, rfl⟩
            go_wp2_with fail
            refine (sktried_none _).mono ?_
            rintro e w4 ⟨rfl, rfl⟩
            go_wp2_with fail
            refine (live14_any _).mono ?_
            rintro e w15 ⟨rfl, hb15⟩
            have HB5 := Lib.hid ((below_drewN HB.out q).trans (hb15.mono (below_drewN HB.out q).size))
            clear hb15
            go_wp2
            go_ret
            exact ⟨rfl, HB5.out⟩
        · have g1 : decide (o ≤ a) = false := decide_eq_false hoa
          go_wp2_with fail
          refine (skbest_none a _).mono ?_
          rintro e w4 ⟨rfl, rfl⟩
          go_wp2_with fail
          refine (sktried_none _).mono ?_
          rintro e w4 ⟨rfl, rfl⟩
          go_wp2_with fail
          refine (live14_any _).mono ?_
          rintro e w15 ⟨rfl, hb15⟩
          have HB5 := Lib.hid ((below_drewN HB.out q).trans (hb15.mono (below_drewN HB.out q).size))
          clear hb15
          go_wp2
          go_ret
          exact ⟨rfl, HB5.out⟩
    · have hpm := alls_mem.1 hp
      have hml := mt_le z a.toNat p
      have HM := Lib.hid (fun (o : Int) (h1 : 1 ≤ o) (h2 : o ≤ a) (h3 : a < n) => (by
        obtain ⟨e1, e2⟩ := hmv o h1 h2 h3
        have := hmax _ e1
        have h5 := hlt _ e1
        rw [e2]
        refine ⟨by omega, fun h => ?_⟩
        by_cases hh : p < (a - o).toNat
        · have := h5 hh; omega
        · omega : mv z a o ≤ N ∧ (mv z a o = N → off ≤ o)))
      have f1 : decide (N < 4) = false := decide_eq_false (by omega)
      have f2 : (N == 0) = false := by simp <;> omega
      have f3 : decide (off < 1) = false := decide_eq_false (by omega)
      have f4 : decide (a < off) = false := decide_eq_false (by omega)
      have f5 : decide (0 < N) = true := decide_eq_true (by omega)
      have f6 : IntKind.i64.wrap (a - off) = a - off := IntWalk.i64_in _ (by omega)
      have hS := fun (W : World) (hW : Below w.heap.size w W) => rsame_any (w := W) (m := m) a.toNat p (mt z a.toNat p) (HZ.out.below hW) HBY.out hnm (by omega) (by omega) (by omega) (by omega)
      rw [decide_eq_true (by omega), show ((a.toNat : Nat) : Int) = a by omega, show ((p : Nat) : Int) = a - off by omega, ← hNm] at hS
      have HS := Lib.hid hS
      clear hmv hmax hlt hp hpm hml h4 hof hNm hS hzl ha
      go_enter Try.func4, Try.ntmps4
      go_wp2_with fail
      refine h1.mono ?_
      rintro e w2 ⟨rfl, hb2⟩
      have HB := Lib.hid hb2
      clear h1
      have hS := HS.out w2 hb2
      clear hb2 HS
      go_wp2_with fail
      refine hS.mono ?_
      rintro e w3 ⟨rfl, q3, rfl⟩
      clear hS
      replace HB := Lib.hid (below_drewN HB.out q3)
      generalize w2.drewN q3 = w2 at *
      go_wp2
      go_loopw [7] (fun v wr => ∃ (o : Int) (q : Nat), 1 ≤ o ∧ v = .int .i64 o ∧ wr = w2.drewN q) (fun v _ => 202 - (intOf v).toNat)
      case atStart => exact ⟨1, 0, by omega, rfl, rfl⟩
      case round =>
        obtain ⟨o, q, ho, rfl, rfl⟩ := hrel
        by_cases hoa : o ≤ a
        · by_cases han : a < n
          · have hMa := rmatch_any (w := w2.drewN q) (m := m) a o (HZ.out.below (below_drewN HB.out q)) HBY.out hnm (by omega)
            unfold MatchPost at hMa
            have hmo := HM.out o ho hoa han
            have hw : IntKind.i64.wrap (o + 1) = o + 1 := IntWalk.i64_in _ (by omega)
            obtain ⟨M, hM⟩ : ∃ M, mv z a o = M := ⟨_, rfl⟩
            rw [hM] at hMa hmo
            have HMA := Lib.hid hMa
            clear hM hMa
            have g3 : decide (N < M) = false := decide_eq_false (by omega)
            by_cases hMN : M = N
            · subst hMN
              have g4 : decide (o < off) = false := decide_eq_false (by have := hmo.2 rfl; omega)
              clear hmo
              go_wp2_with fail
              refine HMA.out.mono ?_
              rintro e w3 ⟨rfl, q3, rfl⟩
              clear HMA
              go_wp2
              go_roundw
              case rel => exact ⟨o + 1, q + q3, by omega, by go_num, rfl⟩
              case measure => simp [intOf]; omega
            · have g4 : (M == N) = false := by simpa using hMN
              clear hmo hMN
              go_wp2_with fail
              refine HMA.out.mono ?_
              rintro e w3 ⟨rfl, q3, rfl⟩
              clear HMA
              go_wp2
              go_roundw
              case rel => exact ⟨o + 1, q + q3, by omega, by go_num, rfl⟩
              case measure => simp [intOf]; omega
          · have g1 : decide (a < (n : Int)) = false := decide_eq_false han
            go_wp2_with fail
            refine (skbest_none a _).mono ?_
            rintro e w4 ⟨rfl, rfl⟩
            go_wp2_with fail
            refine (sktried_none _).mono ?_
            rintro e w4 ⟨rfl, rfl⟩
            go_wp2_with fail
            refine (live14_any _).mono ?_
            rintro e w15 ⟨rfl, hb15⟩
            have HB5 := Lib.hid ((below_drewN HB.out q).trans (hb15.mono (below_drewN HB.out q).size))
            clear hb15
            go_wp2
            go_ret
            exact ⟨rfl, HB5.out⟩
        · have g1 : decide (o ≤ a) = false := decide_eq_false hoa
          go_wp2_with fail
          refine (skbest_none a _).mono ?_
          rintro e w4 ⟨rfl, rfl⟩
          go_wp2_with fail
          refine (sktried_none _).mono ?_
          rintro e w4 ⟨rfl, rfl⟩
          go_wp2_with fail
          refine (live14_any _).mono ?_
          rintro e w15 ⟨rfl, hb15⟩
          have HB5 := Lib.hid ((below_drewN HB.out q).trans (hb15.mono (below_drewN HB.out q).size))
          clear hb15
          go_wp2
          go_ret
          exact ⟨rfl, HB5.out⟩

set_option maxRecDepth 100000 in
theorem lifted (os : Os) (started : os.Started) (H : Type) (enc : TypeId × Value → H) :
    ReturnsInHanded {} Try.checked os 4 .any (Rows.seekNoneSpec.pre6 enc Try.prog Try.f4 Rows.seekNoneRow.domain false) (Rows.seekNoneSpec.post enc Try.prog Try.f4 false true false false) := by
  refine returnsInHanded_of_change (C := Try.checked) own started (by kernel_rfl) Try.func4
    (ChangeSpec.witness6 (enc := enc) (C := Try.checked) false ⟨#[], #[.slice none 0 0, .int .i64 0], []⟩ 8 (by kernel_rfl) (by kernel_rfl) (by kernel_rfl) (by kernel_rfl)) ?_
  intro W base args ds gs before hval0 hW hcnd _
  have hval : ∀ (j : Nat) t v, Try.f4.params[j]? = some t → args[j]? = some v → Value.okWide Try.prog W .any base t v := hval0
  have hW' := hW
  obtain ⟨p, q, hA0, hV, rfl, hfz, hnd⟩ := hW
  have hA : DataW.TrodAll enc Try.prog W 0 (fun _ => true) true Try.f4.params.toList args.toList ds p := hA0
  rw [Try.params4] at hA hval
  obtain ⟨v0, vs0, d0, ds0, p0, q0, hargs, rfl, rfl, h0, r0⟩ := trodAll_cons hA
  obtain ⟨v1, vs1, d1, ds1, p1, q1, rfl, rfl, rfl, h1, r1⟩ := trodAll_cons r0
  obtain ⟨rfl, rfl, rfl⟩ := trodAll_nil r1
  obtain rfl : args = #[v0, v1] := by cases args; simp_all
  obtain ⟨rfl, rfl⟩ := trodVars_none hV
  have lt0 : ∀ x ∈ p0, x.block < W.heap.size := by obtain ⟨m, hm⟩ := h0; exact DataW.trod_lt m _ _ _ hm
  have lt1 : ∀ x ∈ p1, x.block < W.heap.size := by obtain ⟨m, hm⟩ := h1; exact DataW.trod_lt m _ _ _ hm
  clear hA0 hval0
  refine (walk enc W base v0 d0 p0 (hval 0 22 v0 rfl rfl) h0 v1 d1 p1 (hval 1 3 v1 rfl rfl) h1).mono fun e W' ⟨he, bel⟩ => ?_
  subst he
  exact ⟨_, rfl, _, _, _, [], _, [], hW', trodAll_mk1 (shut_bool Try.underlying4 _), (trodAll_cons_mk (Below.trod laidOut (by kernel_rfl) (of_decide_eq_true (by kernel_rfl)) h0 bel lt0) (trodAll_cons_mk (Below.trod laidOut (by kernel_rfl) (of_decide_eq_true (by kernel_rfl)) h1 bel lt1) trodAll_mk0)), rfl, bel.frame _, fun h => by cases h⟩

theorem over : Rows.seekNoneRow.holds Try.pinned (OpenSpec.ofChange Rows.seekNoneSpec) :=
  OpenClaim.holds_of_wide 4 Try.f4 rfl rfl rfl rfl rfl rfl rfl ⟨rfl, rfl, rfl, rfl, rfl⟩ rfl rfl rfl rfl rfl (by kernel_rfl) Try.func4 (by kernel_rfl)
    (of_decide_eq_true (by kernel_rfl)) (by unfold Func.isWrapper; first | (rw [if_pos (by decide +kernel)]; kernel_rfl) | (rw [if_neg (by decide +kernel)]; exact ⟨rfl, rfl⟩))
    (fun os started H enc _ => lifted os started H enc)

/-- THE STATEMENT. -/
theorem proved : Rows.SeekNoneSaid := over
#print axioms proved
end Go.Proofs.Ytgiemddiiognlaa.seekNone
