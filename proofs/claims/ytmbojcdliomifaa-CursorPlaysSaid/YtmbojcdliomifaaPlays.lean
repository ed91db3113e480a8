/- CursorPlays: called with any bytes and any calls, the law returns true, and its arguments read afterwards as before; no condition. -/
import Derived.Test.YtmbojcdliomifaaRows
import Derived.Test.YtmbojcdliomifaaCurK
import Derived.Deep.RegionHeld3
import Derived.Deep.CutRange
import Derived.Deep.Slices
import Derived.Deep.Strs
import Derived.ProofKit
import Derived.OpenShut
import Derived.ShutString
import Derived.ChangeOld
namespace Go.Proofs.Ytmbojcdliomifaa.cursorPlays
open Go.ChangeShapes Go.WideShapes Go.ChangeAt Go.RowKit
open Go.ChangeMaps (open_string shut_string)
set_option linter.unusedVariables false

theorem own : ownKnob Try.prog.godebug = none := by kernel_rfl
theorem laidOut : laidOutB Try.prog = true := by kernel_rfl
open Cur Mem

theorem IsDos.at_ {w : World} {A : Option Addr} {n i : Nat} (h : IsDos w A n) (hi : i < n) : ∃ lb lo x y u, A = some ⟨lb, lo, none⟩ ∧ lb < w.heap.size ∧ ∀ wq, Below w.heap.size w wq →
    wq.cell? ⟨lb, lo + i * 3, none⟩ = some (.int .i64 x) ∧ wq.cell? ⟨lb, lo + i * 3 + 1, none⟩ = some (.int .i64 y) ∧ wq.cell? ⟨lb, lo + i * 3 + 2, none⟩ = some (.int .i64 u) := by
  obtain ⟨lb, lo, x, y, u, e, c0, c1, c2, _⟩ := h i hi
  have hl := lt_of_cell c0
  exact ⟨lb, lo, x, y, u, e, hl, fun wq hb => ⟨(hb.cell (p := ⟨lb, _, none⟩) hl).trans c0, (hb.cell (p := ⟨lb, _, none⟩) hl).trans c1, (hb.cell (p := ⟨lb, _, none⟩) hl).trans c2⟩⟩

def PlayRel (b xb : Nat) (a : Option Addr) (n m : Nat) (p c q : Int) (w : World) (v8 v9 : Value) (wx : World) : Prop :=
  ∃ (xc : Nat) (p' c' q' : Int), v8 = .pointer (some ⟨xc, 0, none⟩) ∧ v9 = .bool true ∧ 0 ≤ p' ∧ p' ≤ n ∧ IsRd wx b (.slice a n n) p' c' q' ∧ Blk wx xc #[.slice a n m, .int .i64 p', .int .i64 c', .int .i64 q'] 31 ∧
    Blk wx xb #[.slice a n m, .int .i64 p, .int .i64 c, .int .i64 q] 31 ∧ Below w.heap.size w wx ∧ xc ≠ xb

set_option maxRecDepth 100000 in
set_option maxHeartbeats 1000000 in
theorem walk {H : Type} (enc : TypeId × Value → H) (w : World) (base : Nat) (v0 : Value) (d0 : DataW H) (p0 : List MemPlace) (g0 : Value.okWide Try.prog w .any base 22 v0) (h0 : DataW.Trod enc Try.prog w 0 (fun _ => true) true 22 v0 d0 p0) (v1 : Value) (d1 : DataW H) (p1 : List MemPlace) (g1 : Value.okWide Try.prog w .any base 23 v1) (h1 : DataW.Trod enc Try.prog w 0 (fun _ => true) true 23 v1 d1 p1) :
    Calls Try.prog 3 #[v0, v1] w fun e w' => e = .returned (.bool true) ∧ Below w.heap.size w w' := by
  obtain ⟨a, n, m, z, rfl, hnm, hz, _, ha⟩ := open_bytes g0 h0
  obtain ⟨a2, n2, m2, rfl, _, hd⟩ := open_dos g1 h1
  clear g0 h0 g1 h1
  by_cases hn : 300 < (n : Int)
  · go_enter Try.func3, Try.ntmps3
    go_wp2_with fail
    refine (live_any _).mono ?_
    rintro e w1 ⟨rfl, hb⟩
    go_wp2
    go_ret
    exact ⟨rfl, hb⟩
  · by_cases hn1 : 100 < (n2 : Int)
    · go_enter Try.func3, Try.ntmps3
      go_wp2_with fail
      refine (live_any _).mono ?_
      rintro e w1 ⟨rfl, hb⟩
      go_wp2
      go_ret
      exact ⟨rfl, hb⟩
    · go_enter Try.func3, Try.ntmps3
      go_wp2_with fail
      refine (new_some _ _ _ _ hnm).mono ?_
      rintro e w7 ⟨b, rfl, hbl, hb7, hr⟩
      have hX := Blk.new w7 #[Value.slice a n m, .int .i64 0, .int .i64 0, .int .i64 0] 31
      have hr8 := hr.below (below_one w7 (.cells #[.slice a n m, .int .i64 0, .int .i64 0, .int .i64 0] 31))
      have hb8 := hb7.trans ((below_one w7 (.cells #[.slice a n m, .int .i64 0, .int .i64 0, .int .i64 0] 31)).mono hb7.size)
      have nxb : w7.heap.size ≠ b := by have := hr.lt; omega
      have hxw : w.heap.size ≤ w7.heap.size := hb7.size
      clear hb7 hr
      go_wp2_with fail
      generalize w7.alloc (.cells #[.slice a n m, .int .i64 0, .int .i64 0, .int .i64 0] 31) = w8 at *
      generalize w7.heap.size = xb at *
      go_loopw [7] (fun i wr => ∃ k : Nat, k ≤ n2 ∧ i = .int .i64 k ∧ ∃ p c q : Int, 0 ≤ p ∧ p ≤ n ∧ IsRd wr b (.slice a n n) p c q ∧ Blk wr xb #[.slice a n m, .int .i64 p, .int .i64 c, .int .i64 q] 31 ∧ Below w.heap.size w wr) (fun i _ => n2 - (intOf i).toNat)
      case atStart => exact ⟨0, Nat.zero_le _, rfl, 0, 0, 0, Int.le_refl _, by omega, hr8, hX, hb8⟩
      case round =>
        obtain ⟨k, hk, rfl, p, c, q, hp0, hp1, hrd, hx, hbd⟩ := hrel
        clear hr8 hX hb8
        by_cases hlt : k < n2
        · obtain ⟨lb, lo, x, y, u, rfl, hl, hcell⟩ := IsDos.at_ hd hlt
          obtain ⟨l0, l1, l2⟩ := hcell _ hbd
          obtain ⟨x0, x1, x2, x3⟩ := hx.c4
          have hzr := hz.below hbd
          have k0 : (0 : Int) ≤ k := by omega
          have k1 : (k : Int) < n2 := by omega
          have hbl2 : wr.heap.size ≠ xb := by have := hx.lt; omega
          have hbl3 : wr.heap.size ≠ lb := by have := hbd.size; omega
          go_wp2_with fail
          go_cut [8, 9] from 23 to 74 (fun v8 v9 wx => PlayRel b xb a n m p c q w v8 v9 wx)
          case first =>
            go_region_held3 (fun w' => w'.cell? ⟨xb, 0, none⟩ = some (.slice a n m) ∧ w'.cell? ⟨xb, 1, none⟩ = some (.int .i64 p) ∧ w'.cell? ⟨xb, 2, none⟩ = some (.int .i64 c) ∧ w'.cell? ⟨xb, 3, none⟩ = some (.int .i64 q) ∧
                w'.cell? ⟨lb, lo + k * 3, none⟩ = some (.int .i64 x) ∧ w'.cell? ⟨lb, lo + k * 3 + 1, none⟩ = some (.int .i64 y) ∧ w'.cell? ⟨lb, lo + k * 3 + 2, none⟩ = some (.int .i64 u))
              (first
                | go_keep
                | exact sB)
              (first
                | (go_at_call 9; go_must (refine (step_any _ _ _ _ _ _ _ _ _ _ _ _ (by first | exact hrd | exact hrd.below (below_one _ _).drew | exact hrd.below (below_one _ _)) (by first | exact hzr | exact hzr.below (below_one _ _).drew | exact hzr.below (below_one _ _)) ha hp0 hp1 hnm (by omega)).mono ?_; rintro e w9 ⟨p', c', q', rfl, hp2, hp3, hk9, hr9⟩; have hkb : Kp b wr w9 := (by first | exact (Kp.refl b wr).drew.trans hk9 | exact (Kp.of_below (below_one wr _)).drew.trans hk9 | exact (Kp.of_below (below_one wr _)).trans hk9); have hb9 := Kp.below hbd (Nat.le_refl _) hkb hbl; have hx9 := blk_kp hx hkb nxb; have sB := And.intro hx9.c4.1 (And.intro hx9.c4.2.1 (And.intro hx9.c4.2.2.1 (And.intro hx9.c4.2.2.2 (hcell _ hb9)))); have t1 : w9.heap.size ≠ xb := (by have := hx9.lt; omega); have t2 : w9.heap.size ≠ lb := (by have := hb9.size; omega); try (have hN := blk_kp (show Blk _ wr.heap.size #[.slice none 0 0, .int .i64 0, .int .i64 0, .int .i64 0] 31 by exact Blk.new wr _ _) hk9 (by have := hrd.lt; omega); obtain ⟨y0, y1, y2, y3⟩ := hN.c4; obtain ⟨u0, u1, u2, u3⟩ := hN.f4)))
                | fail)
            all_goals
              go_wp2
              go_meet
            case rel =>
              exact ⟨_, p', c', q', rfl, rfl, hp2, hp3, hr9.below (below_one _ _), Blk.new _ _ _, hx9.alloc _, hb9.trans ((below_one _ _).mono hb9.size), t1⟩
            case rel =>
              obtain ⟨e1, e2⟩ := set4 hN (.slice a n m) (.int .i64 p') (.int .i64 c') (.int .i64 q')
              exact ⟨_, p', c', q', rfl, rfl, hp2, hp3, hr9.kp e2 (by have := hrd.lt; omega), e1, blk_kp hx9 e2 hbl2.symm, Kp.below hb9 (Nat.le_refl _) e2 (hbd.size), hbl2⟩
          case rest =>
            obtain ⟨xc, p', c', q', rfl, rfl, hp2, hp3, hr9, hc9, hx9, hb9, hne⟩ := hcut
            clear hrd hx hbd x0 x1 x2 x3 l0 l1 l2 hcell hzr hbl2 hbl3
            obtain ⟨x0, x1, x2, x3⟩ := hx9.c4
            obtain ⟨y0, y1, y2, y3⟩ := hc9.c4
            obtain ⟨f0, f1, f2, f3⟩ := hx9.f4
            obtain ⟨e1, e2⟩ := set4 hx9 (.slice a n m) (.int .i64 p') (.int .i64 c') (.int .i64 q')
            have hr10 := hr9.kp e2 (by have := hr9.lt; omega)
            have hb10 := Kp.below hb9 (Nat.le_refl _) e2 hxw
            have hwr : IntKind.i64.wrap ((n : Int) - p') = (n : Int) - p' := IntWalk.i64_in _ (by omega)
            go_wp2_with fail
            generalize (((wc.setCell ⟨xb, 0, none⟩ (.slice a n m)).setCell ⟨xb, 1, none⟩ (.int .i64 p')).setCell ⟨xb, 2, none⟩ (.int .i64 c')).setCell ⟨xb, 3, none⟩ (.int .i64 q') = w10 at *
            clear x0 x1 x2 x3 y0 y1 y2 y3 f0 f1 f2 f3 hr9 hc9 hx9 hb9 e2
            obtain ⟨x0, x1, x2, x3⟩ := e1.c4
            clear x0
            go_region_held3 (fun w' => w'.cell? ⟨xb, 1, none⟩ = some (.int .i64 p') ∧ w'.cell? ⟨xb, 2, none⟩ = some (.int .i64 c') ∧ w'.cell? ⟨xb, 3, none⟩ = some (.int .i64 q'))
              (first
                | go_keep
                | exact sC
                | exact sD)
              (first
                | (go_at_call 10; go_must (refine (at_any _ _ _ _ _ _ (by exact hr10)).mono ?_; rintro e w5 ⟨rfl, rfl⟩))
                | (go_at_call 11; go_must (refine (left_any _ _ _ _ _ _ _ _ (by exact hr10) (by omega) (by omega) (by omega)).mono ?_; rintro e w5 ⟨rfl, nq, rfl⟩))
                | (go_at_call 12; go_must (refine (fault_any _ _ _ _ _ _ (by exact hr10)).mono ?_; rintro e w11 ⟨rfl, hb11⟩; have hx11 := Blk.below (show Blk _ xb _ _ by exact e1) hb11; have hr11 := IsRd.below (show IsRd _ b _ _ _ _ by exact hr10) hb11; have sC := hx11.c4.2))
                | (go_at_call 13; go_must (refine (good_any _ _ _ _ _ _ (by exact hr11)).mono ?_; rintro e w12 ⟨rfl, hb12⟩; have hx12 := Blk.below (show Blk _ xb _ _ by exact hx11) hb12; have hr12 := IsRd.below (show IsRd _ b _ _ _ _ by exact hr11) hb12; have sD := hx12.c4.2))
                | fail)
            have B1 := (below_drewN hb10 _).trans (hb11.mono (below_drewN hb10 _).size)
            have B2 := B1.trans (hb12.mono B1.size)
            clear sC sD hr11 hr10 hx11 e1 hb10 hb11 hb12 B1 x1 x2 x3 hwr
            go_wp2
            go_roundw
            case rel => exact ⟨k + 1, by omega, by go_num, p', c', q', hp2, hp3, hr12, hx12, B2⟩
            case measure => simp [intOf]; omega
        · go_wp2_with fail
          refine (live_any _).mono ?_
          rintro e w16 ⟨rfl, hk16⟩
          have hb16 := hbd.trans (hk16.mono hbd.size)
          go_wp2
          go_ret
          exact ⟨rfl, hb16⟩

set_option maxRecDepth 100000 in
theorem lifted (os : Os) (started : os.Started) (H : Type) (enc : TypeId × Value → H) :
    ReturnsInHanded {} Try.checked os 3 .any (Rows.cursorPlaysSpec.pre6 enc Try.prog Try.f3 Rows.cursorPlaysRow.domain false) (Rows.cursorPlaysSpec.post enc Try.prog Try.f3 false true false false) := by
  refine returnsInHanded_of_change (C := Try.checked) own started (by kernel_rfl) Try.func3
    (ChangeSpec.witness6 (enc := enc) (C := Try.checked) false ⟨#[], #[.slice none 0 0, .slice none 0 0], []⟩ 8 (by kernel_rfl) (by kernel_rfl) (by kernel_rfl) (by kernel_rfl)) ?_
  intro W base args ds gs before hval0 hW hcnd _
  have hval : ∀ (j : Nat) t v, Try.f3.params[j]? = some t → args[j]? = some v → Value.okWide Try.prog W .any base t v := hval0
  have hW' := hW
  obtain ⟨p, q, hA0, hV, rfl, hfz, hnd⟩ := hW
  have hA : DataW.TrodAll enc Try.prog W 0 (fun _ => true) true Try.f3.params.toList args.toList ds p := hA0
  rw [Try.params3] at hA hval
  obtain ⟨v0, vs0, d0, ds0, p0, q0, hargs, rfl, rfl, h0, r0⟩ := trodAll_cons hA
  obtain ⟨v1, vs1, d1, ds1, p1, q1, rfl, rfl, rfl, h1, r1⟩ := trodAll_cons r0
  obtain ⟨rfl, rfl, rfl⟩ := trodAll_nil r1
  obtain rfl : args = #[v0, v1] := by cases args; simp_all
  obtain ⟨rfl, rfl⟩ := trodVars_none hV
  have lt0 : ∀ x ∈ p0, x.block < W.heap.size := by obtain ⟨m, hm⟩ := h0; exact DataW.trod_lt m _ _ _ hm
  have lt1 : ∀ x ∈ p1, x.block < W.heap.size := by obtain ⟨m, hm⟩ := h1; exact DataW.trod_lt m _ _ _ hm
  clear hA0 hval0
  refine (walk enc W base v0 d0 p0 (hval 0 22 v0 rfl rfl) h0 v1 d1 p1 (hval 1 23 v1 rfl rfl) h1).mono fun e W' ⟨he, bel⟩ => ?_
  subst he
  exact ⟨_, rfl, _, _, _, [], _, [], hW', trodAll_mk1 (shut_bool Try.underlying4 _), (trodAll_cons_mk (Below.trod laidOut (by kernel_rfl) (of_decide_eq_true (by kernel_rfl)) h0 bel lt0) (trodAll_cons_mk (Below.trod laidOut (by kernel_rfl) (of_decide_eq_true (by kernel_rfl)) h1 bel lt1) trodAll_mk0)), rfl, bel.frame _, fun h => by cases h⟩

theorem over : Rows.cursorPlaysRow.holds Try.pinned (OpenSpec.ofChange Rows.cursorPlaysSpec) :=
  OpenClaim.holds_of_wide 3 Try.f3 rfl rfl rfl rfl rfl rfl rfl ⟨rfl, rfl, rfl, rfl, rfl⟩ rfl rfl rfl rfl rfl (by kernel_rfl) Try.func3 (by kernel_rfl)
    (of_decide_eq_true (by kernel_rfl)) (by unfold Func.isWrapper; first | (rw [if_pos (by decide +kernel)]; kernel_rfl) | (rw [if_neg (by decide +kernel)]; exact ⟨rfl, rfl⟩))
    (fun os started H enc _ => lifted os started H enc)

/-- THE STATEMENT. -/
theorem proved : Rows.CursorPlaysSaid := over
#print axioms proved
end Go.Proofs.Ytmbojcdliomifaa.cursorPlays
