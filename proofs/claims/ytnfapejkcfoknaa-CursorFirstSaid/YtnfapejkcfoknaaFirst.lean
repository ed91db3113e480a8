/- CursorFirst: called with any bytes, any start and any calls, the law returns true, and its arguments read afterwards as before; no condition. -/
import Derived.Test.YtnfapejkcfoknaaRows
import Derived.Test.YtnfapejkcfoknaaCurG
import Derived.Deep.RegionHeld3
import Derived.Deep.Slices
import Derived.Deep.Strs
import Derived.ProofKit
import Derived.OpenShut
import Derived.ShutString
import Derived.ChangeOld
namespace Go.Proofs.Ytnfapejkcfoknaa.cursorFirst
open Go.ChangeShapes Go.WideShapes Go.ChangeAt Go.RowKit
open Go.ChangeMaps (open_string shut_string)
set_option linter.unusedVariables false

theorem own : ownKnob Try.prog.godebug = none := by kernel_rfl
theorem laidOut : laidOutB Try.prog = true := by kernel_rfl

open Cur

/-- A variable that holds a fault. -/
def IsF (w : World) (fb : Nat) (c q : Int) : Prop := w.heap[fb]? = some (.cells #[.int .i64 c, .int .i64 q] 29 (0, 0))
theorem IsF.cells {w : World} {fb : Nat} {c q : Int} (h : IsF w fb c q) : w.cell? ⟨fb, 0, none⟩ = some (.int .i64 c) ∧ w.cell? ⟨fb, 1, none⟩ = some (.int .i64 q) := by
  unfold IsF at h
  simp [World.cell?, h]
theorem IsF.lt {w : World} {fb : Nat} {c q : Int} (h : IsF w fb c q) : fb < w.heap.size := lt_of_block h
theorem IsF.ne {w : World} {fb b : Nat} {c q : Int} {s : Value} {x y u : Int} (h : IsF w fb c q) (hr : IsRd w b s x y u) : fb ≠ b := by
  rintro rfl
  unfold IsF at h
  unfold IsRd at hr
  rw [h] at hr
  simp at hr
theorem IsF.below {w w' : World} {fb : Nat} {c q : Int} (h : IsF w fb c q) (hb : Below w.heap.size w w') : IsF w' fb c q := (hb.block fb h.lt).trans h
theorem IsF.kp {w w' : World} {fb b : Nat} {c q : Int} {s : Value} {x y u : Int} (h : IsF w fb c q) (hr : IsRd w b s x y u) (hk : Kp b w w') : IsF w' fb c q := (hk.block fb h.lt (h.ne hr)).trans h

set_option maxRecDepth 100000 in
set_option maxHeartbeats 1000000 in
theorem walk {H : Type} (enc : TypeId × Value → H) (w : World) (base : Nat) (v0 : Value) (d0 : DataW H) (p0 : List MemPlace) (g0 : Value.okWide Try.prog w .any base 22 v0) (h0 : DataW.Trod enc Try.prog w 0 (fun _ => true) true 22 v0 d0 p0) (v1 : Value) (d1 : DataW H) (p1 : List MemPlace) (g1 : Value.okWide Try.prog w .any base 43 v1) (h1 : DataW.Trod enc Try.prog w 0 (fun _ => true) true 43 v1 d1 p1) (v2 : Value) (d2 : DataW H) (p2 : List MemPlace) (g2 : Value.okWide Try.prog w .any base 23 v2) (h2 : DataW.Trod enc Try.prog w 0 (fun _ => true) true 23 v2 d2 p2) :
    Calls Try.prog 5 #[v0, v1, v2] w fun e w' => e = .returned (.bool true) ∧ Below w.heap.size w w' := by
  obtain ⟨a, n, m, z, rfl, hnm, hz, _, _⟩ := open_bytes g0 h0
  obtain ⟨sn, sc, sq, rfl, rn, rc, rq⟩ := open_start g1 h1
  obtain ⟨a2, n2, m2, rfl, _, hd⟩ := open_dos g2 h2
  clear g0 h0 g1 h1 g2 h2
  go_enter Try.func5, Try.ntmps5
  go_wp2
  go_region
  have hb1 : Below w.heap.size w ((w.alloc (Obj.cells #[Value.int IntKind.i64 sn, Value.int IntKind.i64 sc, Value.int IntKind.i64 sq] 43)).alloc (Obj.cells #[Value.int IntKind.i64 sc, Value.int IntKind.i64 sq] 29)).drew :=
    (((Below.refl _ _).alloc (Nat.le_refl _) _).alloc (by simp) _).drew
  have hf1 : IsF ((w.alloc (Obj.cells #[Value.int IntKind.i64 sn, Value.int IntKind.i64 sc, Value.int IntKind.i64 sq] 43)).alloc (Obj.cells #[Value.int IntKind.i64 sc, Value.int IntKind.i64 sq] 29)).drew (w.heap.size + 1) sc sq := by
    have := heap_alloc_new (w.alloc (Obj.cells #[Value.int IntKind.i64 sn, Value.int IntKind.i64 sc, Value.int IntKind.i64 sq] 43)) (Obj.cells #[Value.int IntKind.i64 sc, Value.int IntKind.i64 sq] 29)
    exact (show IsF ((w.alloc (Obj.cells #[Value.int IntKind.i64 sn, Value.int IntKind.i64 sc, Value.int IntKind.i64 sq] 43)).alloc (Obj.cells #[Value.int IntKind.i64 sc, Value.int IntKind.i64 sq] 29)) (w.heap.size + 1) sc sq by simpa [IsF] using this)
  generalize w.heap.size + 1 = fb at *
  generalize ((w.alloc (Obj.cells #[Value.int IntKind.i64 sn, Value.int IntKind.i64 sc, Value.int IntKind.i64 sq] 43)).alloc (Obj.cells #[Value.int IntKind.i64 sc, Value.int IntKind.i64 sq] 29)).drew = w1 at *
  obtain ⟨f0, f1⟩ := hf1.cells
  by_cases hn : 300 < (n : Int)
  · go_wp2_with fail
    refine (live_any _).mono ?_
    rintro e w2 ⟨rfl, hb2⟩
    go_wp2
    go_ret
    exact ⟨rfl, hb1.trans (hb2.mono hb1.size)⟩
  · by_cases hn2 : 100 < (n2 : Int)
    · go_wp2_with fail
      refine (live_any _).mono ?_
      rintro e w2 ⟨rfl, hb2⟩
      go_wp2
      go_ret
      exact ⟨rfl, hb1.trans (hb2.mono hb1.size)⟩
    · by_cases hc : sc = 0
      · subst hc
        go_wp2_with fail
        refine (live_any _).mono ?_
        rintro e w2 ⟨rfl, hb2⟩
        go_wp2
        go_ret
        exact ⟨rfl, hb1.trans (hb2.mono hb1.size)⟩
      · have hcb : (sc == 0) = false := by simp [hc]
        have HC := Lib.hid hc
        clear hc
        go_wp2_with fail
        refine (new_some _ _ _ _ hnm).mono ?_
        rintro e w2 ⟨b, rfl, hbl, hb2, hr2⟩
        have hf2 := hf1.below hb2
        have hb2' := hb1.trans (hb2.mono hb1.size)
        have hbl' : w.heap.size ≤ b := Nat.le_trans hb1.size hbl
        clear f0 f1 hf1 hb1 hb2 hbl
        have hif : 0 ≤ (if (n : Int) < (if sn < 0 then 0 else sn) then (n : Int) else (if sn < 0 then 0 else sn)) ∧ (if (n : Int) < (if sn < 0 then 0 else sn) then (n : Int) else (if sn < 0 then 0 else sn)) ≤ n := by repeat split <;> omega
        have HI := Lib.hid hif
        clear hif
        go_wp2_with (go_at_call 19; go_must (have hi := HI.out; generalize (if sn < 0 then 0 else sn) = mx at *; generalize (if (n : Int) < mx then (n : Int) else mx) = mn at *; obtain ⟨m0, m1⟩ := hi; refine (skip_any _ _ _ _ _ _ _ _ _ hr2 (by omega) (by omega) (by omega)).mono ?_; rintro e w3 ⟨ok, p', c', q', rfl, hk3, hr3, hs⟩; obtain ⟨rfl, rfl, rfl, rfl⟩ := skip_yes hs (by omega) (by omega)))
        have hf3 := hf2.kp hr2 hk3
        have hb3 := Kp.below hb2' (Nat.le_refl _) hk3 hbl'
        rw [Int.zero_add] at hr3
        clear hf2 hr2 hb2' hk3 hs
        refine (at_any _ _ _ _ _ _ hr3).mono ?_
        rintro e w4 ⟨rfl, rfl⟩
        obtain ⟨f0, f1⟩ := hf3.cells
        go_wp2_with fail
        refine (fail_yes _ _ _ _ _ _ _ hr3).mono ?_
        rintro e w4 ⟨rfl, hk4, hr4⟩
        rw [show fq sc sq = sq by simp [fq, HC.out]] at hr4
        have hf4 := hf3.kp hr3 hk4
        have hb4 := Kp.below hb3 (Nat.le_refl _) hk4 hbl'
        clear hf3 hr3 hb3 hk4 f0 f1
        go_wp2_with fail
        go_loopw [11] (fun i wr => ∃ k : Nat, k ≤ n2 ∧ i = .int .i64 k ∧ IsRd wr b (.slice a n n) mn sc sq ∧ IsF wr fb sc sq ∧ Below w.heap.size w wr) (fun i _ => n2 - (intOf i).toNat)
        case atStart => exact ⟨0, Nat.zero_le _, rfl, hr4, hf4, hb4⟩
        case round =>
          obtain ⟨k, hk, rfl, hrd, hfd, hbd⟩ := hrel
          clear hr4 hf4 hb4
          by_cases hlt : k < n2
          · obtain ⟨lb, lo, lx, ly, lu, rfl, _, hy, _⟩ := hd.below hbd k hlt
            have hyc : ∀ wq, Below w.heap.size w wq → wq.cell? ⟨lb, lo + k * 3 + 1, none⟩ = some (.int .i64 ly) := fun wq hb => by
              obtain ⟨lb', lo', lx', ly', lu', e', _, h2', _⟩ := hd.below hb k hlt
              obtain ⟨lb2, lo2, lx2, ly2, lu2, e2, _, h22, _⟩ := hd k hlt
              injection e' with e'
              injection e2 with e2
              injection e' with e3 e4
              injection e2 with e5 e6
              subst e3 e4 e5 e6
              have q1 := (hb.cell (p := ⟨lb, lo + k * 3 + 1, none⟩) (lt_of_cell h22)).trans h22
              have q2 := (hbd.cell (p := ⟨lb, lo + k * 3 + 1, none⟩) (lt_of_cell h22)).trans h22
              rw [hy] at q2
              injection q2 with q2
              rw [q1, q2]
            have k0 : (0 : Int) ≤ k := by omega
            have k1 : (k : Int) < n2 := by omega
            have hcn := HC.out
            clear hcn
            go_wp2_with fail
            refine (fail_stays _ _ _ _ _ _ _ _ hrd HC.out).mono ?_
            rintro e w5 ⟨rfl, hk5, hr5⟩
            have hf5 := hfd.kp hrd hk5
            have hb5 := Kp.below hbd (Nat.le_refl _) hk5 hbl'
            go_wp2_with fail
            refine (end_stays _ _ _ _ _ _ _ _ hr5 (by omega) (by omega) (by omega) HC.out).mono ?_
            rintro e w6 ⟨rfl, hk6, hrA⟩
            have hfA := hf5.kp hr5 hk6
            have hbA := Kp.below hb5 (Nat.le_refl _) hk6 hbl'
            have hzA := hz.below hbA
            have sA := hyc _ hbA
            obtain ⟨fA0, fA1⟩ := hfA.cells
            clear hrd hfd hbd hr5 hf5 hb5 hk5 hk6 hy
            go_wp2_with fail
            go_region_held3 (fun w' => w'.cell? ⟨lb, lo + k * 3 + 1, none⟩ = some (.int .i64 ly) ∧ w'.cell? ⟨fb, 0, none⟩ = some (.int .i64 sc) ∧ w'.cell? ⟨fb, 1, none⟩ = some (.int .i64 sq))
              (first
                | go_keep
                | exact sB
                | exact sC
                | exact sD
                | exact sE)
              (first
                | (go_at_call 14; go_must (refine (take_bad _ _ _ _ _ _ _ _ _ _ (by exact hrA) (by exact hzA) (by omega) (by omega) (by omega) (by omega) HC.out).mono ?_; rintro e wB ⟨rfl, hkB, hrB⟩; have hfB := IsF.kp (by exact hfA) (by exact hrA) hkB; have hbB := Kp.below (below_drewN hbA _) (Nat.le_refl _) hkB hbl'; have hzB := hz.below hbB; have sB := And.intro (hyc _ hbB) hfB.cells))
                | (go_at_call 19; go_must (refine (skip_stays _ _ _ _ _ _ _ _ _ (by exact hrB) (by omega) (by omega) (by omega) HC.out).mono ?_; rintro e wC ⟨rfl, hkC, hrC⟩; have hfC := IsF.kp (by exact hfB) (by exact hrB) hkC; have hbC := Kp.below hbB (Nat.le_refl _) hkC hbl'; have hzC := hz.below hbC; have sC := And.intro (hyc _ hbC) hfC.cells))
                | (go_at_call 18; go_must (refine (byte_stays _ _ _ _ _ _ _ _ _ (by exact hrC) (by exact hzC) (by omega) (by omega) (by omega) HC.out).mono ?_; rintro e wD ⟨rfl, hkD, hrD⟩; have hfD := IsF.kp (by exact hfC) (by exact hrC) hkD; have hbD := Kp.below hbC (Nat.le_refl _) hkD hbl'; have sD := And.intro (hyc _ hbD) hfD.cells))
                | (go_at_call 10; go_must (refine (at_any _ _ _ _ _ _ (by exact hrD)).mono ?_; rintro e wX ⟨rfl, rfl⟩))
                | (go_at_call 12; go_must (refine (fault_any _ _ _ _ _ _ (by exact hrD)).mono ?_; rintro e wE ⟨rfl, hkE⟩; have hrE := hrD.below hkE; have hfE := hfD.below hkE; have hbE := hbD.trans (hkE.mono hbD.size); have sE := And.intro (hyc _ hbE) hfE.cells))
                | fail)
            clear hrA hfA hbA hzA sA fA0 fA1 hkB hrB hfB hbB hzB sB hkC hrC hfC hbC hzC sC hkD hrD hfD hbD sD hkE sE hyc
            go_wp2
            go_roundw
            case rel => exact ⟨k + 1, by omega, by go_num, hrE, hfE, hbE⟩
            case measure => simp [intOf]; omega
          · go_wp2_with fail
            refine (left_any _ _ _ _ _ _ _ _ hrd (by omega) (by omega) (by omega)).mono ?_
            rintro e w5 ⟨rfl, kk, rfl⟩
            go_wp2_with fail
            refine (good_any _ _ _ _ _ _ (hrd.drewN kk)).mono ?_
            rintro e w6 ⟨rfl, hk6⟩
            have hb6 := (below_drewN hbd kk).trans (hk6.mono (below_drewN hbd kk).size)
            clear hrd hfd hbd hk6
            go_wp2_with fail
            refine (live_any _).mono ?_
            rintro e w7 ⟨rfl, hk7⟩
            have hb7 := hb6.trans (hk7.mono hb6.size)
            go_wp2
            go_ret
            exact ⟨rfl, hb7⟩

set_option maxRecDepth 100000 in
theorem lifted (os : Os) (started : os.Started) (H : Type) (enc : TypeId × Value → H) :
    ReturnsInHanded {} Try.checked os 5 .any (Rows.cursorFirstSpec.pre6 enc Try.prog Try.f5 Rows.cursorFirstRow.domain false) (Rows.cursorFirstSpec.post enc Try.prog Try.f5 false true false false) := by
  refine returnsInHanded_of_change (C := Try.checked) own started (by kernel_rfl) Try.func5
    (ChangeSpec.witness6 (enc := enc) (C := Try.checked) false ⟨#[], #[.slice none 0 0, .agg #[.int .i64 0, .int .i64 0, .int .i64 0], .slice none 0 0], []⟩ 8 (by kernel_rfl) (by kernel_rfl) (by kernel_rfl) (by kernel_rfl)) ?_
  intro W base args ds gs before hval0 hW hcnd _
  have hval : ∀ (j : Nat) t v, Try.f5.params[j]? = some t → args[j]? = some v → Value.okWide Try.prog W .any base t v := hval0
  have hW' := hW
  obtain ⟨p, q, hA0, hV, rfl, hfz, hnd⟩ := hW
  have hA : DataW.TrodAll enc Try.prog W 0 (fun _ => true) true Try.f5.params.toList args.toList ds p := hA0
  rw [Try.params5] at hA hval
  obtain ⟨v0, vs0, d0, ds0, p0, q0, hargs, rfl, rfl, h0, r0⟩ := trodAll_cons hA
  obtain ⟨v1, vs1, d1, ds1, p1, q1, rfl, rfl, rfl, h1, r1⟩ := trodAll_cons r0
  obtain ⟨v2, vs2, d2, ds2, p2, q2, rfl, rfl, rfl, h2, r2⟩ := trodAll_cons r1
  obtain ⟨rfl, rfl, rfl⟩ := trodAll_nil r2
  obtain rfl : args = #[v0, v1, v2] := by cases args; simp_all
  obtain ⟨rfl, rfl⟩ := trodVars_none hV
  have lt0 : ∀ x ∈ p0, x.block < W.heap.size := by obtain ⟨m, hm⟩ := h0; exact DataW.trod_lt m _ _ _ hm
  have lt1 : ∀ x ∈ p1, x.block < W.heap.size := by obtain ⟨m, hm⟩ := h1; exact DataW.trod_lt m _ _ _ hm
  have lt2 : ∀ x ∈ p2, x.block < W.heap.size := by obtain ⟨m, hm⟩ := h2; exact DataW.trod_lt m _ _ _ hm
  clear hA0 hval0
  refine (walk enc W base v0 d0 p0 (hval 0 22 v0 rfl rfl) h0 v1 d1 p1 (hval 1 43 v1 rfl rfl) h1 v2 d2 p2 (hval 2 23 v2 rfl rfl) h2).mono fun e W' ⟨he, bel⟩ => ?_
  subst he
  exact ⟨_, rfl, _, _, _, [], _, [], hW', trodAll_mk1 (shut_bool Try.underlying4 _), (trodAll_cons_mk (Below.trod laidOut (by kernel_rfl) (of_decide_eq_true (by kernel_rfl)) h0 bel lt0) (trodAll_cons_mk (Below.trod laidOut (by kernel_rfl) (of_decide_eq_true (by kernel_rfl)) h1 bel lt1) (trodAll_cons_mk (Below.trod laidOut (by kernel_rfl) (of_decide_eq_true (by kernel_rfl)) h2 bel lt2) trodAll_mk0))), rfl, bel.frame _, fun h => by cases h⟩

theorem over : Rows.cursorFirstRow.holds Try.pinned (OpenSpec.ofChange Rows.cursorFirstSpec) :=
  OpenClaim.holds_of_wide 5 Try.f5 rfl rfl rfl rfl rfl rfl rfl ⟨rfl, rfl, rfl, rfl, rfl⟩ rfl rfl rfl rfl rfl (by kernel_rfl) Try.func5 (by kernel_rfl)
    (of_decide_eq_true (by kernel_rfl)) (by unfold Func.isWrapper; first | (rw [if_pos (by decide +kernel)]; kernel_rfl) | (rw [if_neg (by decide +kernel)]; exact ⟨rfl, rfl⟩))
    (fun os started H enc _ => lifted os started H enc)

/-- THE STATEMENT. -/
theorem proved : Rows.CursorFirstSaid := over
#print axioms proved
end Go.Proofs.Ytnfapejkcfoknaa.cursorFirst
