/- ChainFinds: called with any bytes, any two ints and any int, the law returns true; no condition. -/
import Derived.Test.YtibooihekjdpfaaRows
import Derived.Test.YtibooihekjdpfaaChnG
import Derived.ProofKit
import Derived.OpenShut
import Derived.ShutString
import Derived.ChangeOld
namespace Go.Proofs.Ytibooihekjdpfaa.chainFinds
open Go.ChangeShapes Go.WideShapes Go.ChangeAt Go.RowKit
open Go.ChangeMaps (open_string shut_string)
set_option linter.unusedVariables false

theorem own : ownKnob Try.prog.godebug = none := by kernel_rfl
theorem laidOut : laidOutB Try.prog = true := by kernel_rfl
open Cur Mem
attribute [local go_sem] Oper.semAt_some


set_option maxRecDepth 100000 in
theorem open_two {H : Type} {enc : TypeId × Value → H} {w : World} {base : Nat} {v : Value} {d : DataW H} {p : List MemPlace} (g : Value.okWide Try.prog w .any base 28 v) (h : DataW.Trod enc Try.prog w 0 (fun _ => true) true 28 v d p) :
    ∃ x y : Int, v = .agg #[.int .i64 x, .int .i64 y] ∧ (-9223372036854775808 ≤ x ∧ x ≤ 9223372036854775807) ∧ (-9223372036854775808 ≤ y ∧ y ≤ 9223372036854775807) := by
  have hg : ∃ cs : Array Value, v = .agg cs ∧ cs.size = Try.prog.cellsOf 28 := by
    simp only [Value.okWide, Try.underlying28] at g
    obtain ⟨cs, h1, h2, _⟩ := g
    exact ⟨cs, h1, h2⟩
  obtain ⟨cs, rfl, hs⟩ := hg
  obtain ⟨fuel, hf⟩ := h
  have c2 : Try.prog.cellsOf 28 = 2 := by kernel_rfl
  have c1 : Try.prog.cellsOf 3 = 1 := by kernel_rfl
  rw [c2] at hs
  obtain ⟨cs⟩ := cs
  match cs, hs with
  | [x0, x1], _ =>
    simp only [Value.cells] at hf
    obtain ⟨xs, mm, _, _, _, hl, hi⟩ := DataW.trod_array Try.underlying28 hf
    have i0 := hi 0 (by decide)
    have i1 := hi 1 (by decide)
    rw [c1] at i0 i1
    match xs, hl with
    | [y0, y1], _ =>
      simp only [Nat.zero_mul, Nat.one_mul, List.drop_zero, List.take_succ_cons, List.take_zero, List.drop_succ_cons, List.getElem?_cons_zero, List.getElem?_cons_succ] at i0 i1
      obtain ⟨u, e1, _, r1⟩ := DataW.trod_int Try.underlying3 i0
      obtain ⟨t, e2, _, r2⟩ := DataW.trod_int Try.underlying3 i1
      simp only [List.cons.injEq, and_true] at e1 e2
      subst e1 e2
      exact ⟨u, t, rfl, bounds_i64 r1, bounds_i64 r2⟩

theorem Chn.lts {w : World} {B c mb : Nat} {r : Option Nat} {A : Option Addr} {n m : Nat} {z : List Int} {a : Nat} (h : Chn w B c mb r A n m z a) : (∀ k, CS c mb r k → k < w.heap.size) ∧ ∀ k, (Value.slice A n m).ownBlock = some k → k < w.heap.size := by
  obtain ⟨v, D, rfl, h2, h3, h4, h5, _⟩ := h
  refine ⟨?_, own_ltg h3⟩
  rintro k (rfl | rfl | e)
  · exact h2.lt
  · exact World.ownsMap.lt h5
  · exact own_ltg h4 k e
/-- Between two rounds. -/
def FnI (w3 : World) (B : Nat) (pre : List Nat) (W : World) : Prop :=
  (∃ v, Boxed W B 35 v ∧ W.ownsRow w3.heap.size 3 1 v pre.length (nv' pre) ∧ True) ∧ Ks (fun k => k = B) w3 W
theorem FnI.own (w3 : World) (B : Nat) : OwnFrom w3.heap.size (FnI w3 B) :=
  OwnFrom.and (Own.from (holdsRow_own w3.heap.size B 35 3 1 (fun pre : List Nat => pre.length) (fun pre => nv' pre) (fun _ _ => True)) _)
    (fun s X Y row hs hg hr => hs.trans' (Ks.of_grown (S := fun k => row = some k) hg (fun k hk => hk)) fun i hi h => by have := (hr i h).1; omega)


set_option maxRecDepth 100000 in
set_option maxHeartbeats 8000000 in
theorem walk {H : Type} (enc : TypeId × Value → H) (w : World) (base : Nat) (v0 : Value) (d0 : DataW H) (p0 : List MemPlace) (g0 : Value.okWide Try.prog w .any base 22 v0) (h0 : DataW.Trod enc Try.prog w 0 (fun _ => true) true 22 v0 d0 p0) (v1 : Value) (d1 : DataW H) (p1 : List MemPlace) (g1 : Value.okWide Try.prog w .any base 28 v1) (h1 : DataW.Trod enc Try.prog w 0 (fun _ => true) true 28 v1 d1 p1) (v2 : Value) (d2 : DataW H) (p2 : List MemPlace) (g2 : Value.okWide Try.prog w .any base 3 v2) (h2 : DataW.Trod enc Try.prog w 0 (fun _ => true) true 3 v2 d2 p2) :
    Calls Try.prog 4 #[v0, v1, v2] w fun e w' => e = .returned (.bool true) ∧ Below w.heap.size w w' := by
  obtain ⟨A, n, m, z, rfl, hnm, hz, hby, _⟩ := open_bytes g0 h0
  obtain ⟨to, at_, rfl, hto, hat⟩ := open_two g1 h1
  obtain ⟨most, rfl, hmo⟩ := open_i64 g2 h2
  clear g0 h0 g1 h1 g2 h2
  by_cases h300 : 300 < n
  · have hbx := below_one w (.cells #[.int .i64 to, .int .i64 at_] 28)
    go_enter Try.func4, Try.ntmps4
    clear hz hby
    go_wp2_with fail
    refine (live13_any _).mono ?_
    rintro e w15 ⟨rfl, hb15⟩
    go_wp2
    go_ret
    exact ⟨rfl, hbx.trans (hb15.mono hbx.size)⟩
  · have hn : n ≤ 300 := by omega
    clear h300
    refine (callsIn_wide (n := 3)).1 ?_
    refine callsIn_of_wp_marks Try.func4 rfl trivial ?_ rfl
    refine wpIn_wide.2 ?_
    simp only [Try.ntmps4, List.size_toArray, List.length_cons, List.length_nil, Nat.reduceAdd, Nat.reduceSub, Array.replicate_succ, Array.replicate_zero, List.push_toArray, List.append_toArray, List.nil_append, List.cons_append]
    have hX := Blk.new w #[.int .i64 to, .int .i64 at_] 28
    have hbx := below_one w (.cells #[.int .i64 to, .int .i64 at_] 28)
    obtain ⟨a, ha⟩ : ∃ a, tgt 0 n to = a := ⟨_, rfl⟩
    have han : a ≤ n := by unfold tgt at ha; omega
    have hmin : min (max to 0) (n : Int) = a := by unfold tgt at ha; omega
    have hzx := hz.below hbx
    have HX := Lib.hid hX
    have HZ := Lib.hid hz
    have HBY := Lib.hid hby
    have HA := Lib.hid ha
    have HMIN := Lib.hid hmin
    clear hX hz hby ha hmin
    go_wp2_with fail
    refine (chnew_any (m := m) hzx (by omega)).mono ?_
    rintro e w2 ⟨c, mb, A', m', rfl, hc, hb2⟩
    have hbd := hbx.trans (hb2.mono hbx.size)
    have HB1 := Lib.hid hbx.size
    have hX2 := HX.out.below hb2
    have hB2 := hb2.size
    clear hzx hb2 hbx
    have L : ∀ w', Blk w' w.heap.size #[.int .i64 to, .int .i64 at_] 28 → w'.cell? ⟨w.heap.size, 0, none⟩ = some (.int .i64 to) ∧ w'.cell? ⟨w.heap.size, 1, none⟩ = some (.int .i64 at_) := fun w' h => h.c2
    have hS : Blk w2.drew w.heap.size #[.int .i64 to, .int .i64 at_] 28 := hX2
    go_wp2
    refine Seq.wp_region_seq (fun w' => Blk w' w.heap.size #[.int .i64 to, .int .i64 at_] 28) (by kernel_rfl) (by kernel_rfl) hS ?_
    repeat (first | (refine Seq.Seq.skip (by rfl) ?_; (try simp only [Act.put, List.setIfInBounds_toArray, List.set_cons_zero, List.set_cons_succ])) | (refine Seq.Seq.det ?_ (by rfl) (fun w hS => ?_) ?_; rotate_left; ((try dsimp only at hS); go_simp; (try rw [if_pos (by omega)]); with_reducible rfl); (try simp only [Act.put, List.setIfInBounds_toArray, List.set_cons_zero, List.set_cons_succ])))
    refine Seq.Seq.nil ?_
    clear L hS hX2
    replace hc := hc.drewN 1
    replace hbd := hbd.trans ((below_one' w2).mono hbd.size)
    have hto3 := chaddto_any to hc HBY.out (by omega) (Nat.le_trans hB2 (Nat.le_refl _))
    unfold ChToPost at hto3
    rw [HA.out] at hto3
    go_wp2_with fail
    refine hto3.mono ?_
    rintro e w3 ⟨r3, rfl, hc3, hk3, _⟩
    have hbd3 := hk3.below hbd (Nat.le_refl _) (fun k hk => Nat.le_trans HB1.out (hc.ge k hk))
    have hmin := HMIN.out
    clear hto3 hk3 hc hbd
    go_wp2_with fail
    refine (chadded_any hc3).mono ?_
    rintro e w4 ⟨rfl, rfl⟩
    go_wp2_with fail
    refine (chkeys_any hc3).mono ?_
    rintro e w4 ⟨rfl, rfl⟩
    go_wp2_with fail
    refine (rkeys_any a (HZ.out.below hbd3) HBY.out hnm (by omega) han).mono ?_
    rintro e w4 ⟨rfl, q4, rfl⟩
    have hd := below_drewN (Below.refl w3.heap.size w3) q4
    have hc4 := hc3.below hd
    have hbd4 := hbd3.trans (hd.mono hbd3.size)
    clear hc3 hbd3 hd hmin
    generalize w3.drewN q4 = w4 at *
    go_wp2_with fail
    refine (near_any at_ most hc4 HBY.out (by omega) hat).mono ?_
    rintro e w5 ⟨v5, rfl, ho5, hb5⟩
    have hc5 := hc4.below hb5
    have hbd5 := hbd4.trans (hb5.mono hbd4.size)
    clear hb5 hc4 hbd4
    go_wp2_with fail
    refine (rnear_any a at_ most (HZ.out.below hbd5) HBY.out hnm (by omega) han hat).mono ?_
    rintro e w6 ⟨v6, rfl, ho6, hb6⟩
    have hlen : ((nrs z a at_).take most.toNat).length ≤ 300 := by
      have := nrs_len (z := z) (a := a) (i := at_)
      rw [List.length_take]
      omega
    have hlen2 : (((nrs z a at_).take most.toNat).map fun x : Nat => (x : Int)).length ≤ 100000 := by rw [List.length_map]; omega
    generalize (((nrs z a at_).take most.toNat).map fun x : Nat => (x : Int)) = l at *
    obtain ⟨A5, c5, rfl⟩ := ho5.slice
    obtain ⟨A6, c6, rfl⟩ := ho6.slice
    have hr5 := (own_rw (own_below ho5 hb6) rfl).2.2.2
    have hr6 := (own_rw ho6 rfl).2.2.2
    have hc6 := hc5.below hb6
    have hbd6 := hbd5.trans (hb6.mono hbd5.size)
    clear hb6 hc5 hbd5 ho5 ho6 hlen
    go_wp2_with fail
    refine (ints_same hr5 hr6 hlen2).mono ?_
    rintro e w7 ⟨rfl, q7, rfl⟩
    have hd := below_drewN (Below.refl w6.heap.size w6) q7
    have hc7 := hc6.below hd
    have hbd7 := hbd6.trans (hd.mono hbd6.size)
    clear hc6 hbd6 hd hr5 hr6 hlen2
    generalize w6.drewN q7 = w7 at *
    have bA := Boxed.new w7 35 (.slice none 0 0)
    have hb8 := below_one w7 (.cells #[.slice none 0 0] 35)
    have hP := places_any at_ hc7 hb8 HBY.out (by omega)
    have hbd8 := hbd7.trans (hb8.mono hbd7.size)
    have hs8 : (w7.alloc (.cells #[.slice none 0 0] 35)).heap.size = w7.heap.size + 1 := by simp
    unfold PlacesPost at hP
    rw [hs8] at hP
    have HC7 := Lib.hid hc7
    have HB8 := Lib.hid hb8
    have qf : ∀ (lb : Array Value) (w : World), (binOp .eql 39 (.func (.func 22) #[] lb) .nilFunc).run Try.prog w = .ok (.bool false) w := fun lb w => by kernel_rfl
    clear hc7 hb8
    go_wp2_with fail
    refine hP.mono ?_
    rintro e w9 ⟨g1, g2, o, k, rfl, hb9, hs9, hpl, hk, hcg⟩
    go_wp2_with fail
    clear qf hP
    have bA9 : Boxed w9 w7.heap.size 35 (.slice none 0 0) := (hb9.block _ (by omega)).trans bA
    have hB9 : Below w.heap.size w w9 := hbd8.trans (hb9.mono (by have := hbd8.size; omega))
    have hC9 : Chn w9 _ c mb r3 A' n m' z a := HC7.out.below (HB8.out.trans (hb9.mono (by omega)))
    obtain ⟨i0, hi0, hz0, hz1, hz2⟩ := info_parts (P := Try.prog) (e := 3) (z := .int .i64 0) (size := 1) (bytes := 8) (by kernel_rfl)
    have hPT : ∀ b, PT (w7.heap.size + 1 + 1) (w7.heap.size + 1) g1 g2 b → b < w9.heap.size ∧ b ≠ w7.heap.size := by
      rintro b (rfl | rfl | rfl | rfl) <;> omega
    have HLC := Lib.hid (Chn.lts HC7.out)
    have hw7 : w.heap.size ≤ w7.heap.size := hbd7.size
    have hb79 := HB8.out.trans (hb9.mono (by omega))
    have hLL : (nrs z a at_).length ≤ 300 := by have := nrs_len (z := z) (a := a) (i := at_); omega
    clear bA hb9 hbd7 hbd8 HC7 HB8
    refine (wpIn_wide (n := 3)).1 ?_
    refine wpIn_rangeFunc_ownG rfl (by omega) (gf := 22) (lb := #[.pointer (some ⟨w7.heap.size + 1 + 2, 0, none⟩), .pointer (some ⟨w7.heap.size + 1 + 1, 0, none⟩), .pointer (some ⟨w7.heap.size + 1, 0, none⟩)]) rfl trivial (enters_of Try.func22 (by kernel_rfl) rfl)
      (places_stops Fence.wide (3 - 1) trivial rfl (by omega) _ _ _ g1 g2 o k at_ (nrs z a at_) w9 hpl hat hk ⟨by omega, by omega, by omega, fun _ => by omega⟩) (fun h k => h.trans k)
      (fun W l o o' hl _ _ _ b hb => World.putObj_heap_other (by have := (hPT b hb).1; omega)) (Below.refl _ _) (fun _ => rfl) (FnI w9 w7.heap.size) (fun _ _ _ => False) (FnI.own w9 w7.heap.size) (fun _ _ _ _ _ hs _ _ => hs)
      ⟨⟨_, bA9, World.ownsRow_nil _ _ _ _, trivial⟩, Ks.refl _ _⟩ ?a1 ?assign ?body ?done ?stop
    case assign =>
      intro l x W K hK
      gi_wp2
      exact hK
    case body =>
      rintro l pre x W ⟨⟨v, hv, hrow, _⟩, hks⟩ hlt
      obtain ⟨A, cv, rfl, _⟩ := own_slice hrow
      have hc := hv.cell
      have hD : w9.heap.size ≤ W.heap.size := hks.size
      gi_wp2_with (gi_at_builtin; refine wpListIn_append_own _ rfl _ _ 35 rfl w9.heap.size 3 i0 (.int .i64 0) 1 8 Try.underlying35 hi0 hz0 hz1 hz2 rfl (by decide) _ _ _ rfl (hrow.alloc _) ⟨W.heap.size, 0, none⟩ 1 1 [.int .i64 (x : Int)] rfl rfl (cell_one_new _ _ _) (by simp [Value.oneCell']) (by unfold maxLen; omega) (by omega) (by simp; omega) ?_; intro v' w1 hown' hgrow _; obtain ⟨g', cap', rfl⟩ := ownsRow_succ hown'; obtain ⟨hv1, hv2, hr2, hk2, hb2, hbb⟩ := boxed_app hv (by decide) hrow hD (by omega) hown' hgrow; have hc1 := hv1.cell; have hf1 := hv1.frozen)
      have hbb0 := hbb w7.heap.size (Nat.le_refl _)
      refine ⟨hk2.from _, fun b hb => hb2 b (by have := (hPT b hb).1; omega) (hPT b hb).2, ⟨_, hv2, ?_, trivial⟩, ⟨hbb0.os.trans hks.os, hbb0.tape.trans hks.tape, hbb0.output.trans hks.output, Nat.le_trans hks.size hk2.size, fun i hi hne => (hb2 i hi hne).trans (hks.block i hi hne)⟩⟩
      unfold nv'
      rw [List.length_append, List.map_append]
      exact hr2
    case done =>
      rintro D ys W hD rfl ⟨⟨v, hv, hrow, _⟩, hks⟩ hK
      obtain ⟨Av, cv, rfl, _⟩ := own_slice hrow
      have hDl : D < W.heap.size := (Array.getElem?_eq_some_iff.1 hK).1
      have hC10 : Chn W _ c mb r3 A' n m' z a := hC9.ks hks (fun k e => ⟨fun h => by have := HLC.out.1 k h; omega, fun h => by have := HLC.out.2 k h; omega⟩)
      have hB10 : Below w.heap.size w W := hks.below hB9 (Nat.le_refl _) (fun k e => by omega)
      have hbz := HZ.out.below hB10
      have hN := rnear_any a at_ 300 (w := W.drew) hbz HBY.out hnm (by omega) han hat
      have e300 : (300 : Int).toNat = 300 := rfl
      unfold RNearPost at hN
      rw [e300, List.take_of_length_le hLL] at hN
      obtain ⟨l, hl⟩ : ∃ l : List Nat, nrs z a at_ = l := ⟨_, rfl⟩
      rw [hl] at hN hrow hLL hv
      have hS : Blk W.drew w7.heap.size #[.slice Av l.length cv] 35 := hv
      have L : ∀ w', Blk w' w7.heap.size #[.slice Av l.length cv] 35 → w'.cell? ⟨w7.heap.size, 0, none⟩ = some (.slice Av l.length cv) := fun w' h => h.c1
      have HROW := Lib.hid hrow
      have HC10 := Lib.hid hC10
      have HB10 := Lib.hid hB10
      have HK := Lib.hid hK
      have HN := Lib.hid hN
      clear hv hrow hks hC10 hB10 hbz hN e300 hl hK hPT
      dsimp only
      go_wp2
      refine Seq.wp_region_seq (fun w' => Blk w' w7.heap.size #[.slice Av l.length cv] 35) (by kernel_rfl) (by kernel_rfl) hS ?_
      repeat (first | (refine Seq.Seq.skip (by rfl) ?_; (try simp only [Act.put, List.setIfInBounds_toArray, List.set_cons_zero, List.set_cons_succ])) | (refine Seq.Seq.det ?_ (by rfl) (fun w hS => ?_) ?_; rotate_left; ((try dsimp only at hS); go_simp; (try rw [if_pos (by omega)]); with_reducible rfl); (try simp only [Act.put, List.setIfInBounds_toArray, List.set_cons_zero, List.set_cons_succ])))
      refine Seq.Seq.make (by rfl) (by rfl) (fun K Q' hK => ?_)
      go_simp
      go_at_call 17
      refine HN.out.mono ?_
      rintro e w11 ⟨v11, rfl, ho11, hb11⟩
      obtain ⟨A11, c11, rfl⟩ := ho11.slice
      have hS11 := hS.below hb11
      replace hb11 : Below W.heap.size W w11 := (below_one' W).trans hb11
      have hr11 := (own_rw ho11 rfl).2.2.2
      have hr10 : Rw w11 Av (gv (l.map fun x : Nat => (x : Int))) := by
        have := (own_rw (own_below HROW.out hb11) rfl).2.2.2
        unfold gv
        rw [List.map_map]
        exact this
      have hI := ints_same (c := cv) (c' := c11) hr10 hr11 (by rw [List.length_map]; omega)
      rw [List.length_map] at hI ⊢
      have HI := Lib.hid hI
      have HB11 := Lib.hid hb11
      clear ho11 hb11 hr11 hr10 hI
      refine hK.out _ _ (hS11) ?_
      clear hK K
      try simp only [Act.put, List.setIfInBounds_toArray, List.set_cons_zero, List.set_cons_succ]
      repeat (first | (refine Seq.Seq.skip (by rfl) ?_; (try simp only [Act.put, List.setIfInBounds_toArray, List.set_cons_zero, List.set_cons_succ])) | (refine Seq.Seq.det ?_ (by rfl) (fun w hS => ?_) ?_; rotate_left; ((try dsimp only at hS); go_simp; (try rw [if_pos (by omega)]); with_reducible rfl); (try simp only [Act.put, List.setIfInBounds_toArray, List.set_cons_zero, List.set_cons_succ])))
      refine Seq.Seq.make (by rfl) (by rfl) (fun K Q' hK => ?_)
      go_simp
      go_at_call 15
      refine HI.out.mono ?_
      rintro e w12 ⟨rfl, q12, rfl⟩
      have hS12 : Blk (w11.drewN q12) w7.heap.size #[.slice Av l.length cv] 35 := hS11
      refine hK.out _ _ (hS12) ?_
      clear hK K
      try simp only [Act.put, List.setIfInBounds_toArray, List.set_cons_zero, List.set_cons_succ]
      repeat (first | (refine Seq.Seq.skip (by rfl) ?_; (try simp only [Act.put, List.setIfInBounds_toArray, List.set_cons_zero, List.set_cons_succ])) | (refine Seq.Seq.det ?_ (by rfl) (fun w hS => ?_) ?_; rotate_left; ((try dsimp only at hS); go_simp; (try rw [if_pos (by omega)]); with_reducible rfl); (try simp only [Act.put, List.setIfInBounds_toArray, List.set_cons_zero, List.set_cons_succ])))
      refine Seq.Seq.nil ?_
      have hd12 := HB11.out.trans (below_drewN (Below.refl w11.heap.size w11) q12 |>.mono HB11.out.size)
      have hC12 := HC10.out.below (w' := w11.drewN q12) hd12
      have hB12 := HB10.out.trans (Below.mono hd12 HB10.out.size)
      have HK12 := Lib.hid ((hd12.block D hDl).trans HK.out)
      have hadd := chadd_any hC12 HBY.out (by omega) (Nat.le_of_lt (Nat.lt_of_le_of_lt (hC12.ge c (.inl rfl)) hC12.lt))
      unfold ChAddPost at hadd
      clear hd12 hS12 hS11 hS L HI HB11 HN HROW HK
      generalize w11.drewN q12 = w12 at *
      go_wp2_with fail
      refine hadd.mono ?_
      rintro e w13 ⟨r13, rfl, hc13, hk13, hg13⟩
      have hB13 := hk13.below hB12 (Nat.le_refl _) (fun k hk => by have := hC12.ge k hk; have := HB1.out; omega)
      have HK13 := Lib.hid ((hk13.block D (by have := hB12.size; have := (Array.getElem?_eq_some_iff.1 HK12.out).1; omega) (fun h => by have := HLC.out.1 D h; omega)).trans HK12.out)
      have HB13 := Lib.hid hB13
      clear hadd hc13 hk13 hg13 hC12 hB12 HK12 hB13
      go_wp2_with fail
      refine (live13_any _).mono ?_
      rintro e w15 ⟨rfl, hb15⟩
      have HK15 := Lib.hid ((hb15.block D (Array.getElem?_eq_some_iff.1 HK13.out).1).trans HK13.out)
      have HB15 := Lib.hid (HB13.out.trans (hb15.mono HB13.out.size))
      clear hb15
      go_wp2
      refine ⟨by simp, .inl ⟨_, _, rfl, run_takeDeferred HK15.out, ?_⟩⟩
      exact ⟨_, results_tmp rfl _ _ _, rfl, HB15.out.trans (belowK_b (w := w) (Nat.le_refl _) w15 D _ _ (by omega) HK15.out rfl rfl)⟩
    case stop =>
      rintro D cd pre W _ _ h _
      exact h.elim

set_option maxRecDepth 100000 in
theorem lifted (os : Os) (started : os.Started) (H : Type) (enc : TypeId × Value → H) :
    ReturnsInHanded {} Try.checked os 4 .any (Rows.chainFindsSpec.pre6 enc Try.prog Try.f4 Rows.chainFindsRow.domain false) (Rows.chainFindsSpec.post enc Try.prog Try.f4 false true false false) := by
  refine returnsInHanded_of_change (C := Try.checked) own started (by kernel_rfl) Try.func4
    (ChangeSpec.witness6 (enc := enc) (C := Try.checked) false ⟨#[], #[.slice none 0 0, .agg #[.int .i64 0, .int .i64 0], .int .i64 0], []⟩ 8 (by kernel_rfl) (by kernel_rfl) (by kernel_rfl) (by kernel_rfl)) ?_
  intro W base args ds gs before hval0 hW hcnd _
  have hval : ∀ (j : Nat) t v, Try.f4.params[j]? = some t → args[j]? = some v → Value.okWide Try.prog W .any base t v := hval0
  have hW' := hW
  obtain ⟨p, q, hA0, hV, rfl, hfz, hnd⟩ := hW
  have hA : DataW.TrodAll enc Try.prog W 0 (fun _ => true) true Try.f4.params.toList args.toList ds p := hA0
  rw [Try.params4] at hA hval
  obtain ⟨v0, vs0, d0, ds0, p0, q0, hargs, rfl, rfl, h0, r0⟩ := trodAll_cons hA
  obtain ⟨v1, vs1, d1, ds1, p1, q1, rfl, rfl, rfl, h1, r1⟩ := trodAll_cons r0
  obtain ⟨v2, vs2, d2, ds2, p2, q2, rfl, rfl, rfl, h2, r2⟩ := trodAll_cons r1
  obtain ⟨rfl, rfl, rfl⟩ := trodAll_nil r2
  obtain rfl : args = #[v0, v1, v2] := by cases args; simp_all
  obtain ⟨rfl, rfl⟩ := trodVars_none hV
  have lt0 : ∀ x ∈ p0, x.block < W.heap.size := by obtain ⟨m, hm⟩ := h0; exact DataW.trod_lt m _ _ _ hm
  have lt1 : ∀ x ∈ p1, x.block < W.heap.size := by obtain ⟨m, hm⟩ := h1; exact DataW.trod_lt m _ _ _ hm
  have lt2 : ∀ x ∈ p2, x.block < W.heap.size := by obtain ⟨m, hm⟩ := h2; exact DataW.trod_lt m _ _ _ hm
  clear hA0 hval0
  refine (walk enc W base v0 d0 p0 (hval 0 22 v0 rfl rfl) h0 v1 d1 p1 (hval 1 28 v1 rfl rfl) h1 v2 d2 p2 (hval 2 3 v2 rfl rfl) h2).mono fun e W' ⟨he, bel⟩ => ?_
  subst he
  exact ⟨_, rfl, _, _, _, [], _, [], hW', trodAll_mk1 (shut_bool Try.underlying4 _), (trodAll_cons_mk (Below.trod laidOut (by kernel_rfl) (of_decide_eq_true (by kernel_rfl)) h0 bel lt0) (trodAll_cons_mk (Below.trod laidOut (by kernel_rfl) (of_decide_eq_true (by kernel_rfl)) h1 bel lt1) (trodAll_cons_mk (Below.trod laidOut (by kernel_rfl) (of_decide_eq_true (by kernel_rfl)) h2 bel lt2) trodAll_mk0))), rfl, bel.frame _, fun h => by cases h⟩

theorem over : Rows.chainFindsRow.holds Try.pinned (OpenSpec.ofChange Rows.chainFindsSpec) :=
  OpenClaim.holds_of_wide 4 Try.f4 rfl rfl rfl rfl rfl rfl rfl ⟨rfl, rfl, rfl, rfl, rfl⟩ rfl rfl rfl rfl rfl (by kernel_rfl) Try.func4 (by kernel_rfl)
    (of_decide_eq_true (by kernel_rfl)) (by unfold Func.isWrapper; first | (rw [if_pos (by decide +kernel)]; kernel_rfl) | (rw [if_neg (by decide +kernel)]; exact ⟨rfl, rfl⟩))
    (fun os started H enc _ => lifted os started H enc)

/-- THE STATEMENT. -/
theorem proved : Rows.ChainFindsSaid := over
#print axioms proved
end Go.Proofs.Ytibooihekjdpfaa.chainFinds
