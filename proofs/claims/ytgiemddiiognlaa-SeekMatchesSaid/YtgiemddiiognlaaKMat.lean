/- SeekMatches: called with any bytes and any four ints, the law returns true; no condition. -/
import Derived.Test.YtgiemddiiognlaaRows
import Derived.Test.YtgiemddiiognlaaSekE
import Derived.ProofKit
import Derived.OpenShut
import Derived.ShutString
import Derived.ChangeOld
namespace Go.Proofs.Ytgiemddiiognlaa.seekMatches
open Go.ChangeShapes Go.WideShapes Go.ChangeAt Go.RowKit
open Go.ChangeMaps (open_string shut_string)
set_option linter.unusedVariables false

theorem own : ownKnob Try.prog.godebug = none := by kernel_rfl
theorem laidOut : laidOutB Try.prog = true := by kernel_rfl
open Cur Mem
attribute [local go_sem] Oper.semAt_some


set_option maxRecDepth 100000 in
theorem open_two {H : Type} {enc : TypeId × Value → H} {w : World} {base : Nat} {v : Value} {d : DataW H} {p : List MemPlace} (g : Value.okWide Try.prog w .any base 23 v) (h : DataW.Trod enc Try.prog w 0 (fun _ => true) true 23 v d p) :
    ∃ x y : Int, v = .agg #[.int .i64 x, .int .i64 y] ∧ (-9223372036854775808 ≤ x ∧ x ≤ 9223372036854775807) ∧ (-9223372036854775808 ≤ y ∧ y ≤ 9223372036854775807) := by
  have hg : ∃ cs : Array Value, v = .agg cs ∧ cs.size = Try.prog.cellsOf 23 := by
    simp only [Value.okWide, Try.underlying23] at g
    obtain ⟨cs, h1, h2, _⟩ := g
    exact ⟨cs, h1, h2⟩
  obtain ⟨cs, rfl, hs⟩ := hg
  obtain ⟨fuel, hf⟩ := h
  have c2 : Try.prog.cellsOf 23 = 2 := by kernel_rfl
  have c1 : Try.prog.cellsOf 3 = 1 := by kernel_rfl
  rw [c2] at hs
  obtain ⟨cs⟩ := cs
  match cs, hs with
  | [x0, x1], _ =>
    simp only [Value.cells] at hf
    obtain ⟨xs, mm, _, _, _, hl, hi⟩ := DataW.trod_array Try.underlying23 hf
    have i0 := hi 0 (by decide)
    have i1 := hi 1 (by decide)
    rw [c1] at i0 i1
    match xs, hl with
    | [y0, y1], _ =>
      simp only [Nat.zero_mul, Nat.one_mul, List.drop_zero, List.take_succ_cons, List.take_zero, List.drop_succ_cons, List.getElem?_cons_zero, List.getElem?_cons_succ] at i0 i1
      obtain ⟨u, e1, _, r1⟩ := DataW.trod_int Try.underlying3 i0
      obtain ⟨t, e2, _, r2⟩ := DataW.trod_int Try.underlying3 i1
      simp only [List.cons.injEq, and_true] at e1 e2
      subst e1 e2
      exact ⟨u, t, rfl, bounds_i64 r1, bounds_i64 r2⟩



set_option maxRecDepth 100000 in
set_option maxHeartbeats 4000000 in
theorem walk {H : Type} (enc : TypeId × Value → H) (w : World) (base : Nat) (v0 : Value) (d0 : DataW H) (p0 : List MemPlace) (g0 : Value.okWide Try.prog w .any base 22 v0) (h0 : DataW.Trod enc Try.prog w 0 (fun _ => true) true 22 v0 d0 p0) (v1 : Value) (d1 : DataW H) (p1 : List MemPlace) (g1 : Value.okWide Try.prog w .any base 23 v1) (h1 : DataW.Trod enc Try.prog w 0 (fun _ => true) true 23 v1 d1 p1) (v2 : Value) (d2 : DataW H) (p2 : List MemPlace) (g2 : Value.okWide Try.prog w .any base 23 v2) (h2 : DataW.Trod enc Try.prog w 0 (fun _ => true) true 23 v2 d2 p2) :
    Calls Try.prog 3 #[v0, v1, v2] w fun e w' => e = .returned (.bool true) ∧ Below w.heap.size w w' := by
  obtain ⟨A, n, m, z, rfl, hnm, hz, hby, _⟩ := open_bytes g0 h0
  obtain ⟨a, off, rfl, ha, hoff⟩ := open_two g1 h1
  obtain ⟨x, y, rfl, hx, hy⟩ := open_two g2 h2
  clear g0 h0 g1 h1 g2 h2
  have hbx := below_two w (.cells #[.int .i64 a, .int .i64 off] 23) (.cells #[.int .i64 x, .int .i64 y] 23)
  by_cases h300 : 300 < n
  · clear hz hby
    go_enter Try.func3, Try.ntmps3
    go_wp2_with fail
    refine (live14_any _).mono ?_
    rintro e w15 ⟨rfl, hb15⟩
    go_wp2
    go_ret
    exact ⟨rfl, hbx.trans (hb15.mono hbx.size)⟩
  · have hX0 := (Blk.new w #[.int .i64 a, .int .i64 off] 23).alloc (.cells #[.int .i64 x, .int .i64 y] 23)
    have hY0 := Blk.new (w.alloc (.cells #[.int .i64 a, .int .i64 off] 23)) #[.int .i64 x, .int .i64 y] 23
    rw [World.size_alloc] at hY0
    have HZ := Lib.hid hz
    have HBY := Lib.hid hby
    have hn : n ≤ 300 := by omega
    have HB := Lib.hid hbx
    have L : ∀ w', Blk w' w.heap.size #[.int .i64 a, .int .i64 off] 23 → w'.cell? ⟨w.heap.size, 0, none⟩ = some (.int .i64 a) ∧ w'.cell? ⟨w.heap.size, 1, none⟩ = some (.int .i64 off) := fun w' h => h.c2
    obtain ⟨c0, c1⟩ := hY0.c2
    clear hY0 h300 hbx hz hby
    by_cases h1 : y < x
    · have hBe := fun W : World => better_any off x a y W
      rw [decide_eq_true (p := y < x ∨ x = y ∧ off < a) (.inl h1)] at hBe
      have HBE := Lib.hid hBe
      clear hBe
      go_enter Try.func3, Try.ntmps3
      go_wp2
      generalize (w.alloc (.cells #[.int .i64 a, .int .i64 off] 23)).alloc (.cells #[.int .i64 x, .int .i64 y] 23) = W at *
      refine Seq.wp_region_seq (fun w' => Blk w' w.heap.size #[.int .i64 a, .int .i64 off] 23) (by kernel_rfl) (by kernel_rfl) hX0 ?_
      repeat (first | (refine Seq.Seq.skip (by rfl) ?_; (try simp only [Act.put, List.setIfInBounds_toArray, List.set_cons_zero, List.set_cons_succ])) | (refine Seq.Seq.det ?_ (by rfl) (fun w hS => ?_) ?_; rotate_left; ((try dsimp only at hS); go_simp; (try rw [if_pos (by omega)]); with_reducible rfl); (try simp only [Act.put, List.setIfInBounds_toArray, List.set_cons_zero, List.set_cons_succ])))
      refine Seq.Seq.nil ?_
      clear L
      have HBQ := Lib.hid (fun q : Nat => below_drewN HB.out q)
      go_wp2_with fail
      refine (match_any (m := m) a off (HZ.out.below (HBQ.out 1)) HBY.out hnm (by omega) ha).mono ?_
      rintro e w2 ⟨rfl, q2, rfl⟩
      go_wp2_with fail
      refine (rmatch_any (m := m) a off (HZ.out.below (HBQ.out _)) HBY.out hnm (by omega)).mono ?_
      rintro e w3 ⟨rfl, q3, rfl⟩
      go_wp2_with fail
      refine (HBE.out _).mono ?_
      rintro e w4 ⟨rfl, rfl⟩
      go_wp2_with fail
      refine (live14_any _).mono ?_
      rintro e w15 ⟨rfl, hb15⟩
      have HB5 := Lib.hid ((HBQ.out _).trans (hb15.mono (HBQ.out _).size))
      clear hb15
      go_wp2
      go_ret
      exact ⟨rfl, HB5.out⟩
    · by_cases h2 : x = y
      · subst h2
        by_cases h3 : off < a
        · have hBe := fun W : World => better_any off x a x W
          rw [decide_eq_true (p := x < x ∨ x = x ∧ off < a) (.inr ⟨rfl, h3⟩)] at hBe
          have HBE := Lib.hid hBe
          clear hBe
          go_enter Try.func3, Try.ntmps3
          go_wp2
          generalize (w.alloc (.cells #[.int .i64 a, .int .i64 off] 23)).alloc (.cells #[.int .i64 x, .int .i64 x] 23) = W at *
          refine Seq.wp_region_seq (fun w' => Blk w' w.heap.size #[.int .i64 a, .int .i64 off] 23) (by kernel_rfl) (by kernel_rfl) hX0 ?_
          repeat (first | (refine Seq.Seq.skip (by rfl) ?_; (try simp only [Act.put, List.setIfInBounds_toArray, List.set_cons_zero, List.set_cons_succ])) | (refine Seq.Seq.det ?_ (by rfl) (fun w hS => ?_) ?_; rotate_left; ((try dsimp only at hS); go_simp; (try rw [if_pos (by omega)]); with_reducible rfl); (try simp only [Act.put, List.setIfInBounds_toArray, List.set_cons_zero, List.set_cons_succ])))
          refine Seq.Seq.nil ?_
          clear L
          have HBQ := Lib.hid (fun q : Nat => below_drewN HB.out q)
          go_wp2_with fail
          refine (match_any (m := m) a off (HZ.out.below (HBQ.out 1)) HBY.out hnm (by omega) ha).mono ?_
          rintro e w2 ⟨rfl, q2, rfl⟩
          go_wp2_with fail
          refine (rmatch_any (m := m) a off (HZ.out.below (HBQ.out _)) HBY.out hnm (by omega)).mono ?_
          rintro e w3 ⟨rfl, q3, rfl⟩
          go_wp2_with fail
          refine (HBE.out _).mono ?_
          rintro e w4 ⟨rfl, rfl⟩
          go_wp2_with fail
          refine (live14_any _).mono ?_
          rintro e w15 ⟨rfl, hb15⟩
          have HB5 := Lib.hid ((HBQ.out _).trans (hb15.mono (HBQ.out _).size))
          clear hb15
          go_wp2
          go_ret
          exact ⟨rfl, HB5.out⟩
        · have hBe := fun W : World => better_any off x a x W
          rw [decide_eq_false (p := x < x ∨ x = x ∧ off < a) (by omega)] at hBe
          have HBE := Lib.hid hBe
          clear hBe
          have hd3 : decide (off < a) = false := decide_eq_false h3
          go_enter Try.func3, Try.ntmps3
          go_wp2
          generalize (w.alloc (.cells #[.int .i64 a, .int .i64 off] 23)).alloc (.cells #[.int .i64 x, .int .i64 x] 23) = W at *
          refine Seq.wp_region_seq (fun w' => Blk w' w.heap.size #[.int .i64 a, .int .i64 off] 23) (by kernel_rfl) (by kernel_rfl) hX0 ?_
          repeat (first | (refine Seq.Seq.skip (by rfl) ?_; (try simp only [Act.put, List.setIfInBounds_toArray, List.set_cons_zero, List.set_cons_succ])) | (refine Seq.Seq.det ?_ (by rfl) (fun w hS => ?_) ?_; rotate_left; ((try dsimp only at hS); go_simp; (try rw [if_pos (by omega)]); with_reducible rfl); (try simp only [Act.put, List.setIfInBounds_toArray, List.set_cons_zero, List.set_cons_succ])))
          refine Seq.Seq.nil ?_
          clear L
          have HBQ := Lib.hid (fun q : Nat => below_drewN HB.out q)
          go_wp2_with fail
          refine (match_any (m := m) a off (HZ.out.below (HBQ.out 1)) HBY.out hnm (by omega) ha).mono ?_
          rintro e w2 ⟨rfl, q2, rfl⟩
          go_wp2_with fail
          refine (rmatch_any (m := m) a off (HZ.out.below (HBQ.out _)) HBY.out hnm (by omega)).mono ?_
          rintro e w3 ⟨rfl, q3, rfl⟩
          go_wp2_with fail
          refine (HBE.out _).mono ?_
          rintro e w4 ⟨rfl, rfl⟩
          go_wp2_with fail
          refine (live14_any _).mono ?_
          rintro e w15 ⟨rfl, hb15⟩
          have HB5 := Lib.hid ((HBQ.out _).trans (hb15.mono (HBQ.out _).size))
          clear hb15
          go_wp2
          go_ret
          exact ⟨rfl, HB5.out⟩
      · have hBe := fun W : World => better_any off x a y W
        rw [decide_eq_false (p := y < x ∨ x = y ∧ off < a) (by omega)] at hBe
        have HBE := Lib.hid hBe
        clear hBe
        have hb : (x == y) = false := by simpa using h2
        have hd1 : decide (y < x) = false := decide_eq_false h1
        clear h2
        go_enter Try.func3, Try.ntmps3
        go_wp2
        generalize (w.alloc (.cells #[.int .i64 a, .int .i64 off] 23)).alloc (.cells #[.int .i64 x, .int .i64 y] 23) = W at *
        refine Seq.wp_region_seq (fun w' => Blk w' w.heap.size #[.int .i64 a, .int .i64 off] 23) (by kernel_rfl) (by kernel_rfl) hX0 ?_
        repeat (first | (refine Seq.Seq.skip (by rfl) ?_; (try simp only [Act.put, List.setIfInBounds_toArray, List.set_cons_zero, List.set_cons_succ])) | (refine Seq.Seq.det ?_ (by rfl) (fun w hS => ?_) ?_; rotate_left; ((try dsimp only at hS); go_simp; (try rw [if_pos (by omega)]); with_reducible rfl); (try simp only [Act.put, List.setIfInBounds_toArray, List.set_cons_zero, List.set_cons_succ])))
        refine Seq.Seq.nil ?_
        clear L
        have HBQ := Lib.hid (fun q : Nat => below_drewN HB.out q)
        go_wp2_with fail
        refine (match_any (m := m) a off (HZ.out.below (HBQ.out 1)) HBY.out hnm (by omega) ha).mono ?_
        rintro e w2 ⟨rfl, q2, rfl⟩
        go_wp2_with fail
        refine (rmatch_any (m := m) a off (HZ.out.below (HBQ.out _)) HBY.out hnm (by omega)).mono ?_
        rintro e w3 ⟨rfl, q3, rfl⟩
        go_wp2_with fail
        refine (HBE.out _).mono ?_
        rintro e w4 ⟨rfl, rfl⟩
        go_wp2_with fail
        refine (live14_any _).mono ?_
        rintro e w15 ⟨rfl, hb15⟩
        have HB5 := Lib.hid ((HBQ.out _).trans (hb15.mono (HBQ.out _).size))
        clear hb15
        go_wp2
        go_ret
        exact ⟨rfl, HB5.out⟩

set_option maxRecDepth 100000 in
theorem lifted (os : Os) (started : os.Started) (H : Type) (enc : TypeId × Value → H) :
    ReturnsInHanded {} Try.checked os 3 .any (Rows.seekMatchesSpec.pre6 enc Try.prog Try.f3 Rows.seekMatchesRow.domain false) (Rows.seekMatchesSpec.post enc Try.prog Try.f3 false true false false) := by
  refine returnsInHanded_of_change (C := Try.checked) own started (by kernel_rfl) Try.func3
    (ChangeSpec.witness6 (enc := enc) (C := Try.checked) false ⟨#[], #[.slice none 0 0, .agg #[.int .i64 0, .int .i64 0], .agg #[.int .i64 0, .int .i64 0]], []⟩ 8 (by kernel_rfl) (by kernel_rfl) (by kernel_rfl) (by kernel_rfl)) ?_
  intro W base args ds gs before hval0 hW hcnd _
  have hval : ∀ (j : Nat) t v, Try.f3.params[j]? = some t → args[j]? = some v → Value.okWide Try.prog W .any base t v := hval0
  have hW' := hW
  obtain ⟨p, q, hA0, hV, rfl, hfz, hnd⟩ := hW
  have hA : DataW.TrodAll enc Try.prog W 0 (fun _ => true) true Try.f3.params.toList args.toList ds p := hA0
  rw [Try.params3] at hA hval
  obtain ⟨v0, vs0, d0, ds0, p0, q0, hargs, rfl, rfl, h0, r0⟩ := trodAll_cons hA
  obtain ⟨v1, vs1, d1, ds1, p1, q1, rfl, rfl, rfl, h1, r1⟩ := trodAll_cons r0
  obtain ⟨v2, vs2, d2, ds2, p2, q2, rfl, rfl, rfl, h2, r2⟩ := trodAll_cons r1
  obtain ⟨rfl, rfl, rfl⟩ := trodAll_nil r2
  obtain rfl : args = #[v0, v1, v2] := by cases args; simp_all
  obtain ⟨rfl, rfl⟩ := trodVars_none hV
  have lt0 : ∀ x ∈ p0, x.block < W.heap.size := by obtain ⟨m, hm⟩ := h0; exact DataW.trod_lt m _ _ _ hm
  have lt1 : ∀ x ∈ p1, x.block < W.heap.size := by obtain ⟨m, hm⟩ := h1; exact DataW.trod_lt m _ _ _ hm
  have lt2 : ∀ x ∈ p2, x.block < W.heap.size := by obtain ⟨m, hm⟩ := h2; exact DataW.trod_lt m _ _ _ hm
  clear hA0 hval0
  refine (walk enc W base v0 d0 p0 (hval 0 22 v0 rfl rfl) h0 v1 d1 p1 (hval 1 23 v1 rfl rfl) h1 v2 d2 p2 (hval 2 23 v2 rfl rfl) h2).mono fun e W' ⟨he, bel⟩ => ?_
  subst he
  exact ⟨_, rfl, _, _, _, [], _, [], hW', trodAll_mk1 (shut_bool Try.underlying4 _), (trodAll_cons_mk (Below.trod laidOut (by kernel_rfl) (of_decide_eq_true (by kernel_rfl)) h0 bel lt0) (trodAll_cons_mk (Below.trod laidOut (by kernel_rfl) (of_decide_eq_true (by kernel_rfl)) h1 bel lt1) (trodAll_cons_mk (Below.trod laidOut (by kernel_rfl) (of_decide_eq_true (by kernel_rfl)) h2 bel lt2) trodAll_mk0))), rfl, bel.frame _, fun h => by cases h⟩

theorem over : Rows.seekMatchesRow.holds Try.pinned (OpenSpec.ofChange Rows.seekMatchesSpec) :=
  OpenClaim.holds_of_wide 3 Try.f3 rfl rfl rfl rfl rfl rfl rfl ⟨rfl, rfl, rfl, rfl, rfl⟩ rfl rfl rfl rfl rfl (by kernel_rfl) Try.func3 (by kernel_rfl)
    (of_decide_eq_true (by kernel_rfl)) (by unfold Func.isWrapper; first | (rw [if_pos (by decide +kernel)]; kernel_rfl) | (rw [if_neg (by decide +kernel)]; exact ⟨rfl, rfl⟩))
    (fun os started H enc _ => lifted os started H enc)

/-- THE STATEMENT. -/
theorem proved : Rows.SeekMatchesSaid := over
#print axioms proved
end Go.Proofs.Ytgiemddiiognlaa.seekMatches
