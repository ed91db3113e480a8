/- ChainKeys: called with any bytes and any two ints, the law returns true; no condition. -/
import Derived.Test.YtibooihekjdpfaaRows
import Derived.Test.YtibooihekjdpfaaChnG
import Derived.ProofKit
import Derived.OpenShut
import Derived.ShutString
import Derived.ChangeOld
namespace Go.Proofs.Ytibooihekjdpfaa.chainKeys
open Go.ChangeShapes Go.WideShapes Go.ChangeAt Go.RowKit
open Go.ChangeMaps (open_string shut_string)
set_option linter.unusedVariables false

theorem own : ownKnob Try.prog.godebug = none := by kernel_rfl
theorem laidOut : laidOutB Try.prog = true := by kernel_rfl
open Cur Mem


set_option maxRecDepth 100000 in
set_option maxHeartbeats 4000000 in
theorem walk {H : Type} (enc : TypeId × Value → H) (w : World) (base : Nat) (v0 : Value) (d0 : DataW H) (p0 : List MemPlace) (g0 : Value.okWide Try.prog w .any base 22 v0) (h0 : DataW.Trod enc Try.prog w 0 (fun _ => true) true 22 v0 d0 p0) (v1 : Value) (d1 : DataW H) (p1 : List MemPlace) (g1 : Value.okWide Try.prog w .any base 3 v1) (h1 : DataW.Trod enc Try.prog w 0 (fun _ => true) true 3 v1 d1 p1) (v2 : Value) (d2 : DataW H) (p2 : List MemPlace) (g2 : Value.okWide Try.prog w .any base 3 v2) (h2 : DataW.Trod enc Try.prog w 0 (fun _ => true) true 3 v2 d2 p2) :
    Calls Try.prog 3 #[v0, v1, v2] w fun e w' => e = .returned (.bool true) ∧ Below w.heap.size w w' := by
  obtain ⟨A, n, m, z, rfl, hnm, hz, hby, _⟩ := open_bytes g0 h0
  obtain ⟨i, rfl, hi⟩ := open_i64 g1 h1
  obtain ⟨k, rfl, hkk⟩ := open_i64 g2 h2
  clear g0 h0 g1 h1 g2 h2
  have hbd := Below.refl w.heap.size w
  by_cases h300 : 300 < n
  · go_enter Try.func3, Try.ntmps3
    clear hz hby
    go_wp2_with fail
    refine (live13_any _).mono ?_
    rintro e w15 ⟨rfl, hb15⟩
    go_wp2
    go_ret
    exact ⟨rfl, hb15⟩
  · have hn : n ≤ 300 := by omega
    have HK := Lib.hid (fun (w' : World) (hb : ∃ j, w' = w.drewN j) (i : Int) => (show Calls Try.prog 8 #[.slice A n m, .int .i64 i] w' (fun e w'' => e = .returned (.tuple #[.int .u32 (if hk z i = true then ky z i.toNat else 0), .bool (hk z i)]) ∧ ∃ k, w'' = w'.drewN k) from ckey_any (w := w') (A := A) (n := n) (m := m) (z := z) i (by obtain ⟨j, rfl⟩ := hb; exact hz.drewN j) hby hnm (by omega)))
    have HR := Lib.hid (fun (w' : World) (hb : ∃ j, w' = w.drewN j) => rkey_any (w := w') (A := A) (n := n) (m := m) (z := z) i k (by obtain ⟨j, rfl⟩ := hb; exact hz.drewN j) hby hnm (by omega))
    have hzl := hz.1
    have HZ := Lib.hid hz
    have HBY := Lib.hid hby
    have e1 : IntKind.i64.wrap ((n : Int) - 4) = n - 4 := IntWalk.i64_in _ (by omega)
    clear hz hby h300
    cases h1 : hk z i
    · have hc := hk_neg h1
      have H1 := Lib.hid h1
      obtain ⟨x2, b2, hxb⟩ : ∃ x2 b2, (if hk z k = true then ky z k.toNat else 0) = x2 ∧ hk z k = b2 := ⟨_, _, rfl, rfl⟩
      have HXB := Lib.hid hxb
      clear h1 hxb
      replace HK : Hid (∀ w', (∃ j, w' = w.drewN j) → Calls Try.prog 8 #[.slice A n m, .int .i64 i] w' (fun e w'' => e = .returned (.tuple #[.int .u32 0, .bool false]) ∧ ∃ k, w'' = w'.drewN k)) ∧ Hid (∀ w', (∃ j, w' = w.drewN j) → Calls Try.prog 8 #[.slice A n m, .int .i64 k] w' (fun e w'' => e = .returned (.tuple #[.int .u32 x2, .bool b2]) ∧ ∃ k, w'' = w'.drewN k)) :=
        ⟨Lib.hid (fun w' hb => by have := HK.out w' hb i; rw [H1.out] at this; exact this), Lib.hid (fun w' hb => by have := HK.out w' hb k; rw [HXB.out.1, HXB.out.2] at this; exact this)⟩
      obtain ⟨HK1, HK2⟩ := HK
      by_cases h0 : i < 0
      · clear hc
        go_enter Try.func3, Try.ntmps3
        go_wp2_with fail
        refine (HK1.out _ ⟨0, rfl⟩).mono ?_
        rintro e w1 ⟨rfl, q1, rfl⟩
        go_wp2_with fail
        refine (HK2.out _ ⟨_, rfl⟩).mono ?_
        rintro e w1 ⟨rfl, q2, rfl⟩
        go_wp2_with fail
        refine Seq.wp_region_seq (fun w' => ∃ j, w' = w.drewN j) (by kernel_rfl) (by kernel_rfl) ⟨q1 + q2 + 1, rfl⟩ ?_
        repeat (first | (refine Seq.Seq.skip (by rfl) ?_; (try simp only [Act.put, List.setIfInBounds_toArray, List.set_cons_zero, List.set_cons_succ])) | (refine Seq.Seq.det ?_ (by rfl) (fun w hS => ?_) ?_; rotate_left; ((try dsimp only at hS); go_simp; (try rw [if_pos (by omega)]); with_reducible rfl); (try simp only [Act.put, List.setIfInBounds_toArray, List.set_cons_zero, List.set_cons_succ])))
        refine Seq.Seq.nil ?_
        go_wp2_with fail
        refine (live13_any _).mono ?_
        rintro e w15 ⟨rfl, hb15⟩
        have HB15 : Hid (Below w.heap.size w w15) := Lib.hid ((below_drewN (Below.refl w.heap.size w) _).trans (hb15.mono (below_drewN (Below.refl w.heap.size w) _).size))
        clear hb15
        go_wp2
        go_ret
        exact ⟨rfl, HB15.out⟩
      · have h2 : (n : Int) - 4 < i := by omega
        clear hc
        go_enter Try.func3, Try.ntmps3
        go_wp2_with fail
        refine (HK1.out _ ⟨0, rfl⟩).mono ?_
        rintro e w1 ⟨rfl, q1, rfl⟩
        go_wp2_with fail
        refine (HK2.out _ ⟨_, rfl⟩).mono ?_
        rintro e w1 ⟨rfl, q2, rfl⟩
        go_wp2_with fail
        refine Seq.wp_region_seq (fun w' => ∃ j, w' = w.drewN j) (by kernel_rfl) (by kernel_rfl) ⟨q1 + q2 + 1, rfl⟩ ?_
        repeat (first | (refine Seq.Seq.skip (by rfl) ?_; (try simp only [Act.put, List.setIfInBounds_toArray, List.set_cons_zero, List.set_cons_succ])) | (refine Seq.Seq.det ?_ (by rfl) (fun w hS => ?_) ?_; rotate_left; ((try dsimp only at hS); go_simp; (try rw [if_pos (by omega)]); with_reducible rfl); (try simp only [Act.put, List.setIfInBounds_toArray, List.set_cons_zero, List.set_cons_succ])))
        refine Seq.Seq.nil ?_
        go_wp2_with fail
        refine (live13_any _).mono ?_
        rintro e w15 ⟨rfl, hb15⟩
        have HB15 : Hid (Below w.heap.size w w15) := Lib.hid ((below_drewN (Below.refl w.heap.size w) _).trans (hb15.mono (below_drewN (Below.refl w.heap.size w) _).size))
        clear hb15
        go_wp2
        go_ret
        exact ⟨rfl, HB15.out⟩
    · obtain ⟨a, rfl, haz⟩ := hk_pos h1
      have H1 := Lib.hid h1
      have HK1 : Hid (∀ w', (∃ j, w' = w.drewN j) → Calls Try.prog 8 #[.slice A n m, .int .i64 a] w' (fun e w'' => e = .returned (.tuple #[.int .u32 (ky z a), .bool true]) ∧ ∃ k, w'' = w'.drewN k)) := Lib.hid (fun w' hb => by have := HK.out w' hb a; rw [H1.out, if_pos rfl, Int.toNat_natCast] at this; exact this)
      have han : a + 4 ≤ n := by omega
      obtain ⟨g, o, rfl, hc⟩ := HZ.out.2 (by omega)
      have cell : ∀ j, j < n → w.cell? ⟨g, o + j, none⟩ = some (.int .u8 (z.getD j 0)) := fun j hj => hc j _ (by rw [List.getD_eq_getElem?_getD, List.getElem?_eq_getElem (by omega)]; rfl)
      have c0 := cell a (by omega)
      have c1 := cell (a + 1) (by omega)
      have c2 := cell (a + 2) (by omega)
      have c3 := cell (a + 3) (by omega)
      have b0 := by_at HBY.out a
      have b1 := by_at HBY.out (a + 1)
      have b2 := by_at HBY.out (a + 2)
      have b3 := by_at HBY.out (a + 3)
      have hky : ky z a = z.getD a 0 + 256 * z.getD (a + 1) 0 + 65536 * z.getD (a + 2) 0 + 16777216 * z.getD (a + 3) 0 := rfl
      have h3 : (a : Int) ≤ n - 4 := by omega
      obtain ⟨x, hx⟩ : ∃ x, ky z a = x := ⟨_, rfl⟩
      have HX := Lib.hid hx
      rw [hx] at hky HK1
      generalize z.getD a 0 = x0 at *
      generalize z.getD (a + 1) 0 = x1 at *
      generalize z.getD (a + 2) 0 = x2 at *
      generalize z.getD (a + 3) 0 = x3 at *
      have HL : Hid (∀ w', (∃ q, w' = w.drewN q) → w'.cell? ⟨g, o + a, none⟩ = some (.int .u8 x0) ∧ w'.cell? ⟨g, o + (a + 1), none⟩ = some (.int .u8 x1) ∧ w'.cell? ⟨g, o + (a + 2), none⟩ = some (.int .u8 x2) ∧ w'.cell? ⟨g, o + (a + 3), none⟩ = some (.int .u8 x3)) := Lib.hid (fun w' h => by
        obtain ⟨q, rfl⟩ := h
        exact ⟨c0, c1, c2, c3⟩)
      have wr : ∀ x : Int, 0 ≤ x → x < 4294967296 → IntKind.u32.wrap x = x := fun x h1 h2 => by rw [IntKind.wrap_u32']; omega
      have G := Lib.hid (⟨by omega, by omega, by omega, by omega, by omega, by omega⟩ : (a : Int) + 1 < n ∧ (a : Int) + 2 < n ∧ (a : Int) + 3 < n ∧ 0 ≤ (a : Int) + 1 ∧ 0 ≤ (a : Int) + 2 ∧ 0 ≤ (a : Int) + 3)
      have P := Lib.hid (⟨by omega, by omega, by omega, by omega, IntWalk.i64_in _ (by omega), IntWalk.i64_in _ (by omega), IntWalk.i64_in _ (by omega)⟩ : a < n ∧ ((a : Int) + 1).toNat = a + 1 ∧ ((a : Int) + 2).toNat = a + 2 ∧ ((a : Int) + 3).toNat = a + 3 ∧ IntKind.i64.wrap ((a : Int) + 1) = a + 1 ∧ IntKind.i64.wrap ((a : Int) + 2) = a + 2 ∧ IntKind.i64.wrap ((a : Int) + 3) = a + 3)
      have M := Lib.hid (⟨wr _ (by omega) (by omega), wr _ (by omega) (by omega), wr _ (by omega) (by omega), wr _ (by omega) (by omega), wr _ (by omega) (by omega), wr _ (by omega) (by omega), wr _ (by omega) (by omega), wr _ (by omega) (by omega), wr _ (by omega) (by omega), wr _ (by omega) (by omega), by simp; omega⟩ :
        IntKind.u32.wrap x0 = x0 ∧ IntKind.u32.wrap x1 = x1 ∧ IntKind.u32.wrap x2 = x2 ∧ IntKind.u32.wrap x3 = x3 ∧ IntKind.u32.wrap (256 * x1) = 256 * x1 ∧ IntKind.u32.wrap (65536 * x2) = 65536 * x2 ∧ IntKind.u32.wrap (16777216 * x3) = 16777216 * x3 ∧ IntKind.u32.wrap (x0 + 256 * x1) = x0 + 256 * x1 ∧ IntKind.u32.wrap (x0 + 256 * x1 + 65536 * x2) = x0 + 256 * x1 + 65536 * x2 ∧ IntKind.u32.wrap (x0 + 256 * x1 + 65536 * x2 + 16777216 * x3) = x0 + 256 * x1 + 65536 * x2 + 16777216 * x3 ∧ (x != x0 + 256 * x1 + 65536 * x2 + 16777216 * x3) = false)
      clear cell hc c0 c1 c2 c3 hky hx wr h1
      cases h2 : hk z k
      · have H2 := Lib.hid h2
        have HK2 : Hid (∀ w', (∃ j, w' = w.drewN j) → Calls Try.prog 8 #[.slice (some ⟨g, o, none⟩) n m, .int .i64 k] w' (fun e w'' => e = .returned (.tuple #[.int .u32 0, .bool false]) ∧ ∃ k, w'' = w'.drewN k)) := Lib.hid (fun w' hb => by have := HK.out w' hb k; rw [H2.out] at this; exact this)
        clear h2 HK HR
        go_enter Try.func3, Try.ntmps3
        go_wp2_with fail
        refine (HK1.out _ ⟨0, rfl⟩).mono ?_
        rintro e w1 ⟨rfl, q1, rfl⟩
        go_wp2_with fail
        refine (HK2.out _ ⟨_, rfl⟩).mono ?_
        rintro e w1 ⟨rfl, q2, rfl⟩
        go_wp2_with fail
        have L := HL.out
        obtain ⟨g1, g2, g3, g4, g5, g6⟩ := G.out
        obtain ⟨p1, p2, p3, p4, p5, p6, p7⟩ := P.out
        obtain ⟨m1, m2, m3, m4, m5, m6, m7, m8, m10, m11, m9⟩ := M.out
        refine Seq.wp_region_seq (fun w' => ∃ j, w' = w.drewN j) (by kernel_rfl) (by kernel_rfl) ⟨q1 + q2 + 1, rfl⟩ ?_
        repeat (first | (refine Seq.Seq.skip (by rfl) ?_; (try simp only [Act.put, List.setIfInBounds_toArray, List.set_cons_zero, List.set_cons_succ])) | (refine Seq.Seq.det ?_ (by rfl) (fun w hS => ?_) ?_; rotate_left; ((try dsimp only at hS); go_simp; (try rw [if_pos (by omega)]); with_reducible rfl); (try simp only [Act.put, List.setIfInBounds_toArray, List.set_cons_zero, List.set_cons_succ])))
        refine Seq.Seq.nil ?_
        clear L g1 g2 g3 g4 g5 g6 p1 p2 p3 p4 p5 p6 p7 m1 m2 m3 m4 m5 m6 m7 m8 m9 m10 m11
        go_wp2_with fail
        refine (live13_any _).mono ?_
        rintro e w15 ⟨rfl, hb15⟩
        have HB15 : Hid (Below w.heap.size w w15) := Lib.hid ((below_drewN (Below.refl w.heap.size w) _).trans (hb15.mono (below_drewN (Below.refl w.heap.size w) _).size))
        clear hb15
        go_wp2
        go_ret
        exact ⟨rfl, HB15.out⟩
      · obtain ⟨b, rfl, hbz⟩ := hk_pos h2
        have H2 := Lib.hid h2
        obtain ⟨y, hy⟩ : ∃ y, ky z b = y := ⟨_, rfl⟩
        have HK2 : Hid (∀ w', (∃ j, w' = w.drewN j) → Calls Try.prog 8 #[.slice (some ⟨g, o, none⟩) n m, .int .i64 b] w' (fun e w'' => e = .returned (.tuple #[.int .u32 y, .bool true]) ∧ ∃ k, w'' = w'.drewN k)) := Lib.hid (fun w' hb => by have := HK.out w' hb b; rw [H2.out, if_pos rfl, Int.toNat_natCast, hy] at this; exact this)
        have hsb : sk z a b = (x == y) := by
          rw [sk_nat haz hbz, HX.out, hy, Bool.eq_iff_iff]
          simp
        rw [hsb] at HR
        clear h2 HK hy hsb hbz
        go_enter Try.func3, Try.ntmps3
        go_wp2_with fail
        refine (HK1.out _ ⟨0, rfl⟩).mono ?_
        rintro e w1 ⟨rfl, q1, rfl⟩
        go_wp2_with fail
        refine (HK2.out _ ⟨_, rfl⟩).mono ?_
        rintro e w1 ⟨rfl, q2, rfl⟩
        go_wp2_with fail
        refine (HR.out _ ⟨_, rfl⟩).mono ?_
        rintro e w1 ⟨rfl, q3, rfl⟩
        go_wp2_with fail
        have L := HL.out
        obtain ⟨g1, g2, g3, g4, g5, g6⟩ := G.out
        obtain ⟨p1, p2, p3, p4, p5, p6, p7⟩ := P.out
        obtain ⟨m1, m2, m3, m4, m5, m6, m7, m8, m10, m11, m9⟩ := M.out
        refine Seq.wp_region_seq (fun w' => ∃ j, w' = w.drewN j) (by kernel_rfl) (by kernel_rfl) ⟨q1 + q2 + q3 + 1, rfl⟩ ?_
        repeat (first | (refine Seq.Seq.skip (by rfl) ?_; (try simp only [Act.put, List.setIfInBounds_toArray, List.set_cons_zero, List.set_cons_succ])) | (refine Seq.Seq.det ?_ (by rfl) (fun w hS => ?_) ?_; rotate_left; ((try dsimp only at hS); go_simp; (try rw [if_pos (by omega)]); with_reducible rfl); (try simp only [Act.put, List.setIfInBounds_toArray, List.set_cons_zero, List.set_cons_succ])))
        refine Seq.Seq.nil ?_
        clear L g1 g2 g3 g4 g5 g6 p1 p2 p3 p4 p5 p6 p7 m1 m2 m3 m4 m5 m6 m7 m8 m9 m10 m11
        go_wp2_with fail
        refine (live13_any _).mono ?_
        rintro e w15 ⟨rfl, hb15⟩
        have HB15 : Hid (Below w.heap.size w w15) := Lib.hid ((below_drewN (Below.refl w.heap.size w) _).trans (hb15.mono (below_drewN (Below.refl w.heap.size w) _).size))
        clear hb15
        go_wp2
        go_ret
        exact ⟨rfl, HB15.out⟩

set_option maxRecDepth 100000 in
theorem lifted (os : Os) (started : os.Started) (H : Type) (enc : TypeId × Value → H) :
    ReturnsInHanded {} Try.checked os 3 .any (Rows.chainKeysSpec.pre6 enc Try.prog Try.f3 Rows.chainKeysRow.domain false) (Rows.chainKeysSpec.post enc Try.prog Try.f3 false true false false) := by
  refine returnsInHanded_of_change (C := Try.checked) own started (by kernel_rfl) Try.func3
    (ChangeSpec.witness6 (enc := enc) (C := Try.checked) false ⟨#[], #[.slice none 0 0, .int .i64 0, .int .i64 0], []⟩ 8 (by kernel_rfl) (by kernel_rfl) (by kernel_rfl) (by kernel_rfl)) ?_
  intro W base args ds gs before hval0 hW hcnd _
  have hval : ∀ (j : Nat) t v, Try.f3.params[j]? = some t → args[j]? = some v → Value.okWide Try.prog W .any base t v := hval0
  have hW' := hW
  obtain ⟨p, q, hA0, hV, rfl, hfz, hnd⟩ := hW
  have hA : DataW.TrodAll enc Try.prog W 0 (fun _ => true) true Try.f3.params.toList args.toList ds p := hA0
  rw [Try.params3] at hA hval
  obtain ⟨v0, vs0, d0, ds0, p0, q0, hargs, rfl, rfl, h0, r0⟩ := trodAll_cons hA
  obtain ⟨v1, vs1, d1, ds1, p1, q1, rfl, rfl, rfl, h1, r1⟩ := trodAll_cons r0
  obtain ⟨v2, vs2, d2, ds2, p2, q2, rfl, rfl, rfl, h2, r2⟩ := trodAll_cons r1
  obtain ⟨rfl, rfl, rfl⟩ := trodAll_nil r2
  obtain rfl : args = #[v0, v1, v2] := by cases args; simp_all
  obtain ⟨rfl, rfl⟩ := trodVars_none hV
  have lt0 : ∀ x ∈ p0, x.block < W.heap.size := by obtain ⟨m, hm⟩ := h0; exact DataW.trod_lt m _ _ _ hm
  have lt1 : ∀ x ∈ p1, x.block < W.heap.size := by obtain ⟨m, hm⟩ := h1; exact DataW.trod_lt m _ _ _ hm
  have lt2 : ∀ x ∈ p2, x.block < W.heap.size := by obtain ⟨m, hm⟩ := h2; exact DataW.trod_lt m _ _ _ hm
  clear hA0 hval0
  refine (walk enc W base v0 d0 p0 (hval 0 22 v0 rfl rfl) h0 v1 d1 p1 (hval 1 3 v1 rfl rfl) h1 v2 d2 p2 (hval 2 3 v2 rfl rfl) h2).mono fun e W' ⟨he, bel⟩ => ?_
  subst he
  exact ⟨_, rfl, _, _, _, [], _, [], hW', trodAll_mk1 (shut_bool Try.underlying4 _), (trodAll_cons_mk (Below.trod laidOut (by kernel_rfl) (of_decide_eq_true (by kernel_rfl)) h0 bel lt0) (trodAll_cons_mk (Below.trod laidOut (by kernel_rfl) (of_decide_eq_true (by kernel_rfl)) h1 bel lt1) (trodAll_cons_mk (Below.trod laidOut (by kernel_rfl) (of_decide_eq_true (by kernel_rfl)) h2 bel lt2) trodAll_mk0))), rfl, bel.frame _, fun h => by cases h⟩

theorem over : Rows.chainKeysRow.holds Try.pinned (OpenSpec.ofChange Rows.chainKeysSpec) :=
  OpenClaim.holds_of_wide 3 Try.f3 rfl rfl rfl rfl rfl rfl rfl ⟨rfl, rfl, rfl, rfl, rfl⟩ rfl rfl rfl rfl rfl (by kernel_rfl) Try.func3 (by kernel_rfl)
    (of_decide_eq_true (by kernel_rfl)) (by unfold Func.isWrapper; first | (rw [if_pos (by decide +kernel)]; kernel_rfl) | (rw [if_neg (by decide +kernel)]; exact ⟨rfl, rfl⟩))
    (fun os started H enc _ => lifted os started H enc)

/-- THE STATEMENT. -/
theorem proved : Rows.ChainKeysSaid := over
#print axioms proved
end Go.Proofs.Ytibooihekjdpfaa.chainKeys
