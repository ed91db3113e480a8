/- CursorWhole: called with any bytes and any sizes, the law returns true, and its arguments read afterwards as before; no condition. -/
import Derived.Test.YtnfapejkcfoknaaRows
import Derived.Test.YtnfapejkcfoknaaCurF
import Derived.Deep.RegionHeld3
import Derived.WalkKit
import Derived.ProofKit
import Derived.OpenShut
import Derived.ShutString
import Derived.ChangeOld
import Derived.Below
namespace Go.Proofs.Ytnfapejkcfoknaa.cursorWhole
open Go.ChangeShapes Go.WideShapes Go.ChangeAt Go.RowKit
open Go.ChangeMaps (open_string shut_string)
open Cur
set_option linter.unusedVariables false

theorem own : ownKnob Try.prog.godebug = none := by kernel_rfl
theorem laidOut : laidOutB Try.prog = true := by kernel_rfl

/-- WHAT THE WALK IS TOLD OF A SLICE OF INTEGERS THAT CAME IN: it is nil; or it leads to a row of 'cap' cells, the numbers 'zs' (the first 'len' are its elements, the rest its spare room), each fitting its kind. -/
def IsRow (k : IntKind) (w : World) (a : Option Addr) (len cap : Nat) (zs : List Int) : Prop :=
  (a = none ∧ len = 0 ∧ cap = 0 ∧ zs = []) ∨
  ∃ x, a = some x ∧ len ≤ cap ∧ cap ≤ maxLen ∧ zs.length = cap ∧ (∀ i, i < zs.length → w.cell? (x.add i) = some (.int k (zs.getD i 0))) ∧ ∀ n ∈ zs, (Lit.int k n).wf = true

theorem rowBs {w : World} {a : Option Addr} {n m : Nat} {z : List Int} (h : IsRow .u8 w a n m z) : n ≤ m ∧ ∃ z', Bs w a n z' ∧ ∀ x ∈ z', 0 ≤ x ∧ x < 256 := by
  rcases h with ⟨rfl, rfl, rfl, rfl⟩ | ⟨x, rfl, hl, _, hz, hcell, hw⟩
  · exact ⟨Nat.le_refl _, [], ⟨rfl, fun h => absurd h (by omega)⟩, fun x h => by simp at h⟩
  · refine ⟨hl, z.take n, ⟨by rw [List.length_take]; omega, fun h => ?_⟩, fun x hx => ?_⟩
    · obtain ⟨b, off, spot⟩ := x
      have hc := hcell 0 (by omega)
      have hspot : spot = none := by simpa [Addr.add] using World.cell?_spot hc
      subst hspot
      refine ⟨b, off, rfl, fun i x hx => ?_⟩
      have hi : i < n := by have := (List.getElem?_eq_some_iff.1 hx).1; rw [List.length_take] at this; omega
      rw [List.getElem?_take_of_lt hi] at hx
      have := hcell i (by omega)
      rw [List.getD_eq_getElem?_getD, hx] at this
      rw [← show (⟨b, off, none⟩ : Addr).add i = ⟨b, off + i, none⟩ by unfold Addr.add; split <;> simp_all]
      exact this
    · have := hw x (List.mem_of_mem_take hx)
      have h2 := bounds_u8 this
      omega

def Rel (b B : Nat) (a : Option Addr) (n : Nat) (z : List Int) (w0 : World) (v : Value) (wr : World) : Prop :=
  ∃ p : Nat, p ≤ n ∧ IsRd wr b (.slice a n n) p 0 0 ∧ Own wr B v (z.take p) ∧ Below B w0 wr

theorem take_piece (z : List Int) (p k : Nat) (h : p ≤ k) : z.take p ++ piece z p k = z.take k := by
  unfold piece
  rw [show k = p + (k - p) by omega, List.take_add, show p + (k - p) - p = k - p by omega]

theorem rel_next {b B p : Nat} {a : Option Addr} {n : Nat} {z : List Int} {w0 w2 w3 : World} {v v' : Value} {mn : Int} (m0 : 0 ≤ mn) (m1 : mn ≤ (n : Int) - p)
    (hr2 : IsRd w2 b (.slice a n n) (p + mn) 0 0) (hb2 : Below B w0 w2) (hB2 : B ≤ w2.heap.size) (hown2 : Own w2 B v (z.take p))
    (hown3 : Own w3 B v' (z.take p ++ piece z (p : Int).toNat ((p : Int) + mn).toNat)) (hg3 : w2.grownBy w3 v.ownBlock) : Rel b B a n z w0 v' w3 := by
  refine ⟨p + mn.toNat, by omega, ?_, ?_, Own.belowOf hb2 hB2 hown2 hg3⟩
  · have := hr2.grown hown2 hg3
    rw [show ((p + mn.toNat : Nat) : Int) = p + mn by omega]
    exact this
  · rw [show ((p : Int) + mn).toNat = p + mn.toNat by omega, Int.toNat_natCast, take_piece _ _ _ (by omega)] at hown3
    exact hown3

set_option maxRecDepth 100000 in
set_option maxHeartbeats 1000000 in
theorem walk (a0 : Option Addr) (len0 cap0 : Nat) (z0 : List Int) (a1 : Option Addr) (len1 cap1 : Nat) (z1 : List Int) (w : World) (w0 : IsRow .u8 w a0 len0 cap0 z0) (w1 : IsRow .u8 w a1 len1 cap1 z1) :
    Calls Try.prog 4 #[.slice a0 len0 cap0, .slice a1 len1 cap1] w fun e w' => e = .returned (.bool true) ∧ Below w.heap.size w w' := by
  obtain ⟨hcap, z, hz, _⟩ := rowBs w0
  obtain ⟨_, y, hy, hyb⟩ := rowBs w1
  have HY := Lib.hid hyb
  clear w0 w1 hyb
  by_cases hn : 300 < (len0 : Int)
  · go_enter Try.func4, Try.ntmps4
    go_wp2_with fail
    refine (live_any _).mono ?_
    rintro e w1 ⟨rfl, hb⟩
    go_wp2
    go_ret
    exact ⟨rfl, hb⟩
  · by_cases hn1 : 100 < (len1 : Int)
    · go_enter Try.func4, Try.ntmps4
      go_wp2_with fail
      refine (live_any _).mono ?_
      rintro e w1 ⟨rfl, hb⟩
      go_wp2
      go_ret
      exact ⟨rfl, hb⟩
    · go_enter Try.func4, Try.ntmps4
      go_wp2_with fail
      refine (new_some _ _ _ _ hcap).mono ?_
      rintro e w7 ⟨b, rfl, hbl, hb7, hr⟩
      go_wp2_with fail
      go_loopw [6, 7] (fun v i wr => ∃ k : Nat, k ≤ len1 ∧ i = .int .i64 k ∧ Rel b w.heap.size a0 len0 z w v wr) (fun _ i _ => len1 - (intOf i).toNat)
      case atStart => exact ⟨0, Nat.zero_le _, rfl, 0, Nat.zero_le _, hr, Own.nil _ _, hb7⟩
      case round =>
        obtain ⟨k, hk, rfl, p, hp, hrd, hown, hbel⟩ := hrel
        by_cases hlt : k < len1
        · have hyr := hy.below hbel
          have hzr := hz.below hbel
          obtain ⟨g1, o1, rfl, hcell⟩ := hyr.at_ hlt
          have hyc : ∀ wq, Below w.heap.size w wq → wq.cell? ⟨g1, o1 + k, none⟩ = some (.int .u8 (y.getD k 0)) := fun wq hb => by
            obtain ⟨g2, o2, e, hc⟩ := (hy.below hb).at_ hlt
            injection e with e
            injection e with e1 e2
            subst e1 e2
            exact hc
          have hx : 0 ≤ y.getD k 0 ∧ y.getD k 0 < 256 := by
            refine HY.out _ ?_
            have : k < y.length := by rw [hyr.1]; exact hlt
            rw [List.getD_eq_getElem?_getD, List.getElem?_eq_getElem this]
            exact List.getElem_mem _
          generalize y.getD k 0 = x at *
          obtain ⟨x0, x1⟩ := hx
          have k0 : (0 : Int) ≤ k := by omega
          have k1 : (k : Int) < len1 := by omega
          clear hr hb7 hyr
          have hpn : (p : Int) ≤ len0 := by omega
          have hw : IntKind.i64.wrap x = x := IntWalk.i64_in _ (by omega)
          have hif : 0 ≤ (if (len0 : Int) - p < x then (len0 : Int) - p else x) ∧ (if (len0 : Int) - p < x then (len0 : Int) - p else x) ≤ (len0 : Int) - p := by split <;> omega
          have HI := Lib.hid hif
          clear hif
          go_wp2_with fail
          go_region_held3 (fun w' => w'.cell? ⟨g1, o1 + k, none⟩ = some (.int .u8 x))
            (first
              | go_keep
              | exact hq
              | exact hq3)
            (first
              | (go_at_call 11; refine (left_any _ _ _ _ _ _ _ _ (by exact hrd) (by omega) (by omega) (by omega)).mono ?_; rintro e w' ⟨rfl, kk, rfl⟩)
              | (go_at_call 14; go_must (have hi := HI.out; generalize (if (len0 : Int) - p < x then (len0 : Int) - p else x) = mn at *; obtain ⟨m0, m1⟩ := hi; refine (take_yes _ _ _ _ _ _ _ _ _ (by exact hrd) (by exact hzr) (by omega) (by omega) (by omega) m0 m1).mono ?_; rintro e w2 ⟨g, rfl, hg, hkp, hr2, hbs⟩; have hb2 := Kp.below (below_drewN hbel _) (Nat.le_refl _) hkp hbl; have hq := hyc _ hb2; have hown2 := Own.kp (w := wr.drewN _) (z := z.take p) (v := u6) (B := w.heap.size) (by exact hown) (by exact hrd) hkp; have hB2 := hb2.size; have hsz : (z.take p).length + mn.toNat ≤ 1000000 := by rw [List.length_take]; omega))
              | (have gk := hbs; go_must (refine draw_append_bs rfl (.tmp 25) (.tmp 35) rfl w.heap.size u6 (z.take p) rfl hown2 _ _ _ _ rfl hbs (by simp) hsz hB2 ?_; intro v' w3 hown3 hg3; have hq3 := hyc _ (Own.belowOf hb2 hB2 hown2 hg3)))
              | fail)
          have R := rel_next m0 m1 hr2 hb2 hB2 hown2 hown3 hg3
          clear hr2 hb2 hB2 hown2 hown3 hg3 hq hq3 gk hbs hkp hg hsz m0 m1 HI hyc hcell hrd hown hbel hw hzr
          go_wp2
          go_roundw
          case rel => exact ⟨k + 1, by omega, by go_num, R⟩
          case measure => simp [intOf]; omega
        · have hzr := hz.below hbel
          go_wp2_with fail
          refine (left_any _ _ _ _ _ _ _ _ hrd (by omega) (by omega) (by omega)).mono ?_
          rintro e w8 ⟨rfl, kk, rfl⟩
          go_wp2_with fail
          refine (take_yes _ _ _ _ _ _ _ _ _ (hrd.drewN kk) (hzr.drewN kk) (by omega) (by omega) (by omega) (by omega) (by omega)).mono ?_
          rintro e w9 ⟨g, rfl, hg, hkp, hr9, hbs⟩
          have hb9 := Kp.below (below_drewN hbel _) (Nat.le_refl _) hkp hbl
          have hown9 := Own.kp (w := wr.drewN kk) (z := z.take p) (v := u6) (B := w.heap.size) hown (hrd.drewN kk) hkp
          rw [show ((len0 : Int) - p).toNat = len0 - p by omega, show ((p : Int) + ((len0 : Int) - p)).toNat = len0 by omega, Int.toNat_natCast] at hbs
          rw [show ((p : Int) + ((len0 : Int) - p)) = len0 by omega] at hr9
          have hB9 := hb9.size
          have hsz9 : (z.take p).length + (len0 - p) ≤ 1000000 := by rw [List.length_take]; omega
          have e0 : ((len0 : Int) - p).toNat = len0 - p := by omega
          rw [e0]
          clear e0 hkp hrd hbel hown hzr hr hb7
          go_wp2_with (at_builtin; go_must (refine list_append_bs rfl (.tmp 37) (.tmp 41) rfl w.heap.size u6 (z.take p) rfl hown9 _ _ _ _ rfl hbs (by simp) hsz9 hB9 ?_; intro v3 w10 hown10 hg10))
          have zl : z.length = len0 := hz.1
          have hr10 := hr9.grown hown9 hg10
          have hb10 := Own.belowOf hb9 hB9 hown9 hg10
          rw [take_piece _ _ _ (by omega), List.take_of_length_le (by omega)] at hown10
          obtain ⟨A3, c3, e3⟩ := hown10.slice
          rw [zl] at e3
          subst e3
          have hz10 := hz.below hb10
          have ho10 := hown10.bs.2
          have ZL := Lib.hid zl
          clear hr9 hb9 hB9 hown9 hg10 hown10 hbs hsz9 hg zl
          refine (end_any _ _ _ _ _ _ _ _ hr10 (by omega) (by omega) (by omega)).mono ?_
          rintro e w11 ⟨c', q', rfl, hk11, hr11, hcq⟩
          rw [if_neg (by omega)] at hcq
          obtain ⟨rfl, rfl⟩ := hcq
          have hb11 := Kp.below hb10 (Nat.le_refl _) hk11 hbl
          have hz11 := hz10.kp hr10 (by simp) hk11
          have ho11 := ho10.kp hr10 (by simp) hk11
          clear hr10 hb10 hz10 ho10 hk11
          go_wp2_with fail
          refine (same_any _ _ _ _ _ _ _ _ ho11 hz11).mono ?_
          rintro e w12 ⟨rfl, rfl⟩
          go_wp2_with fail
          refine (good_any _ _ _ _ _ _ hr11).mono ?_
          rintro e w12 ⟨rfl, hk12⟩
          have hb12 := hb11.trans (hk12.mono hb11.size)
          have hr12 := hr11.below hk12
          have hz12 := hz11.below hk12
          clear hb11 hr11 hz11 ho11 hk12
          go_wp2_with fail
          refine (at_any _ _ _ _ _ _ hr12).mono ?_
          rintro e w13 ⟨rfl, rfl⟩
          go_wp2_with fail
          refine (since_any _ _ _ _ _ _ _ _ _ _ hr12 hz12 (by omega) (by omega) (by omega) (by omega)).mono ?_
          rintro e w13 ⟨hk13, hs⟩
          rcases hs with ⟨_, _, g3, rfl, hg3, hrow3⟩ | ⟨h, _⟩
          rotate_left
          · omega
          have hb13 := hb12.trans (hk13.mono hb12.size)
          have hr13 := hr12.below hk13
          have hz13 := hz12.below hk13
          clear hb12 hr12 hz12 hk13
          have hp3 : piece z (Int.toNat 0) (len0 : Int).toNat = z := by
            rw [Int.toNat_natCast, show Int.toNat 0 = 0 from rfl]
            unfold piece
            rw [List.drop_zero, Nat.sub_zero, List.take_of_length_le (by rw [ZL.out]; exact Nat.le_refl _)]
          rw [hp3] at hrow3
          have s13 : Bs w13 (some ⟨g3, 0, none⟩) len0 z := by
            have := Bs.of_block hrow3
            rw [ZL.out] at this
            exact this
          clear hrow3 hp3
          have hn3 : (len0 : Int).toNat - Int.toNat 0 = len0 := by omega
          rw [hn3]
          clear hn3
          go_wp2_with fail
          refine (same_any _ _ _ _ _ _ _ _ s13 hz13).mono ?_
          rintro e w14 ⟨rfl, rfl⟩
          go_wp2_with fail
          refine (byte_any _ _ _ _ _ _ _ _ _ hr13 hz13 (by omega) (by omega) (by omega)).mono ?_
          rintro e w14 ⟨ok, p', c', q', hk14, hr14, hs, rfl⟩
          obtain ⟨rfl, rfl, rfl, rfl⟩ := skip_over hs (by omega) (by omega)
          have hb14 := Kp.below hb13 (Nat.le_refl _) hk14 hbl
          clear hb13 hr13 hz13 hk14 hs s13
          go_wp2_with fail
          refine (fault_any _ _ _ _ _ _ hr14).mono ?_
          rintro e w15 ⟨rfl, hk15⟩
          have hb15 := hb14.trans (hk15.mono hb14.size)
          clear hb14 hr14 hk15
          go_wp2_with fail
          refine (live_any _).mono ?_
          rintro e w16 ⟨rfl, hk16⟩
          have hb16 := hb15.trans (hk16.mono hb15.size)
          go_wp2
          go_ret
          exact ⟨rfl, hb16⟩

/-! ### THE ROW's STEP: WRITTEN OUT: LEAVE IT -/
set_option maxRecDepth 100000 in
theorem lifted (os : Os) (started : os.Started) (H : Type) (enc : TypeId × Value → H) :
    ReturnsInHanded {} Try.checked os 4 .any (Rows.cursorWholeSpec.pre6 enc Try.prog Try.f4 Rows.cursorWholeRow.domain false) (Rows.cursorWholeSpec.post enc Try.prog Try.f4 false true false false) := by
  refine returnsInHanded_of_change (C := Try.checked) own started (by kernel_rfl) Try.func4
    (ChangeSpec.witness6 (enc := enc) (C := Try.checked) false ⟨#[], #[.slice none 0 0, .slice none 0 0], []⟩ 8 (by kernel_rfl) (by kernel_rfl) (by kernel_rfl) (by kernel_rfl)) ?_
  intro W base args ds gs before hval0 hW hcnd _
  have hval : ∀ (j : Nat) t v, Try.f4.params[j]? = some t → args[j]? = some v → Value.okWide Try.prog W .any base t v := hval0
  have hW' := hW
  obtain ⟨p, q, hA0, hV, rfl, hfz, hnd⟩ := hW
  have hA : DataW.TrodAll enc Try.prog W 0 (fun _ => true) true Try.f4.params.toList args.toList ds p := hA0
  rw [Try.params4] at hA hval
  obtain ⟨v0, vs0, d0, ds0, p0, q0, hargs, rfl, rfl, h0, r0⟩ := trodAll_cons hA
  obtain ⟨v1, vs1, d1, ds1, p1, q1, rfl, rfl, rfl, h1, r1⟩ := trodAll_cons r0
  obtain ⟨rfl, rfl, rfl⟩ := trodAll_nil r1
  obtain rfl : args = #[v0, v1] := by cases args; simp_all
  obtain ⟨rfl, rfl⟩ := trodVars_none hV
  obtain ⟨a0, len0, cap0, rfl⟩ := okWide_slice Try.underlying22 (hval 0 22 v0 rfl rfl)
  have k0 := h0
  have lt0 : ∀ x ∈ p0, x.block < W.heap.size := by obtain ⟨m, hm⟩ := k0; exact DataW.trod_lt m _ _ _ hm
  obtain ⟨z0, w0⟩ : ∃ zs, IsRow .u8 W a0 len0 cap0 zs := by
    obtain ⟨fuel, hf⟩ := h0
    rcases open_ints Try.underlying22 Try.underlying5 (by kernel_rfl) hf with ⟨hcs, _⟩ | ⟨x, l, c, zs, hcs, _, hl, hm, hz, _, hcell, hwz⟩
    · simp [Value.cells] at hcs
      obtain ⟨rfl, rfl, rfl⟩ := hcs
      exact ⟨[], .inl ⟨rfl, rfl, rfl, rfl⟩⟩
    · simp [Value.cells] at hcs
      obtain ⟨rfl, rfl, rfl⟩ := hcs
      exact ⟨zs, .inr ⟨_, rfl, hl, hm, by simpa using hz, hcell, hwz⟩⟩
  obtain ⟨a1, len1, cap1, rfl⟩ := okWide_slice Try.underlying22 (hval 1 22 v1 rfl rfl)
  have k1 := h1
  have lt1 : ∀ x ∈ p1, x.block < W.heap.size := by obtain ⟨m, hm⟩ := k1; exact DataW.trod_lt m _ _ _ hm
  obtain ⟨z1, w1⟩ : ∃ zs, IsRow .u8 W a1 len1 cap1 zs := by
    obtain ⟨fuel, hf⟩ := h1
    rcases open_ints Try.underlying22 Try.underlying5 (by kernel_rfl) hf with ⟨hcs, _⟩ | ⟨x, l, c, zs, hcs, _, hl, hm, hz, _, hcell, hwz⟩
    · simp [Value.cells] at hcs
      obtain ⟨rfl, rfl, rfl⟩ := hcs
      exact ⟨[], .inl ⟨rfl, rfl, rfl, rfl⟩⟩
    · simp [Value.cells] at hcs
      obtain ⟨rfl, rfl, rfl⟩ := hcs
      exact ⟨zs, .inr ⟨_, rfl, hl, hm, by simpa using hz, hcell, hwz⟩⟩
  clear hA0 hval0
  refine (walk a0 len0 cap0 z0 a1 len1 cap1 z1 W w0 w1).mono fun e W' ⟨he, bel⟩ => ?_
  subst he
  exact ⟨_, rfl, _, _, _, [], _, [], hW', trodAll_mk1 (shut_bool Try.underlying4 _), (trodAll_cons_mk (Below.trod laidOut (by kernel_rfl) (of_decide_eq_true (by kernel_rfl)) k0 bel lt0) (trodAll_cons_mk (Below.trod laidOut (by kernel_rfl) (of_decide_eq_true (by kernel_rfl)) k1 bel lt1) trodAll_mk0)), rfl, bel.frame _, fun h => by cases h⟩

theorem over : Rows.cursorWholeRow.holds Try.pinned (OpenSpec.ofChange Rows.cursorWholeSpec) :=
  OpenClaim.holds_of_wide 4 Try.f4 rfl rfl rfl rfl rfl rfl rfl ⟨rfl, rfl, rfl, rfl, rfl⟩ rfl rfl rfl rfl rfl (by kernel_rfl) Try.func4 (by kernel_rfl)
    (of_decide_eq_true (by kernel_rfl)) (by unfold Func.isWrapper; first | (rw [if_pos (by decide +kernel)]; kernel_rfl) | (rw [if_neg (by decide +kernel)]; exact ⟨rfl, rfl⟩))
    (fun os started H enc _ => lifted os started H enc)

/-- ████ THE STATEMENT ████ -/
theorem proved : Rows.CursorWholeSaid := over
#print axioms proved
end Go.Proofs.Ytnfapejkcfoknaa.cursorWhole
