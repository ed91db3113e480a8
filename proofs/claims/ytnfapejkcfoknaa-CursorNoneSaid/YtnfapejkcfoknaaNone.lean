/- CursorNone: called with any bytes and any int, the law returns true, and its arguments read afterwards as before; no condition. -/
import Derived.Test.YtnfapejkcfoknaaRows
import Derived.Test.YtnfapejkcfoknaaCurE
import Derived.WalkKit
import Derived.ProofKit
import Derived.OpenShut
import Derived.ShutString
import Derived.ChangeOld
import Derived.Below
namespace Go.Proofs.Ytnfapejkcfoknaa.cursorNone
open Go.ChangeShapes Go.WideShapes Go.ChangeAt Go.RowKit
open Go.ChangeMaps (open_string shut_string)
open Cur
set_option linter.unusedVariables false

theorem own : ownKnob Try.prog.godebug = none := by kernel_rfl
theorem laidOut : laidOutB Try.prog = true := by kernel_rfl

/-- WHAT THE WALK IS TOLD OF A SLICE OF INTEGERS THAT CAME IN: it is nil; or it leads to a row of 'cap' cells, the numbers 'zs' (the first 'len' are its elements, the rest its spare room), each fitting its kind. -/
def IsRow (k : IntKind) (w : World) (a : Option Addr) (len cap : Nat) (zs : List Int) : Prop :=
  (a = none ∧ len = 0 ∧ cap = 0 ∧ zs = []) ∨
  ∃ x, a = some x ∧ len ≤ cap ∧ cap ≤ maxLen ∧ zs.length = cap ∧ (∀ i, i < zs.length → w.cell? (x.add i) = some (.int k (zs.getD i 0))) ∧ ∀ n ∈ zs, (Lit.int k n).wf = true

theorem rowBs {w : World} {a : Option Addr} {n m : Nat} {z : List Int} (h : IsRow .u8 w a n m z) : n ≤ m ∧ ∃ z', Bs w a n z' := by
  rcases h with ⟨rfl, rfl, rfl, rfl⟩ | ⟨x, rfl, hl, _, hz, hcell, _⟩
  · exact ⟨Nat.le_refl _, [], rfl, fun h => absurd h (by omega)⟩
  · refine ⟨hl, z.take n, by rw [List.length_take]; omega, fun h => ?_⟩
    obtain ⟨b, off, spot⟩ := x
    have hc := hcell 0 (by omega)
    have hspot : spot = none := by simpa [Addr.add] using World.cell?_spot hc
    subst hspot
    refine ⟨b, off, rfl, fun i x hx => ?_⟩
    have hi : i < n := by have := (List.getElem?_eq_some_iff.1 hx).1; rw [List.length_take] at this; omega
    rw [List.getElem?_take_of_lt hi] at hx
    have := hcell i (by omega)
    rw [List.getD_eq_getElem?_getD, hx] at this
    rw [← show (⟨b, off, none⟩ : Addr).add i = ⟨b, off + i, none⟩ by unfold Addr.add; split <;> simp_all]
    exact this

set_option maxRecDepth 100000 in
set_option maxHeartbeats 1000000 in
theorem walk (a0 : Option Addr) (len0 cap0 : Nat) (z0 : List Int) (a1 : Int) (w : World) (w0 : IsRow .u8 w a0 len0 cap0 z0) (w1 : (Lit.int .i64 a1).wf = true) :
    Calls Try.prog 6 #[.slice a0 len0 cap0, .int .i64 a1] w fun e w' => e = .returned (.bool true) ∧ Below w.heap.size w w' := by
  obtain ⟨hcap, z, hz⟩ := rowBs w0
  clear w0 w1
  by_cases hn : 300 < (len0 : Int)
  · go_enter Try.func6, Try.ntmps6
    go_wp2_with fail
    refine (live_any _).mono ?_
    rintro e w1 ⟨rfl, hb⟩
    go_wp2
    go_ret
    exact ⟨rfl, hb⟩
  · go_enter Try.func6, Try.ntmps6
    go_wp2_with fail
    refine (fail_none _ _ _).mono ?_
    rintro e w1 ⟨rfl, b1⟩
    go_wp2_with fail
    refine (end_none _).mono ?_
    rintro e w2 ⟨rfl, rfl⟩
    go_wp2_with fail
    refine (byte_none _).mono ?_
    rintro e w2 ⟨rfl, b2⟩
    replace b2 := b1.trans (b2.mono b1.size)
    go_wp2_with fail
    refine (take_none _ _).mono ?_
    rintro e w3 ⟨rfl, b3⟩
    replace b3 := b2.trans (b3.mono b2.size)
    go_wp2_with fail
    refine (skip_none _ _).mono ?_
    rintro e w4 ⟨rfl, b4⟩
    replace b4 := b3.trans (b4.mono b3.size)
    go_wp2_with fail
    refine (at_none _).mono ?_
    rintro e w5 ⟨rfl, rfl⟩
    go_wp2_with fail
    refine (left_none _).mono ?_
    rintro e w5 ⟨rfl, rfl⟩
    go_wp2_with fail
    refine (good_none _).mono ?_
    rintro e w5 ⟨rfl, b5⟩
    replace b5 := b4.trans (b5.mono b4.size)
    go_wp2_with fail
    refine (part_none _ _).mono ?_
    rintro e w6 ⟨rfl, rfl⟩
    go_wp2_with fail
    refine (since_none _ _).mono ?_
    rintro e w6 ⟨rfl, rfl⟩
    go_wp2_with fail
    refine (fault_none _).mono ?_
    rintro e w6 ⟨rfl, b6⟩
    replace b6 := b5.trans (b6.mono b5.size)
    clear b1 b2 b3 b4 b5
    go_wp2_with fail
    refine (new_some _ _ _ _ hcap).mono ?_
    rintro e w7 ⟨b, rfl, hb, hb7, hr⟩
    have z7 := (hz.below b6).below hb7
    have b7 := b6.trans (hb7.mono b6.size)
    have hbl : w.heap.size ≤ b := Nat.le_trans b6.size hb
    have hlt := hr.lt
    clear hb7 b6 hb
    go_wp2_with fail
    refine (take_any _ _ _ _ _ _ _ _ _ _ hr z7 (by omega) (by omega) (by omega) (by omega)).mono ?_
    rintro e w8 ⟨ok, p', c', q', hk, hr8, hs, ht⟩
    obtain ⟨rfl, rfl, rfl, rfl⟩ := skip_yes hs (by omega) (by omega)
    rcases ht with ⟨_, g, rfl, hg, hrow⟩ | ⟨h, _⟩
    rotate_left
    · cases h
    have R8 : Row w8 g len0 := Row.of_block hrow (by rw [length_piece hz.1 (by omega)]; omega)
    clear hrow
    have z8 := z7.kp hr (by simp) hk
    have b8 := Kp.below b7 (Nat.le_refl _) hk hbl
    clear hk hs hr b7
    rw [Int.toNat_natCast]
    go_wp2_with fail
    have hne : b ≠ g := by omega
    have hgl : w.heap.size ≤ g := by omega
    go_loopw [8] (fun i wr => ∃ k : Nat, k ≤ len0 ∧ i = .int .i64 k ∧ Kp g w8 wr ∧ Row wr g len0) (fun i _ => len0 - (intOf i).toNat)
    case atStart => exact ⟨0, Nat.zero_le _, rfl, Kp.refl _ _, R8⟩
    case round =>
      obtain ⟨k, hk, rfl, hkp, hrow⟩ := hrel
      by_cases hlt : k < len0
      · obtain ⟨x, hx⟩ := hrow.cell hlt
        have hf := hrow.free k
        go_wp2
        go_roundw
        case rel => exact ⟨k + 1, by omega, by go_num, hkp.trans (Kp.setCell _ _ _ _), hrow.set_ k _⟩
        case measure => simp [intOf]; omega
      · have zr := bs_far z7 hg z8 hkp
        have hrr := hr8.kp hkp hne
        have br := Kp.below b8 (Nat.le_refl _) hkp hgl
        have hltr := hrr.lt
        clear hr8 R8 z8 b8 hkp hrow z7
        go_wp2_with fail
        refine (since_any _ _ _ _ _ _ _ _ _ _ hrr zr (by omega) (by omega) (by omega) (by omega)).mono ?_
        rintro e w9 ⟨hb9, hs⟩
        rcases hs with ⟨_, _, g2, rfl, hg2, hrow2⟩ | ⟨h, _⟩
        rotate_left
        · omega
        have hr9 := hrr.below hb9
        have z9 := zr.below hb9
        have b9 := br.trans (hb9.mono br.size)
        have R9 : Row w9 g2 len0 := Row.of_block hrow2 (by rw [length_piece hz.1 (by omega)]; omega)
        have hn2 : (0 + (len0 : Int)).toNat - Int.toNat 0 = len0 := by omega
        have hne2 : b ≠ g2 := by omega
        have hgl2 : w.heap.size ≤ g2 := by have := br.size; omega
        clear hrow2 hrr br
        rw [hn2]
        clear hn2
        go_wp2_with fail
        go_loopw [10] (fun i wr => ∃ k : Nat, k ≤ len0 ∧ i = .int .i64 k ∧ Kp g2 w9 wr ∧ Row wr g2 len0) (fun i _ => len0 - (intOf i).toNat)
        case atStart => exact ⟨0, Nat.zero_le _, rfl, Kp.refl _ _, R9⟩
        case round =>
          obtain ⟨k, hk, rfl, hkp, hrow⟩ := hrel
          by_cases hlt : k < len0
          · obtain ⟨x, hx⟩ := hrow.cell hlt
            have hf := hrow.free k
            go_wp2
            go_roundw
            case rel => exact ⟨k + 1, by omega, by go_num, hkp.trans (Kp.setCell _ _ _ _), hrow.set_ k _⟩
            case measure => simp [intOf]; omega
          · have zs := bs_far zr hg2 z9 hkp
            have hrs := hr9.kp hkp hne2
            have bs := Kp.below b9 (Nat.le_refl _) hkp hgl2
            clear hr9 R9 z9 b9 hkp hrow zr
            go_wp2_with fail
            refine (since_any _ _ _ _ _ _ _ _ _ _ hrs zs (by omega) (by omega) (by omega) (by omega)).mono ?_
            rintro e w10 ⟨hb10, hs⟩
            rcases hs with ⟨_, _, g3, rfl, hg3, hrow3⟩ | ⟨h, _⟩
            rotate_left
            · omega
            have z10 := zs.below hb10
            have b10 := bs.trans (hb10.mono bs.size)
            have hn3 : (0 + (len0 : Int)).toNat - Int.toNat 0 = len0 := by omega
            have hp3 : piece z (Int.toNat 0) (0 + (len0 : Int)).toNat = z := by
              have e0 : (0 + (len0 : Int)).toNat = len0 := by omega
              rw [e0, show Int.toNat 0 = 0 from rfl]
              unfold piece
              rw [List.drop_zero, Nat.sub_zero, List.take_of_length_le (by rw [zs.1]; exact Nat.le_refl _)]
            rw [hp3] at hrow3
            have s10 : Bs w10 (some ⟨g3, 0, none⟩) len0 z := by
              have := Bs.of_block hrow3
              rw [zs.1] at this
              exact this
            clear hrow3 hp3 hrs bs zs
            rw [hn3]
            clear hn3
            go_wp2_with fail
            refine (same_any _ _ _ _ _ _ _ _ s10 z10).mono ?_
            rintro e w11 ⟨rfl, rfl⟩
            go_wp2_with fail
            refine (live_any _).mono ?_
            rintro e w11 ⟨rfl, hb11⟩
            have b11 := b10.trans (hb11.mono b10.size)
            go_wp2
            go_ret
            exact ⟨rfl, b11⟩

/-! ### THE ROW's STEP: WRITTEN OUT: LEAVE IT -/
set_option maxRecDepth 100000 in
theorem lifted (os : Os) (started : os.Started) (H : Type) (enc : TypeId × Value → H) :
    ReturnsInHanded {} Try.checked os 6 .any (Rows.cursorNoneSpec.pre6 enc Try.prog Try.f6 Rows.cursorNoneRow.domain false) (Rows.cursorNoneSpec.post enc Try.prog Try.f6 false true false false) := by
  refine returnsInHanded_of_change (C := Try.checked) own started (by kernel_rfl) Try.func6
    (ChangeSpec.witness6 (enc := enc) (C := Try.checked) false ⟨#[], #[.slice none 0 0, .int .i64 0], []⟩ 8 (by kernel_rfl) (by kernel_rfl) (by kernel_rfl) (by kernel_rfl)) ?_
  intro W base args ds gs before hval0 hW hcnd _
  have hval : ∀ (j : Nat) t v, Try.f6.params[j]? = some t → args[j]? = some v → Value.okWide Try.prog W .any base t v := hval0
  have hW' := hW
  obtain ⟨p, q, hA0, hV, rfl, hfz, hnd⟩ := hW
  have hA : DataW.TrodAll enc Try.prog W 0 (fun _ => true) true Try.f6.params.toList args.toList ds p := hA0
  rw [Try.params6] at hA hval
  obtain ⟨v0, vs0, d0, ds0, p0, q0, hargs, rfl, rfl, h0, r0⟩ := trodAll_cons hA
  obtain ⟨v1, vs1, d1, ds1, p1, q1, rfl, rfl, rfl, h1, r1⟩ := trodAll_cons r0
  obtain ⟨rfl, rfl, rfl⟩ := trodAll_nil r1
  obtain rfl : args = #[v0, v1] := by cases args; simp_all
  obtain ⟨rfl, rfl⟩ := trodVars_none hV
  obtain ⟨a0, len0, cap0, rfl⟩ := okWide_slice Try.underlying22 (hval 0 22 v0 rfl rfl)
  have k0 := h0
  have lt0 : ∀ x ∈ p0, x.block < W.heap.size := by obtain ⟨m, hm⟩ := k0; exact DataW.trod_lt m _ _ _ hm
  obtain ⟨z0, w0⟩ : ∃ zs, IsRow .u8 W a0 len0 cap0 zs := by
    obtain ⟨fuel, hf⟩ := h0
    rcases open_ints Try.underlying22 Try.underlying5 (by kernel_rfl) hf with ⟨hcs, _⟩ | ⟨x, l, c, zs, hcs, _, hl, hm, hz, _, hcell, hwz⟩
    · simp [Value.cells] at hcs
      obtain ⟨rfl, rfl, rfl⟩ := hcs
      exact ⟨[], .inl ⟨rfl, rfl, rfl, rfl⟩⟩
    · simp [Value.cells] at hcs
      obtain ⟨rfl, rfl, rfl⟩ := hcs
      exact ⟨zs, .inr ⟨_, rfl, hl, hm, by simpa using hz, hcell, hwz⟩⟩
  obtain ⟨a1, rfl, rfl, rfl, w1⟩ := open_int Try.underlying3 (hval 1 3 v1 rfl rfl) h1
  clear hA0 hval0
  refine (walk a0 len0 cap0 z0 a1 W w0 w1).mono fun e W' ⟨he, bel⟩ => ?_
  subst he
  exact ⟨_, rfl, _, _, _, [], _, [], hW', trodAll_mk1 (shut_bool Try.underlying4 _), (trodAll_cons_mk (Below.trod laidOut (by kernel_rfl) (of_decide_eq_true (by kernel_rfl)) k0 bel lt0) (trodAll_cons_mk (shut_int Try.underlying3 w1) trodAll_mk0)), rfl, bel.frame _, fun h => by cases h⟩

theorem over : Rows.cursorNoneRow.holds Try.pinned (OpenSpec.ofChange Rows.cursorNoneSpec) :=
  OpenClaim.holds_of_wide 6 Try.f6 rfl rfl rfl rfl rfl rfl rfl ⟨rfl, rfl, rfl, rfl, rfl⟩ rfl rfl rfl rfl rfl (by kernel_rfl) Try.func6 (by kernel_rfl)
    (of_decide_eq_true (by kernel_rfl)) (by unfold Func.isWrapper; first | (rw [if_pos (by decide +kernel)]; kernel_rfl) | (rw [if_neg (by decide +kernel)]; exact ⟨rfl, rfl⟩))
    (fun os started H enc _ => lifted os started H enc)

/-- ████ THE STATEMENT ████ -/
theorem proved : Rows.CursorNoneSaid := over
#print axioms proved
end Go.Proofs.Ytnfapejkcfoknaa.cursorNone
