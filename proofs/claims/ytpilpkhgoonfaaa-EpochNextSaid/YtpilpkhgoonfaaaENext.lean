/- EpochNext: called with any number and any numbers, the law returns true; no condition. -/
import Derived.Test.YtpilpkhgoonfaaaRows
import Derived.Test.YtpilpkhgoonfaaaEpoB
import Derived.IntWalk
import Derived.ProofKit
import Derived.OpenShut
import Derived.ShutString
import Derived.ChangeOld
namespace Go.Proofs.Ytpilpkhgoonfaaa.epochNext
open Go.ChangeShapes Go.WideShapes Go.ChangeAt Go.RowKit
open Go.ChangeMaps (open_string shut_string)
set_option linter.unusedVariables false

theorem own : ownKnob Try.prog.godebug = none := by kernel_rfl
theorem laidOut : laidOutB Try.prog = true := by kernel_rfl
open Cur Mem

theorem wrap_u {x : Int} (h0 : 0 ≤ x) (h1 : x < 18446744073709551616) : IntKind.u64.wrap x = x := by
  simp only [IntKind.wrap, IntKind.bits, IntKind.signed]; simp; omega
theorem wrap_max : IntKind.u64.wrap (18446744073709551615 + 1) = 0 := by decide
theorem both_next {x : Int} (h0 : 0 ≤ x) (h1 : x < 18446744073709551616) : nxk x = (epk x && epk (IntKind.u64.wrap (x + 1))) := by
  by_cases hm : x = 18446744073709551615
  · subst hm; decide
  · rw [show IntKind.u64.wrap (x + 1) = x + 1 from wrap_u (by omega) (by omega)]
    unfold nxk epk
    rw [← Bool.decide_and]
    congr 1
    exact propext ⟨fun h => by omega, fun h => by omega⟩


set_option maxRecDepth 100000 in
set_option maxHeartbeats 4000000 in
theorem walk {H : Type} (enc : TypeId × Value → H) (w : World) (base : Nat) (v0 : Value) (d0 : DataW H) (p0 : List MemPlace) (g0 : Value.okWide Try.prog w .any base 22 v0) (h0 : DataW.Trod enc Try.prog w 0 (fun _ => true) true 22 v0 d0 p0) (v1 : Value) (d1 : DataW H) (p1 : List MemPlace) (g1 : Value.okWide Try.prog w .any base 46 v1) (h1 : DataW.Trod enc Try.prog w 0 (fun _ => true) true 46 v1 d1 p1) :
    Calls Try.prog 5 #[v0, v1] w fun e w' => e = .returned (.bool true) ∧ Below w.heap.size w w' := by
  obtain ⟨x, rfl, x0, x1⟩ := open_u64 g0 h0
  obtain ⟨A, n, m, z, rfl, hnm, hz, hby, hnil⟩ := open_u64s g1 h1
  clear g0 h0 g1 h1
  by_cases hn : 200 < (n : Int)
  · go_enter Try.func5, Try.ntmps5
    go_wp2_with fail
    refine (live17_any _).mono ?_
    rintro e w1 ⟨rfl, rfl⟩
    go_wp2
    go_ret
    exact ⟨rfl, Below.refl _ _⟩
  have HN := Lib.hid (both_next x0 x1)
  have HV : Hid (nxk x = true → nxv x = x + 1 ∧ IntKind.u64.wrap (x + 1) = x + 1) := Lib.hid fun h => by
    have h2 : 1 ≤ x ∧ x < 4611686018427387903 := of_decide_eq_true h
    exact ⟨by unfold nxv; rw [if_pos h], wrap_u (by omega) (by omega)⟩
  have HV0 : Hid (nxk x = false → nxv x = 0) := Lib.hid fun h => by unfold nxv; rw [h]; rfl
  have HA : Hid (∀ w', Below w.heap.size w w' → Calls Try.prog 26 #[.slice A n m] w' (BPost (.tuple #[.int .u64 (if allk z n then latk z n else 0), .bool (allk z n && decide (0 < n))]) w')) := Lib.hid fun w' hb => elatest_any _ _ _ _ _ (hz.below hb) (by omega) hby
  obtain ⟨V, hV⟩ : ∃ V : Value, V = .tuple #[.int .u64 (if allk z n then latk z n else 0), .bool (allk z n && decide (0 < n))] := ⟨_, rfl⟩
  rw [← hV] at HA
  have HVV := Lib.hid hV
  have HLB := Lib.hid (latk_bd hby)
  have HC : Hid (n ≠ 0 → ∃ g o, A = some ⟨g, o, none⟩ ∧ g < w.heap.size ∧ ∀ w', Below w.heap.size w w' → ∀ k, k < n → w'.cell? ⟨g, o + k, none⟩ = some (.int .u64 (z.getD k 0))) := Lib.hid fun h => hz.cells (by omega)
  have HB : Hid (∀ k, k < n → 0 ≤ z.getD k 0) := Lib.hid fun k hk => (hby _ (getD_mem (by rw [hz.1]; exact hk))).1
  have hw2 : 0 ≤ IntKind.u64.wrap (x + 1) := by simp only [IntKind.wrap, IntKind.bits, IntKind.signed]; simp; omega
  clear hV hz hby
  generalize hy : IntKind.u64.wrap (x + 1) = y at *
  have HY := Lib.hid hy
  have hnx := enext_any x x0 x1 w
  have HNX := Lib.hid hnx
  clear hnx
  go_enter Try.func5, Try.ntmps5
  go_wp2_with fail
  refine HNX.out.mono ?_
  rintro e w1 ⟨rfl, rfl⟩
  go_wp2_with fail
  refine (rright17_any _ x0 _).mono ?_
  rintro e w1 ⟨rfl, rfl⟩
  cases hE : epk x
  · have hk : nxk x = false := by rw [HN.out, hE]; rfl
    have hv := HV0.out hk
    rw [hk, hv]
    clear hk hv
    go_wp2
    go_loopw [7, 8, 9] (fun v7 v8 v9 wr => ∃ k : Nat, k ≤ n ∧ v9 = .int .i64 k ∧ v7 = .bool (decide ((0 : Int) < n) && allk z k) ∧ v8 = .int .u64 (latk z k) ∧ Below w.heap.size w wr) (fun _ _ v _ => n - (intOf v).toNat)
    case atStart => exact ⟨0, by omega, rfl, by simp [allk], rfl, Below.refl _ _⟩
    case round =>
      obtain ⟨k, hk, rfl, rfl, rfl, hb⟩ := hrel
      by_cases hlt : k < n
      · obtain ⟨g, o, rfl, hg, hc⟩ := HC.out (by omega)
        have c0 := hc wr hb k hlt
        have HCC := Lib.hid hc
        obtain ⟨T, hT⟩ : ∃ T, T = latk z k := ⟨_, rfl⟩
        have hTb := HLB.out k
        obtain ⟨x1, hx1⟩ : ∃ x, x = z.getD k 0 := ⟨_, rfl⟩
        have b0 := HB.out k hlt
        have hnx : latk z (k + 1) = max T x1 := by show max (latk z k) (z.getD k 0) = _; rw [hT, hx1]
        have hal : allk z (k + 1) = (allk z k && epk x1) := by show (allk z k && epk (z.getD k 0)) = _; rw [hx1]
        rw [← hx1] at c0 b0
        rw [← hT] at hTb ⊢
        have HNX2 := Lib.hid hnx
        have HAL := Lib.hid hal
        have e2 : (k : Int) < n := by omega
        have e4 : decide ((0 : Int) < n) = true := decide_eq_true (by omega)
        have e3 : IntKind.i64.wrap ((k : Int) + 1) = ((k + 1 : Nat) : Int) := IntWalk.i64_in _ (by omega)
        have HE4 := Lib.hid e4
        rw [e4, Bool.true_and]
        clear hc hT hx1 hnx hal e4
        cases hak : allk z k
        · rw [hak] at HAL
          go_wp2
          go_roundw
          case rel => exact ⟨k + 1, by omega, by go_num, by rw [HAL.out]; simp, by rw [HNX2.out], hb⟩
          case measure => simp [intOf]; omega
        · rw [hak] at HAL
          go_wp2_with fail
          refine (rright17_any _ b0 _).mono ?_
          rintro e w2 ⟨rfl, rfl⟩
          go_wp2
          go_roundw
          case rel => exact ⟨k + 1, by omega, by go_num, by rw [HAL.out]; simp, by rw [HNX2.out], hb⟩
          case measure => simp [intOf]; omega
      · obtain rfl : k = n := by omega
        by_cases hn0 : k = 0
        · subst hn0
          have HD : Hid (decide ((0 : Nat) < 0) = false) := Lib.hid rfl
          have HK : Hid (allk z 0 = true) := Lib.hid rfl
          rw [show latk z 0 = 0 from rfl, show allk z 0 = true from rfl]
          rw [show latk z 0 = 0 from rfl] at HVV
          go_wp2_with fail
          refine (HA.out _ hb).mono ?_
          rintro e w2 ⟨rfl, hb2⟩
          rw [HVV.out, HD.out, HK.out]
          have hbd := hb.trans (hb2.mono hb.size)
          clear hb hb2
          go_wp2_with fail
          refine (live17_any _).mono ?_
          rintro e w3 ⟨rfl, rfl⟩
          go_wp2
          go_ret
          exact ⟨rfl, hbd⟩
        · have HD : Hid (decide (0 < k) = true) := Lib.hid (decide_eq_true (by omega))
          have hd2 : decide ((0 : Int) < k) = true := decide_eq_true (by omega)
          rw [hd2]
          clear hd2
          obtain ⟨T, hT⟩ : ∃ T, T = latk z k := ⟨_, rfl⟩
          rw [← hT]
          rw [← hT] at HVV
          clear hT
          cases hak : allk z k
          · have HK := Lib.hid hak
            clear hak
            go_wp2_with fail
            refine (HA.out _ hb).mono ?_
            rintro e w2 ⟨rfl, hb2⟩
            rw [HVV.out, HD.out, HK.out]
            have hbd := hb.trans (hb2.mono hb.size)
            clear hb hb2
            go_wp2_with fail
            refine (live17_any _).mono ?_
            rintro e w3 ⟨rfl, rfl⟩
            go_wp2
            go_ret
            exact ⟨rfl, hbd⟩
          · have HK := Lib.hid hak
            clear hak
            go_wp2_with fail
            refine (HA.out _ hb).mono ?_
            rintro e w2 ⟨rfl, hb2⟩
            rw [HVV.out, HD.out, HK.out]
            have hbd := hb.trans (hb2.mono hb.size)
            clear hb hb2
            go_wp2_with fail
            refine (live17_any _).mono ?_
            rintro e w3 ⟨rfl, rfl⟩
            go_wp2
            go_ret
            exact ⟨rfl, hbd⟩
  · go_wp2_with fail
    refine (rright17_any _ hw2 _).mono ?_
    rintro e w1 ⟨rfl, rfl⟩
    cases hE2 : epk y
    · have hk : nxk x = false := by rw [HN.out, hE, hE2]; rfl
      have hv := HV0.out hk
      rw [hk, hv]
      clear hk hv
      go_wp2
      go_loopw [7, 8, 9] (fun v7 v8 v9 wr => ∃ k : Nat, k ≤ n ∧ v9 = .int .i64 k ∧ v7 = .bool (decide ((0 : Int) < n) && allk z k) ∧ v8 = .int .u64 (latk z k) ∧ Below w.heap.size w wr) (fun _ _ v _ => n - (intOf v).toNat)
      case atStart => exact ⟨0, by omega, rfl, by simp [allk], rfl, Below.refl _ _⟩
      case round =>
        obtain ⟨k, hk, rfl, rfl, rfl, hb⟩ := hrel
        by_cases hlt : k < n
        · obtain ⟨g, o, rfl, hg, hc⟩ := HC.out (by omega)
          have c0 := hc wr hb k hlt
          have HCC := Lib.hid hc
          obtain ⟨T, hT⟩ : ∃ T, T = latk z k := ⟨_, rfl⟩
          have hTb := HLB.out k
          obtain ⟨x1, hx1⟩ : ∃ x, x = z.getD k 0 := ⟨_, rfl⟩
          have b0 := HB.out k hlt
          have hnx : latk z (k + 1) = max T x1 := by show max (latk z k) (z.getD k 0) = _; rw [hT, hx1]
          have hal : allk z (k + 1) = (allk z k && epk x1) := by show (allk z k && epk (z.getD k 0)) = _; rw [hx1]
          rw [← hx1] at c0 b0
          rw [← hT] at hTb ⊢
          have HNX2 := Lib.hid hnx
          have HAL := Lib.hid hal
          have e2 : (k : Int) < n := by omega
          have e4 : decide ((0 : Int) < n) = true := decide_eq_true (by omega)
          have e3 : IntKind.i64.wrap ((k : Int) + 1) = ((k + 1 : Nat) : Int) := IntWalk.i64_in _ (by omega)
          have HE4 := Lib.hid e4
          rw [e4, Bool.true_and]
          clear hc hT hx1 hnx hal e4
          cases hak : allk z k
          · rw [hak] at HAL
            go_wp2
            go_roundw
            case rel => exact ⟨k + 1, by omega, by go_num, by rw [HAL.out]; simp, by rw [HNX2.out], hb⟩
            case measure => simp [intOf]; omega
          · rw [hak] at HAL
            go_wp2_with fail
            refine (rright17_any _ b0 _).mono ?_
            rintro e w2 ⟨rfl, rfl⟩
            go_wp2
            go_roundw
            case rel => exact ⟨k + 1, by omega, by go_num, by rw [HAL.out]; simp, by rw [HNX2.out], hb⟩
            case measure => simp [intOf]; omega
        · obtain rfl : k = n := by omega
          by_cases hn0 : k = 0
          · subst hn0
            have HD : Hid (decide ((0 : Nat) < 0) = false) := Lib.hid rfl
            have HK : Hid (allk z 0 = true) := Lib.hid rfl
            rw [show latk z 0 = 0 from rfl, show allk z 0 = true from rfl]
            rw [show latk z 0 = 0 from rfl] at HVV
            go_wp2_with fail
            refine (HA.out _ hb).mono ?_
            rintro e w2 ⟨rfl, hb2⟩
            rw [HVV.out, HD.out, HK.out]
            have hbd := hb.trans (hb2.mono hb.size)
            clear hb hb2
            go_wp2_with fail
            refine (live17_any _).mono ?_
            rintro e w3 ⟨rfl, rfl⟩
            go_wp2
            go_ret
            exact ⟨rfl, hbd⟩
          · have HD : Hid (decide (0 < k) = true) := Lib.hid (decide_eq_true (by omega))
            have hd2 : decide ((0 : Int) < k) = true := decide_eq_true (by omega)
            rw [hd2]
            clear hd2
            obtain ⟨T, hT⟩ : ∃ T, T = latk z k := ⟨_, rfl⟩
            rw [← hT]
            rw [← hT] at HVV
            clear hT
            cases hak : allk z k
            · have HK := Lib.hid hak
              clear hak
              go_wp2_with fail
              refine (HA.out _ hb).mono ?_
              rintro e w2 ⟨rfl, hb2⟩
              rw [HVV.out, HD.out, HK.out]
              have hbd := hb.trans (hb2.mono hb.size)
              clear hb hb2
              go_wp2_with fail
              refine (live17_any _).mono ?_
              rintro e w3 ⟨rfl, rfl⟩
              go_wp2
              go_ret
              exact ⟨rfl, hbd⟩
            · have HK := Lib.hid hak
              clear hak
              go_wp2_with fail
              refine (HA.out _ hb).mono ?_
              rintro e w2 ⟨rfl, hb2⟩
              rw [HVV.out, HD.out, HK.out]
              have hbd := hb.trans (hb2.mono hb.size)
              clear hb hb2
              go_wp2_with fail
              refine (live17_any _).mono ?_
              rintro e w3 ⟨rfl, rfl⟩
              go_wp2
              go_ret
              exact ⟨rfl, hbd⟩
    · have hk : nxk x = true := by rw [HN.out, hE, hE2]; rfl
      obtain ⟨hv, hw⟩ := HV.out hk
      rw [hk, hv]
      clear hk hv
      go_wp2
      go_loopw [7, 8, 9] (fun v7 v8 v9 wr => ∃ k : Nat, k ≤ n ∧ v9 = .int .i64 k ∧ v7 = .bool (decide ((0 : Int) < n) && allk z k) ∧ v8 = .int .u64 (latk z k) ∧ Below w.heap.size w wr) (fun _ _ v _ => n - (intOf v).toNat)
      case atStart => exact ⟨0, by omega, rfl, by simp [allk], rfl, Below.refl _ _⟩
      case round =>
        obtain ⟨k, hk, rfl, rfl, rfl, hb⟩ := hrel
        by_cases hlt : k < n
        · obtain ⟨g, o, rfl, hg, hc⟩ := HC.out (by omega)
          have c0 := hc wr hb k hlt
          have HCC := Lib.hid hc
          obtain ⟨T, hT⟩ : ∃ T, T = latk z k := ⟨_, rfl⟩
          have hTb := HLB.out k
          obtain ⟨x1, hx1⟩ : ∃ x, x = z.getD k 0 := ⟨_, rfl⟩
          have b0 := HB.out k hlt
          have hnx : latk z (k + 1) = max T x1 := by show max (latk z k) (z.getD k 0) = _; rw [hT, hx1]
          have hal : allk z (k + 1) = (allk z k && epk x1) := by show (allk z k && epk (z.getD k 0)) = _; rw [hx1]
          rw [← hx1] at c0 b0
          rw [← hT] at hTb ⊢
          have HNX2 := Lib.hid hnx
          have HAL := Lib.hid hal
          have e2 : (k : Int) < n := by omega
          have e4 : decide ((0 : Int) < n) = true := decide_eq_true (by omega)
          have e3 : IntKind.i64.wrap ((k : Int) + 1) = ((k + 1 : Nat) : Int) := IntWalk.i64_in _ (by omega)
          have HE4 := Lib.hid e4
          rw [e4, Bool.true_and]
          clear hc hT hx1 hnx hal e4
          cases hak : allk z k
          · rw [hak] at HAL
            go_wp2
            go_roundw
            case rel => exact ⟨k + 1, by omega, by go_num, by rw [HAL.out]; simp, by rw [HNX2.out], hb⟩
            case measure => simp [intOf]; omega
          · rw [hak] at HAL
            go_wp2_with fail
            refine (rright17_any _ b0 _).mono ?_
            rintro e w2 ⟨rfl, rfl⟩
            go_wp2
            go_roundw
            case rel => exact ⟨k + 1, by omega, by go_num, by rw [HAL.out]; simp, by rw [HNX2.out], hb⟩
            case measure => simp [intOf]; omega
        · obtain rfl : k = n := by omega
          by_cases hn0 : k = 0
          · subst hn0
            have HD : Hid (decide ((0 : Nat) < 0) = false) := Lib.hid rfl
            have HK : Hid (allk z 0 = true) := Lib.hid rfl
            rw [show latk z 0 = 0 from rfl, show allk z 0 = true from rfl]
            rw [show latk z 0 = 0 from rfl] at HVV
            go_wp2_with fail
            refine (HA.out _ hb).mono ?_
            rintro e w2 ⟨rfl, hb2⟩
            rw [HVV.out, HD.out, HK.out]
            have hbd := hb.trans (hb2.mono hb.size)
            clear hb hb2
            go_wp2_with fail
            refine (live17_any _).mono ?_
            rintro e w3 ⟨rfl, rfl⟩
            go_wp2
            go_ret
            exact ⟨rfl, hbd⟩
          · have HD : Hid (decide (0 < k) = true) := Lib.hid (decide_eq_true (by omega))
            have hd2 : decide ((0 : Int) < k) = true := decide_eq_true (by omega)
            rw [hd2]
            clear hd2
            obtain ⟨T, hT⟩ : ∃ T, T = latk z k := ⟨_, rfl⟩
            rw [← hT]
            rw [← hT] at HVV
            clear hT
            cases hak : allk z k
            · have HK := Lib.hid hak
              clear hak
              go_wp2_with fail
              refine (HA.out _ hb).mono ?_
              rintro e w2 ⟨rfl, hb2⟩
              rw [HVV.out, HD.out, HK.out]
              have hbd := hb.trans (hb2.mono hb.size)
              clear hb hb2
              go_wp2_with fail
              refine (live17_any _).mono ?_
              rintro e w3 ⟨rfl, rfl⟩
              go_wp2
              go_ret
              exact ⟨rfl, hbd⟩
            · have HK := Lib.hid hak
              clear hak
              go_wp2_with fail
              refine (HA.out _ hb).mono ?_
              rintro e w2 ⟨rfl, hb2⟩
              rw [HVV.out, HD.out, HK.out]
              have hbd := hb.trans (hb2.mono hb.size)
              clear hb hb2
              go_wp2_with fail
              refine (live17_any _).mono ?_
              rintro e w3 ⟨rfl, rfl⟩
              go_wp2
              go_ret
              exact ⟨rfl, hbd⟩

set_option maxRecDepth 100000 in
theorem lifted (os : Os) (started : os.Started) (H : Type) (enc : TypeId × Value → H) :
    ReturnsInHanded {} Try.checked os 5 .any (Rows.epochNextSpec.pre6 enc Try.prog Try.f5 Rows.epochNextRow.domain false) (Rows.epochNextSpec.post enc Try.prog Try.f5 false true false false) := by
  refine returnsInHanded_of_change (C := Try.checked) own started (by kernel_rfl) Try.func5
    (ChangeSpec.witness6 (enc := enc) (C := Try.checked) false ⟨#[], #[.int .u64 0, .slice none 0 0], []⟩ 8 (by kernel_rfl) (by kernel_rfl) (by kernel_rfl) (by kernel_rfl)) ?_
  intro W base args ds gs before hval0 hW hcnd _
  have hval : ∀ (j : Nat) t v, Try.f5.params[j]? = some t → args[j]? = some v → Value.okWide Try.prog W .any base t v := hval0
  have hW' := hW
  obtain ⟨p, q, hA0, hV, rfl, hfz, hnd⟩ := hW
  have hA : DataW.TrodAll enc Try.prog W 0 (fun _ => true) true Try.f5.params.toList args.toList ds p := hA0
  rw [Try.params5] at hA hval
  obtain ⟨v0, vs0, d0, ds0, p0, q0, hargs, rfl, rfl, h0, r0⟩ := trodAll_cons hA
  obtain ⟨v1, vs1, d1, ds1, p1, q1, rfl, rfl, rfl, h1, r1⟩ := trodAll_cons r0
  obtain ⟨rfl, rfl, rfl⟩ := trodAll_nil r1
  obtain rfl : args = #[v0, v1] := by cases args; simp_all
  obtain ⟨rfl, rfl⟩ := trodVars_none hV
  have lt0 : ∀ x ∈ p0, x.block < W.heap.size := by obtain ⟨m, hm⟩ := h0; exact DataW.trod_lt m _ _ _ hm
  have lt1 : ∀ x ∈ p1, x.block < W.heap.size := by obtain ⟨m, hm⟩ := h1; exact DataW.trod_lt m _ _ _ hm
  clear hA0 hval0
  refine (walk enc W base v0 d0 p0 (hval 0 22 v0 rfl rfl) h0 v1 d1 p1 (hval 1 46 v1 rfl rfl) h1).mono fun e W' ⟨he, bel⟩ => ?_
  subst he
  exact ⟨_, rfl, _, _, _, [], _, [], hW', trodAll_mk1 (shut_bool Try.underlying4 _), (trodAll_cons_mk (Below.trod laidOut (by kernel_rfl) (of_decide_eq_true (by kernel_rfl)) h0 bel lt0) (trodAll_cons_mk (Below.trod laidOut (by kernel_rfl) (of_decide_eq_true (by kernel_rfl)) h1 bel lt1) trodAll_mk0)), rfl, bel.frame _, fun h => by cases h⟩

theorem over : Rows.epochNextRow.holds Try.pinned (OpenSpec.ofChange Rows.epochNextSpec) :=
  OpenClaim.holds_of_wide 5 Try.f5 rfl rfl rfl rfl rfl rfl rfl ⟨rfl, rfl, rfl, rfl, rfl⟩ rfl rfl rfl rfl rfl (by kernel_rfl) Try.func5 (by kernel_rfl)
    (of_decide_eq_true (by kernel_rfl)) (by unfold Func.isWrapper; first | (rw [if_pos (by decide +kernel)]; kernel_rfl) | (rw [if_neg (by decide +kernel)]; exact ⟨rfl, rfl⟩))
    (fun os started H enc _ => lifted os started H enc)

/-- THE STATEMENT. -/
theorem proved : Rows.EpochNextSaid := over
#print axioms proved
end Go.Proofs.Ytpilpkhgoonfaaa.epochNext
