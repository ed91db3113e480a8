/- DeltaTells: called with any number and any two lists of numbers, the law returns true; no condition. -/
import Derived.Test.YtjcoabgcacaceaaRows
import Derived.Test.YtjcoabgcacaceaaDltL
import Derived.Test.YtjcoabgcacaceaaDltB
import Derived.ProofKit
import Derived.OpenShut
import Derived.ShutString
import Derived.ChangeOld
namespace Go.Proofs.Ytjcoabgcacaceaa.deltaTells
open Go.ChangeShapes Go.WideShapes Go.ChangeAt Go.RowKit
open Go.ChangeMaps (open_string shut_string)
set_option linter.unusedVariables false

theorem own : ownKnob Try.prog.godebug = none := by kernel_rfl
theorem laidOut : laidOutB Try.prog = true := by kernel_rfl
open Cur Mem
set_option maxRecDepth 100000

/-- The loop over steps that lead below 0 somewhere: how far the sum went. -/
def Ovr (b : Int) (s : List Int) (k : Nat) (sum over : Value) : Prop :=
  (over = .bool false ∧ sum = .int .u64 (b - bel b (unl b s) k) ∧ ∀ j, j < k → s.getD j 0 < bel b (unl b s) j) ∨ (over = .bool true ∧ ∃ x, sum = .int .u64 x)

theorem bel_le {b : Int} {s : List Int} (hs : ∀ x ∈ s, 0 ≤ x) : ∀ (k : Nat), k ≤ s.length → bel b (unl b s) k ≤ b
  | 0, _ => Int.le_refl _
  | k + 1, hk => by
    have ih := bel_le (b := b) hs k (by omega)
    have h3 := hs _ (getD_mem (z := s) (k := k) (by omega))
    rw [bel_succ, unl_getD s b k (by omega)]
    omega


set_option maxHeartbeats 8000000 in
theorem walk {H : Type} (enc : TypeId × Value → H) (w : World) (base : Nat) (v0 : Value) (d0 : DataW H) (p0 : List MemPlace) (g0 : Value.okWide Try.prog w .any base 22 v0) (h0 : DataW.Trod enc Try.prog w 0 (fun _ => true) true 22 v0 d0 p0) (v1 : Value) (d1 : DataW H) (p1 : List MemPlace) (g1 : Value.okWide Try.prog w .any base 23 v1) (h1 : DataW.Trod enc Try.prog w 0 (fun _ => true) true 23 v1 d1 p1) (v2 : Value) (d2 : DataW H) (p2 : List MemPlace) (g2 : Value.okWide Try.prog w .any base 23 v2) (h2 : DataW.Trod enc Try.prog w 0 (fun _ => true) true 23 v2 d2 p2) :
    Calls Try.prog 3 #[v0, v1, v2] w fun e w' => e = .returned (.bool true) ∧ Below w.heap.size w w' := by
  obtain ⟨b, rfl, b0, b1⟩ := open_u64 g0 h0
  obtain ⟨A, n, m, z, rfl, hnm, hz, hby, hnil⟩ := open_u64s g1 h1
  obtain ⟨B, k2, c2, s, rfl, hkc, hz2, hby2, hnil2⟩ := open_u64s g2 h2
  clear g0 h0 g1 h1 g2 h2
  have hbd := Below.refl w.heap.size w
  have HZ := Lib.hid hz
  have HZ2 := Lib.hid hz2
  have HBY := Lib.hid hby
  have HBY2 := Lib.hid hby2
  clear hz hz2 hby hby2
  by_cases hn : 200 < (n : Int)
  · go_enter Try.func3, Try.ntmps3
    go_wp2_with fail
    refine (live22_any _).mono ?_
    rintro e wl ⟨rfl, hbl⟩
    replace hbd := hbd.trans (hbl.mono hbd.size)
    go_wp2
    go_ret
    exact ⟨rfl, hbd⟩
  by_cases hn2 : 200 < (k2 : Int)
  · go_enter Try.func3, Try.ntmps3
    go_wp2_with fail
    refine (live22_any _).mono ?_
    rintro e wl ⟨rfl, hbl⟩
    replace hbd := hbd.trans (hbl.mono hbd.size)
    go_wp2
    go_ret
    exact ⟨rfl, hbd⟩
  have HST := steps_any A n m b z
  cases hf : flb b z
  case false =>
    have HF := Lib.hid hf
    have HS1 := fun w' (h : Below w.heap.size w w') => steps_any A n m b z w' (HZ.out.below h) (by omega) HBY.out b0 b1
    simp only [hf, difo_no hf] at HS1
    clear hf HST
    go_enter Try.func3, Try.ntmps3
    go_wp2_with fail
    refine (rdfalls_any A n m b z _ HZ.out (by omega) HBY.out b0 b1).mono ?_
    rintro e w1 ⟨rfl, hb1⟩
    rw [HF.out]
    replace hbd := hbd.trans (hb1.mono hbd.size)
    clear hb1
    go_wp2_with fail
    refine (HS1 _ hbd).mono ?_
    rintro e w2 ⟨v2, rfl, ho2, hb2⟩
    replace hbd := hbd.trans (hb2.mono hbd.size)
    obtain ⟨A2, c2', rfl⟩ := ho2.slice
    clear hb2 ho2 HS1
    go_wp2_with fail
    refine (dfalls_any A n m b z _ (HZ.out.below hbd) (by omega) HBY.out b0 b1).mono ?_
    rintro e w3 ⟨rfl, hb3⟩
    rw [HF.out]
    replace hbd := hbd.trans (hb3.mono hbd.size)
    clear hb3
    have HLI := dlist_any B k2 c2 b s _ (HZ2.out.below hbd) (by omega) HBY2.out b0 b1
    go_wp2_with fail
    refine HLI.mono ?_
    rintro e w6 ⟨v6, rfl, ho6, hb6⟩
    replace hbd := hbd.trans (hb6.mono hbd.size)
    clear HLI hb6
    cases hu : uok b s
    case true =>
      rw [unlo_yes hu] at ho6
      have HUB := Lib.hid (unl_bd s b hu b1 (fun x hx => (HBY2.out x hx).1))
      have HFU := Lib.hid (flb_unl s b (fun x hx => (HBY2.out x hx).1))
      have HDU := Lib.hid (dif_unl s b)
      obtain ⟨A6, c6, hv⟩ := ho6.slice
      have hul : (unl b s).length = k2 := by rw [unl_len, HZ2.out.1]
      rw [hul] at hv
      subst hv
      have hu6 := (OwnU.us ho6).2.2.2
      clear ho6 hu
      go_wp2_with fail
      refine (rdfalls_any A6 k2 c6 b (unl b s) _ hu6 (by omega) HUB.out b0 b1).mono ?_
      rintro e w7 ⟨rfl, hb7⟩
      rw [HFU.out]
      replace hu6 := hu6.below hb7
      replace hbd := hbd.trans (hb7.mono hbd.size)
      clear hb7
      go_wp2_with fail
      refine (rdsteps_any A6 k2 c6 b (unl b s) _ hu6 (by omega) HUB.out b0 b1 HFU.out).mono ?_
      rintro e w8 ⟨v8, rfl, ho8, hb8⟩
      rw [HDU.out] at ho8
      replace hbd := hbd.trans (hb8.mono hbd.size)
      obtain ⟨A8, c8, rfl⟩ := ho8.slice
      have hu8 := (OwnU.us ho8).2.2.2
      clear ho8 hb8 hu6
      go_wp2_with fail
      refine (same5_any _ _ _ _ _ _ s _ hu8 (HZ2.out.below hbd) (by rw [HZ2.out.1]; omega) HBY2.out).mono ?_
      rintro e w9 ⟨rfl, hb9⟩
      replace hbd := hbd.trans (hb9.mono hbd.size)
      clear hb9 hu8
      go_wp2_with fail
      refine (live22_any _).mono ?_
      rintro e wl ⟨rfl, hbl⟩
      replace hbd := hbd.trans (hbl.mono hbd.size)
      go_wp2
      go_ret
      exact ⟨rfl, hbd⟩
    case false =>
      have HN := Lib.hid (uok_iff s b)
      have HNO := Lib.hid hu
      rw [unlo_no hu] at ho6
      obtain ⟨A6, c6, rfl⟩ := ho6.slice
      clear ho6 hu
      go_wp2
      go_loopw [12, 13, 14] (fun u v i wr => ∃ k : Nat, k ≤ k2 ∧ i = .int .i64 k ∧ Hid (Ovr b s k u v) ∧ (v = .bool true ∨ v = .bool false) ∧ Below w.heap.size w wr) (fun _ _ i _ => k2 - (intOf i).toNat)
      case atStart => exact ⟨0, by omega, rfl, Lib.hid (.inl ⟨rfl, by rw [bel_zero, Int.sub_self], by intro j hj; omega⟩), .inr rfl, hbd⟩
      case round =>
        clear hbd
        obtain ⟨k, hk, rfl, HO, hv, hbd⟩ := hrel
        rcases hv with rfl | rfl
        · by_cases hlt : k < k2
          · have d1 : decide (k < k2) = true := by simpa using hlt
            go_wp2_with fail
            refine (live22_any _).mono ?_
            rintro e wl ⟨rfl, hbl⟩
            replace hbd := hbd.trans (hbl.mono hbd.size)
            go_wp2
            go_ret
            exact ⟨rfl, hbd⟩
          · have d1 : decide (k < k2) = false := by simpa using hlt
            go_wp2_with fail
            refine (live22_any _).mono ?_
            rintro e wl ⟨rfl, hbl⟩
            replace hbd := hbd.trans (hbl.mono hbd.size)
            go_wp2
            go_ret
            exact ⟨rfl, hbd⟩
        · obtain ⟨_, hu, hj⟩ | ⟨hv, _⟩ := HO.out
          case inr => cases hv
          subst hu
          by_cases hlt : k < k2
          · have hx := HBY2.out _ (getD_mem (z := s) (k := k) (by rw [HZ2.out.1]; exact hlt))
            have hy := bel_unl_bd b0 b1 (fun x hx => (HBY2.out x hx).1) k (by rw [HZ2.out.1]; omega) hj
            have hst : bel b (unl b s) (k + 1) = bel b (unl b s) k - s.getD k 0 - 1 := unl_getD s b k (by rw [HZ2.out.1]; exact hlt)
            obtain ⟨g, o, hB2, hc⟩ := (HZ2.out.below hbd).at_ hlt
            subst hB2
            obtain ⟨x, hxe⟩ : ∃ x, x = s.getD k 0 := ⟨_, rfl⟩
            obtain ⟨y, hye⟩ : ∃ y, y = bel b (unl b s) k := ⟨_, rfl⟩
            rw [← hxe] at hx hc hst
            rw [← hye] at hy hst ⊢
            have HX := Lib.hid hxe
            have HY := Lib.hid hye
            have HST := Lib.hid hst
            have HJ := Lib.hid hj
            clear HO hxe hye hst hj
            have hyb : y ≤ b := by rw [HY.out]; exact bel_le (fun x hx => (HBY2.out x hx).1) k (by rw [HZ2.out.1]; omega)
            have e3 : IntKind.i64.wrap ((k : Int) + 1) = ((k + 1 : Nat) : Int) := IntWalk.i64_in _ (by omega)
            have e4 : IntKind.u64.wrap (b - (b - y)) = y := by rw [wrapu]; omega
            by_cases hle : x < y
            · have d1 : decide (y ≤ x) = false := by simp; omega
              have e5 : IntKind.u64.wrap (b - y + x) = b - y + x := by rw [wrapu]; omega
              have e6 : IntKind.u64.wrap (b - y + x + 1) = b - y + x + 1 := by rw [wrapu]; omega
              go_wp2
              go_roundw
              case rel => exact ⟨k + 1, hlt, by go_num, Lib.hid (.inl ⟨rfl, by rw [HST.out]; congr 1; omega, fun j hjk => by
                rcases Nat.lt_or_ge j k with h | h
                · exact HJ.out j h
                · obtain rfl : j = k := by omega
                  rw [← HX.out, ← HY.out]; exact hle⟩), .inr rfl, hbd⟩
              case measure => simp [intOf]; omega
            · have d1 : decide (y ≤ x) = true := by simp; omega
              go_wp2
              go_roundw
              case rel => exact ⟨k + 1, hlt, by go_num, Lib.hid (.inr ⟨rfl, _, rfl⟩), .inl rfl, hbd⟩
              case measure => simp [intOf]; omega
          · exfalso
            have : uok b s = true := HN.out.2 (fun j hj2 => hj j (by rw [HZ2.out.1] at hj2; omega))
            rw [HNO.out] at this
            cases this
  case true =>
    have HF := Lib.hid hf
    have HS1 := fun w' (h : Below w.heap.size w w') => steps_any A n m b z w' (HZ.out.below h) (by omega) HBY.out b0 b1
    simp only [hf, difo_yes hf] at HS1
    have HDB := Lib.hid (dif_bd z b hf b1 (fun x hx => (HBY.out x hx).1))
    have HDL : Hid ((dif b z).length = n) := Lib.hid (by rw [dif_len, HZ.out.1])
    clear hf HST
    go_enter Try.func3, Try.ntmps3
    go_wp2_with fail
    refine (rdfalls_any A n m b z _ HZ.out (by omega) HBY.out b0 b1).mono ?_
    rintro e w1 ⟨rfl, hb1⟩
    rw [HF.out]
    replace hbd := hbd.trans (hb1.mono hbd.size)
    clear hb1
    go_wp2_with fail
    refine (HS1 _ hbd).mono ?_
    rintro e w2 ⟨v2, rfl, ho2, hb2⟩
    replace hbd := hbd.trans (hb2.mono hbd.size)
    obtain ⟨A2, c2', hv⟩ := ho2.slice
    rw [HDL.out] at hv
    subst hv
    have hu2 := (OwnU.us ho2).2.2.2
    clear hb2 ho2 HS1
    go_wp2_with fail
    refine (dfalls_any A n m b z _ (HZ.out.below hbd) (by omega) HBY.out b0 b1).mono ?_
    rintro e w3 ⟨rfl, hb3⟩
    rw [HF.out]
    replace hbd := hbd.trans (hb3.mono hbd.size)
    replace hu2 := hu2.below hb3
    clear hb3
    go_wp2_with fail
    refine (rdsteps_any A n m b z _ (HZ.out.below hbd) (by omega) HBY.out b0 b1 HF.out).mono ?_
    rintro e w4 ⟨v4, rfl, ho4, hb4⟩
    replace hbd := hbd.trans (hb4.mono hbd.size)
    replace hu2 := hu2.below hb4
    obtain ⟨A4, c4, rfl⟩ := ho4.slice
    have hu4 := (OwnU.us ho4).2.2.2
    clear hb4 ho4
    go_wp2_with fail
    refine (same5_any _ _ _ _ _ _ (dif b z) _ hu2 hu4 (by omega) HDB.out).mono ?_
    rintro e w5 ⟨rfl, hb5⟩
    replace hbd := hbd.trans (hb5.mono hbd.size)
    clear hb5 hu2 hu4
    have HLI := dlist_any B k2 c2 b s _ (HZ2.out.below hbd) (by omega) HBY2.out b0 b1
    go_wp2_with fail
    refine HLI.mono ?_
    rintro e w6 ⟨v6, rfl, ho6, hb6⟩
    replace hbd := hbd.trans (hb6.mono hbd.size)
    clear HLI hb6
    cases hu : uok b s
    case true =>
      rw [unlo_yes hu] at ho6
      have HUB := Lib.hid (unl_bd s b hu b1 (fun x hx => (HBY2.out x hx).1))
      have HFU := Lib.hid (flb_unl s b (fun x hx => (HBY2.out x hx).1))
      have HDU := Lib.hid (dif_unl s b)
      obtain ⟨A6, c6, hv⟩ := ho6.slice
      have hul : (unl b s).length = k2 := by rw [unl_len, HZ2.out.1]
      rw [hul] at hv
      subst hv
      have hu6 := (OwnU.us ho6).2.2.2
      clear ho6 hu
      go_wp2_with fail
      refine (rdfalls_any A6 k2 c6 b (unl b s) _ hu6 (by omega) HUB.out b0 b1).mono ?_
      rintro e w7 ⟨rfl, hb7⟩
      rw [HFU.out]
      replace hu6 := hu6.below hb7
      replace hbd := hbd.trans (hb7.mono hbd.size)
      clear hb7
      go_wp2_with fail
      refine (rdsteps_any A6 k2 c6 b (unl b s) _ hu6 (by omega) HUB.out b0 b1 HFU.out).mono ?_
      rintro e w8 ⟨v8, rfl, ho8, hb8⟩
      rw [HDU.out] at ho8
      replace hbd := hbd.trans (hb8.mono hbd.size)
      obtain ⟨A8, c8, rfl⟩ := ho8.slice
      have hu8 := (OwnU.us ho8).2.2.2
      clear ho8 hb8 hu6
      go_wp2_with fail
      refine (same5_any _ _ _ _ _ _ s _ hu8 (HZ2.out.below hbd) (by rw [HZ2.out.1]; omega) HBY2.out).mono ?_
      rintro e w9 ⟨rfl, hb9⟩
      replace hbd := hbd.trans (hb9.mono hbd.size)
      clear hb9 hu8
      go_wp2_with fail
      refine (live22_any _).mono ?_
      rintro e wl ⟨rfl, hbl⟩
      replace hbd := hbd.trans (hbl.mono hbd.size)
      go_wp2
      go_ret
      exact ⟨rfl, hbd⟩
    case false =>
      have HN := Lib.hid (uok_iff s b)
      have HNO := Lib.hid hu
      rw [unlo_no hu] at ho6
      obtain ⟨A6, c6, rfl⟩ := ho6.slice
      clear ho6 hu
      go_wp2
      go_loopw [12, 13, 14] (fun u v i wr => ∃ k : Nat, k ≤ k2 ∧ i = .int .i64 k ∧ Hid (Ovr b s k u v) ∧ (v = .bool true ∨ v = .bool false) ∧ Below w.heap.size w wr) (fun _ _ i _ => k2 - (intOf i).toNat)
      case atStart => exact ⟨0, by omega, rfl, Lib.hid (.inl ⟨rfl, by rw [bel_zero, Int.sub_self], by intro j hj; omega⟩), .inr rfl, hbd⟩
      case round =>
        clear hbd
        obtain ⟨k, hk, rfl, HO, hv, hbd⟩ := hrel
        rcases hv with rfl | rfl
        · by_cases hlt : k < k2
          · have d1 : decide (k < k2) = true := by simpa using hlt
            go_wp2_with fail
            refine (live22_any _).mono ?_
            rintro e wl ⟨rfl, hbl⟩
            replace hbd := hbd.trans (hbl.mono hbd.size)
            go_wp2
            go_ret
            exact ⟨rfl, hbd⟩
          · have d1 : decide (k < k2) = false := by simpa using hlt
            go_wp2_with fail
            refine (live22_any _).mono ?_
            rintro e wl ⟨rfl, hbl⟩
            replace hbd := hbd.trans (hbl.mono hbd.size)
            go_wp2
            go_ret
            exact ⟨rfl, hbd⟩
        · obtain ⟨_, hu, hj⟩ | ⟨hv, _⟩ := HO.out
          case inr => cases hv
          subst hu
          by_cases hlt : k < k2
          · have hx := HBY2.out _ (getD_mem (z := s) (k := k) (by rw [HZ2.out.1]; exact hlt))
            have hy := bel_unl_bd b0 b1 (fun x hx => (HBY2.out x hx).1) k (by rw [HZ2.out.1]; omega) hj
            have hst : bel b (unl b s) (k + 1) = bel b (unl b s) k - s.getD k 0 - 1 := unl_getD s b k (by rw [HZ2.out.1]; exact hlt)
            obtain ⟨g, o, hB2, hc⟩ := (HZ2.out.below hbd).at_ hlt
            subst hB2
            obtain ⟨x, hxe⟩ : ∃ x, x = s.getD k 0 := ⟨_, rfl⟩
            obtain ⟨y, hye⟩ : ∃ y, y = bel b (unl b s) k := ⟨_, rfl⟩
            rw [← hxe] at hx hc hst
            rw [← hye] at hy hst ⊢
            have HX := Lib.hid hxe
            have HY := Lib.hid hye
            have HST := Lib.hid hst
            have HJ := Lib.hid hj
            clear HO hxe hye hst hj
            have hyb : y ≤ b := by rw [HY.out]; exact bel_le (fun x hx => (HBY2.out x hx).1) k (by rw [HZ2.out.1]; omega)
            have e3 : IntKind.i64.wrap ((k : Int) + 1) = ((k + 1 : Nat) : Int) := IntWalk.i64_in _ (by omega)
            have e4 : IntKind.u64.wrap (b - (b - y)) = y := by rw [wrapu]; omega
            by_cases hle : x < y
            · have d1 : decide (y ≤ x) = false := by simp; omega
              have e5 : IntKind.u64.wrap (b - y + x) = b - y + x := by rw [wrapu]; omega
              have e6 : IntKind.u64.wrap (b - y + x + 1) = b - y + x + 1 := by rw [wrapu]; omega
              go_wp2
              go_roundw
              case rel => exact ⟨k + 1, hlt, by go_num, Lib.hid (.inl ⟨rfl, by rw [HST.out]; congr 1; omega, fun j hjk => by
                rcases Nat.lt_or_ge j k with h | h
                · exact HJ.out j h
                · obtain rfl : j = k := by omega
                  rw [← HX.out, ← HY.out]; exact hle⟩), .inr rfl, hbd⟩
              case measure => simp [intOf]; omega
            · have d1 : decide (y ≤ x) = true := by simp; omega
              go_wp2
              go_roundw
              case rel => exact ⟨k + 1, hlt, by go_num, Lib.hid (.inr ⟨rfl, _, rfl⟩), .inl rfl, hbd⟩
              case measure => simp [intOf]; omega
          · exfalso
            have : uok b s = true := HN.out.2 (fun j hj2 => hj j (by rw [HZ2.out.1] at hj2; omega))
            rw [HNO.out] at this
            cases this

set_option maxRecDepth 100000 in
theorem lifted (os : Os) (started : os.Started) (H : Type) (enc : TypeId × Value → H) :
    ReturnsInHanded {} Try.checked os 3 .any (Rows.deltaTellsSpec.pre6 enc Try.prog Try.f3 Rows.deltaTellsRow.domain false) (Rows.deltaTellsSpec.post enc Try.prog Try.f3 false true false false) := by
  refine returnsInHanded_of_change (C := Try.checked) own started (by kernel_rfl) Try.func3
    (ChangeSpec.witness6 (enc := enc) (C := Try.checked) false ⟨#[], #[.int .u64 0, .slice none 0 0, .slice none 0 0], []⟩ 8 (by kernel_rfl) (by kernel_rfl) (by kernel_rfl) (by kernel_rfl)) ?_
  intro W base args ds gs before hval0 hW hcnd _
  have hval : ∀ (j : Nat) t v, Try.f3.params[j]? = some t → args[j]? = some v → Value.okWide Try.prog W .any base t v := hval0
  have hW' := hW
  obtain ⟨p, q, hA0, hV, rfl, hfz, hnd⟩ := hW
  have hA : DataW.TrodAll enc Try.prog W 0 (fun _ => true) true Try.f3.params.toList args.toList ds p := hA0
  rw [Try.params3] at hA hval
  obtain ⟨v0, vs0, d0, ds0, p0, q0, hargs, rfl, rfl, h0, r0⟩ := trodAll_cons hA
  obtain ⟨v1, vs1, d1, ds1, p1, q1, rfl, rfl, rfl, h1, r1⟩ := trodAll_cons r0
  obtain ⟨v2, vs2, d2, ds2, p2, q2, rfl, rfl, rfl, h2, r2⟩ := trodAll_cons r1
  obtain ⟨rfl, rfl, rfl⟩ := trodAll_nil r2
  obtain rfl : args = #[v0, v1, v2] := by cases args; simp_all
  obtain ⟨rfl, rfl⟩ := trodVars_none hV
  have lt0 : ∀ x ∈ p0, x.block < W.heap.size := by obtain ⟨m, hm⟩ := h0; exact DataW.trod_lt m _ _ _ hm
  have lt1 : ∀ x ∈ p1, x.block < W.heap.size := by obtain ⟨m, hm⟩ := h1; exact DataW.trod_lt m _ _ _ hm
  have lt2 : ∀ x ∈ p2, x.block < W.heap.size := by obtain ⟨m, hm⟩ := h2; exact DataW.trod_lt m _ _ _ hm
  clear hA0 hval0
  refine (walk enc W base v0 d0 p0 (hval 0 22 v0 rfl rfl) h0 v1 d1 p1 (hval 1 23 v1 rfl rfl) h1 v2 d2 p2 (hval 2 23 v2 rfl rfl) h2).mono fun e W' ⟨he, bel⟩ => ?_
  subst he
  exact ⟨_, rfl, _, _, _, [], _, [], hW', trodAll_mk1 (shut_bool Try.underlying4 _), (trodAll_cons_mk (Below.trod laidOut (by kernel_rfl) (of_decide_eq_true (by kernel_rfl)) h0 bel lt0) (trodAll_cons_mk (Below.trod laidOut (by kernel_rfl) (of_decide_eq_true (by kernel_rfl)) h1 bel lt1) (trodAll_cons_mk (Below.trod laidOut (by kernel_rfl) (of_decide_eq_true (by kernel_rfl)) h2 bel lt2) trodAll_mk0))), rfl, bel.frame _, fun h => by cases h⟩

theorem over : Rows.deltaTellsRow.holds Try.pinned (OpenSpec.ofChange Rows.deltaTellsSpec) :=
  OpenClaim.holds_of_wide 3 Try.f3 rfl rfl rfl rfl rfl rfl rfl ⟨rfl, rfl, rfl, rfl, rfl⟩ rfl rfl rfl rfl rfl (by kernel_rfl) Try.func3 (by kernel_rfl)
    (of_decide_eq_true (by kernel_rfl)) (by unfold Func.isWrapper; first | (rw [if_pos (by decide +kernel)]; kernel_rfl) | (rw [if_neg (by decide +kernel)]; exact ⟨rfl, rfl⟩))
    (fun os started H enc _ => lifted os started H enc)

/-- THE STATEMENT. -/
theorem proved : Rows.DeltaTellsSaid := over
#print axioms proved
end Go.Proofs.Ytjcoabgcacaceaa.deltaTells
