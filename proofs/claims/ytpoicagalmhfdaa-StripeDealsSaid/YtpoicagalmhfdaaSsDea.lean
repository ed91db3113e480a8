/- StripeDeals: called with any stripe, any position and any set, the law returns true; no condition. -/
import Derived.Test.YtpoicagalmhfdaaRows
import Derived.Test.YtpoicagalmhfdaaStpV
import Derived.Test.YtpoicagalmhfdaaStpE
import Derived.Test.YtpoicagalmhfdaaK1
import Derived.ProofKit
import Derived.OpenShut
import Derived.ShutString
import Derived.ChangeOld
namespace Go.Proofs.Ytpoicagalmhfdaa.stripeDeals
open Go.ChangeShapes Go.WideShapes Go.ChangeAt Go.RowKit
open Go.ChangeMaps (open_string shut_string)
set_option linter.unusedVariables false

theorem own : ownKnob Try.prog.godebug = none := by kernel_rfl
theorem laidOut : laidOutB Try.prog = true := by kernel_rfl
open Cur Mem

set_option maxRecDepth 100000

-- regions 15 to 22: is there such a position?

set_option maxHeartbeats 16000000 in
theorem walk {H : Type} (enc : TypeId × Value → H) (w : World) (base : Nat) (v0 : Value) (d0 : DataW H) (p0 : List MemPlace) (g0 : Value.okWide Try.prog w .any base 25 v0) (h0 : DataW.Trod enc Try.prog w 0 (fun _ => true) true 25 v0 d0 p0) (v1 : Value) (d1 : DataW H) (p1 : List MemPlace) (g1 : Value.okWide Try.prog w .any base 22 v1) (h1 : DataW.Trod enc Try.prog w 0 (fun _ => true) true 22 v1 d1 p1) (v2 : Value) (d2 : DataW H) (p2 : List MemPlace) (g2 : Value.okWide Try.prog w .any base 3 v2) (h2 : DataW.Trod enc Try.prog w 0 (fun _ => true) true 3 v2 d2 p2) :
    Calls Try.prog 5 #[v0, v1, v2] w fun e w' => e = .returned (.bool true) ∧ Below w.heap.size w w' := by
  obtain ⟨f, t, A, n, m, S, rfl, ⟨f0, f1⟩, ⟨t0, t1⟩, hm, hnil, hz⟩ := open_stripe g0 h0
  obtain ⟨p, rfl, p0, p1⟩ := open_u64 g1 h1
  obtain ⟨x, rfl, _, _, hxw⟩ := open_int Try.underlying3 g2 h2
  obtain ⟨xa, xb'⟩ := bounds_i64 hxw
  have xb : x < 9223372036854775808 := by omega
  clear g0 h0 g1 h1 g2 h2 hxw xb'
  have hX := Blk.new w (stc f t A n m) 25
  have hbd := below_one w (.cells (stc f t A n m) 25)
  have HZ := Lib.hid hz
  have HL := Lib.hid hz.1
  have HM := Lib.hid hm
  clear hz hm hnil
  obtain ⟨x0, x1, x2⟩ := hX.c3
  go_enter Try.func5, Try.ntmps5
  go_wp2_with fail
  generalize w.alloc (.cells (stc f t A n m) 25) = w0 at *
  refine (long19_any _ f t A n m S _ (HZ.out.below hbd)).mono ?_
  rintro e w1 ⟨b1, rfl, hb1, hl1⟩
  replace hX := hX.below hb1
  replace hbd := hbd.trans (hb1.mono hbd.size)
  clear hb1 x0 x1 x2
  obtain ⟨x0, x1, x2⟩ := hX.c3
  cases b1
  case true =>
    clear hl1 hX x0 x1 x2
    go_wp2_with fail
    refine (live19_any _).mono ?_
    rintro e wl ⟨rfl, hbl⟩
    replace hbd := hbd.trans (hbl.mono hbd.size)
    clear hbl
    go_wp2
    go_ret
    exact ⟨rfl, hbd⟩
  obtain ⟨hn20, hl20⟩ := hl1 rfl
  have HLN : Hid (∀ l ∈ S, l.length ≤ 1000000) := Lib.hid fun l hl => by have := hl20 l hl; omega
  clear hl1 hl20
  have hdcon := fun w' (h : Below w.heap.size w w') => dealt_any _ f t A n m S p w' (HZ.out.below h) HM.out (by omega) HLN.out f0 p0 p1
  have hbcon := fun w' (h : Below w.heap.size w w') => back_any _ f t A n m S x p w' (HZ.out.below h) HM.out (by omega) HLN.out f0 xa xb p0 p1
  unfold BPost at hdcon hbcon
  cases hok : stok (f, t, S)
  · -- not valid
    have HOK := Lib.hid hok
    rw [show dlv (f, t, S) p = .tuple #[.int .i64 0, .int .u64 0, .bool false] from dlv_no fun h => by rw [hok] at h; cases h.1] at hdcon
    rw [show bkv (f, t, S) x p = .tuple #[.int .u64 0, .bool false] from bkv_no (by rw [shv_bad hok]; omega)] at hbcon
    have hsh : shv (f, t, S) x = 0 := shv_bad hok
    have HSH := Lib.hid hsh
    clear hok hsh
    go_wp2_with fail
    refine (hdcon _ hbd).mono ?_
    rintro e w2 ⟨rfl, hb2⟩
    replace hX := hX.below hb2
    replace hbd := hbd.trans (hb2.mono hbd.size)
    clear hb2 x0 x1 x2
    obtain ⟨x0, x1, x2⟩ := hX.c3
    go_wp2_with fail
    refine (hbcon _ hbd).mono ?_
    rintro e w3 ⟨rfl, hb3⟩
    replace hX := hX.below hb3
    replace hbd := hbd.trans (hb3.mono hbd.size)
    clear hb3 x0 x1 x2
    obtain ⟨x0, x1, x2⟩ := hX.c3
    clear hdcon hbcon
    go_wp2_with fail
    refine (rright19_any _ f t A n m S _ (HZ.out.below hbd) HM.out (by omega) HLN.out).mono ?_
    rintro e w4 ⟨rfl, hb4⟩
    rw [HOK.out]
    replace hX := hX.below hb4
    replace hbd := hbd.trans (hb4.mono hbd.size)
    clear hb4 x0 x1 x2
    obtain ⟨x0, x1, x2⟩ := hX.c3
    go_wp2_with fail
    refine (share_any _ f t A n m S x _ (HZ.out.below hbd) HM.out (by omega) HLN.out f0 xa xb).mono ?_
    rintro e w5 ⟨rfl, hb5⟩
    rw [HSH.out]
    replace hX := hX.below hb5
    replace hbd := hbd.trans (hb5.mono hbd.size)
    clear hb5 x0 x1 x2
    obtain ⟨x0, x1, x2⟩ := hX.c3
    go_wp2_with fail
    refine (nodes_no _ f t A n m S _ (HZ.out.below hbd) HM.out (by omega) HLN.out HOK.out).mono ?_
    rintro e w6 ⟨rfl, hb6⟩
    replace hbd := hbd.trans (hb6.mono hbd.size)
    clear hb6 hX x0 x1 x2
    go_wp2_with fail
    refine (live19_any _).mono ?_
    rintro e wl ⟨rfl, hbl⟩
    replace hbd := hbd.trans (hbl.mono hbd.size)
    clear hbl
    go_wp2
    go_ret
    exact ⟨rfl, hbd⟩
  -- valid
  have HOK := Lib.hid hok
  obtain ⟨k1, k2, k3, k4, _⟩ := stok_parts hok
  replace k1 : f < t := k1
  replace k2 : t ≤ 4611686018427387904 := k2
  replace k3 : 1 ≤ n := by rw [← HL.out]; exact k3
  replace k4 : n ≤ 8 := by rw [← HL.out]; exact k4
  have HPB := Lib.hid (fun (h : p < shv (f, t, S) x) => shv_pos h p0)
  have HBY := Lib.hid (fun (h : p < shv (f, t, S) x) => deal_bk h p0)
  have hyb := shv_bd (f, t, S) x f0 t1
  have HSN := Lib.hid (fun (h : ¬ (0 ≤ x ∧ x < n)) => shv_no (s := (f, t, S)) (x := x) (fun hh => h ⟨hh.2.1, by rw [← HL.out]; exact hh.2.2⟩))
  have hscon := fun w' (h : Below w.heap.size w w') => share_any _ f t A n m S x w' (HZ.out.below h) HM.out (by omega) HLN.out f0 xa xb
  unfold BPost at hscon
  have hbv : bkv (f, t, S) x p = if p < shv (f, t, S) x then .tuple #[.int .u64 (f + p * n + x), .bool true] else .tuple #[.int .u64 0, .bool false] := by rw [← HL.out]; rfl
  rw [hbv] at hbcon
  have hd2 := fun w' (h : Below w.heap.size w w') (h9 : p < shv (f, t, S) x) => dealt_any _ f t A n m S (f + p * n + x) w' (HZ.out.below h) HM.out (by omega) HLN.out f0 (by
    have := HPB.out h9
    have hmul : 0 ≤ p * (n : Int) := Int.mul_nonneg p0 (by omega)
    omega) (by
    have := (HPB.out h9).2.2.2
    have h10 : p * (n : Int) + x < t - f := by rw [← HL.out]; exact this
    omega)
  unfold BPost at hd2
  have HD2 := Lib.hid (fun w' (h : Below w.heap.size w w') (h9 : p < shv (f, t, S) x) => by
    have h10 := hd2 w' h h9
    have h11 := HBY.out h9
    rw [show (f, t, S).1 + p * ((f, t, S).2.2.length : Int) + x = f + p * n + x by rw [← HL.out]] at h11
    rw [h11] at h10
    exact h10)
  clear hd2 HBY hbv
  have HIN := Lib.hid (fun (h : f ≤ p) (h2 : p < t) => bk_deal hok (s := (f, t, S)) (p := p) h h2)
  have HDY := Lib.hid (fun (h : f ≤ p) (h2 : p < t) => dlv_yes (s := (f, t, S)) (p := p) ⟨hok, h, h2⟩)
  have HDN := Lib.hid (fun (h : ¬ (f ≤ p ∧ p < t)) => dlv_no (s := (f, t, S)) (p := p) (fun hh => h ⟨hh.2.1, hh.2.2⟩))
  generalize shv (f, t, S) x = y at *
  clear hok
  obtain ⟨q, hq⟩ : ∃ q, q = f + p * (n : Int) + x := ⟨_, rfl⟩
  rw [← hq] at HD2 hbcon
  clear hq
  have e1 : IntKind.u64.wrap (n : Int) = n := IntWalk.u64_in _ (by omega)
  have hn0 : ¬ n = 0 := by omega
  by_cases hin : f ≤ p ∧ p < t
  · obtain ⟨h1, h2⟩ := hin
    have hv := HDY.out h1 h2
    have hb2 := HIN.out h1 h2
    have hv' : dlv (f, t, S) p = .tuple #[.int .i64 ((p - f) % (n : Int)), .int .u64 ((p - f) / (n : Int)), .bool true] := by rw [hv, ← HL.out]
    have hb' : bkv (f, t, S) ((p - f) % (n : Int)) ((p - f) / (n : Int)) = .tuple #[.int .u64 p, .bool true] := by rw [← hb2, ← HL.out]
    rw [hv'] at hdcon
    clear hv hb2 hv'
    obtain ⟨d, hd⟩ : ∃ d, d = p - f := ⟨_, rfl⟩
    have e2 : IntKind.u64.wrap (p - f) = d := by rw [hd]; exact IntWalk.u64_in _ (by omega)
    have hd0 : 0 ≤ d ∧ d < 4611686018427387904 := by omega
    rw [← hd] at hdcon hb'
    have q1 : IntKind.u64.wrap (d.tdiv (n : Int)) = d / n := IntWalk.u64_quo _ _ (by omega)
    have q2 : d.tmod (n : Int) = d % n := IntWalk.rem_in _ _ hd0.1
    have q3 := Int.emod_nonneg d (show (n : Int) ≠ 0 by omega)
    have q4 := Int.emod_lt_of_pos d (show (0 : Int) < n by omega)
    have q5 := Int.ediv_nonneg hd0.1 (show (0 : Int) ≤ n by omega)
    have q8 := Int.ediv_le_self (n : Int) hd0.1
    obtain ⟨r, hr⟩ : ∃ r, r = d % (n : Int) := ⟨_, rfl⟩
    obtain ⟨u, hu⟩ : ∃ u, u = d / (n : Int) := ⟨_, rfl⟩
    rw [← hr] at q2 q3 q4 hdcon hb'
    rw [← hu] at q1 q5 q8 hdcon hb'
    have q6 : IntKind.u64.wrap r = r := IntWalk.u64_in _ (by omega)
    have hbk := fun w' (h : Below w.heap.size w w') => back_any _ f t A n m S r u w' (HZ.out.below h) HM.out (by omega) HLN.out f0 (by omega) (by omega) (by omega) (by omega)
    unfold BPost at hbk
    rw [hb'] at hbk
    clear hr hu hd hb' HIN HDY HDN
    by_cases his : p < y
    · rw [if_pos his] at hbcon
      go_wp2_with fail
      refine (hdcon _ hbd).mono ?_
      rintro e w2 ⟨rfl, hb2⟩
      replace hX := hX.below hb2
      replace hbd := hbd.trans (hb2.mono hbd.size)
      clear hb2 x0 x1 x2
      obtain ⟨x0, x1, x2⟩ := hX.c3
      clear hdcon
      go_wp2_with fail
      refine (hbcon _ hbd).mono ?_
      rintro e w3 ⟨rfl, hb3⟩
      replace hX := hX.below hb3
      replace hbd := hbd.trans (hb3.mono hbd.size)
      clear hb3 x0 x1 x2
      obtain ⟨x0, x1, x2⟩ := hX.c3
      clear hbcon
      go_wp2_with fail
      refine (rright19_any _ f t A n m S _ (HZ.out.below hbd) HM.out (by omega) HLN.out).mono ?_
      rintro e w4 ⟨rfl, hb4⟩
      rw [HOK.out]
      replace hX := hX.below hb4
      replace hbd := hbd.trans (hb4.mono hbd.size)
      clear hb4 x0 x1 x2
      obtain ⟨x0, x1, x2⟩ := hX.c3
      go_wp2_with fail
      refine (hbk _ hbd).mono ?_
      rintro e w5 ⟨rfl, hb5⟩
      replace hX := hX.below hb5
      replace hbd := hbd.trans (hb5.mono hbd.size)
      clear hb5 x0 x1 x2
      obtain ⟨x0, x1, x2⟩ := hX.c3
      clear hbk
      obtain ⟨_, hxa, hxb, _⟩ := HPB.out his
      replace hxb : x < n := by rw [← HL.out]; exact hxb
      have hd2 := fun w' h => HD2.out w' h his
      go_wp2_with fail
      refine (hscon _ hbd).mono ?_
      rintro e v1 ⟨rfl, hc1⟩
      replace hX := hX.below hc1
      replace hbd := hbd.trans (hc1.mono hbd.size)
      clear hc1 x0 x1 x2
      obtain ⟨x0, x1, x2⟩ := hX.c3
      clear hscon
      go_wp2_with fail
      refine (hd2 _ hbd).mono ?_
      rintro e v2 ⟨rfl, hc2⟩
      replace hbd := hbd.trans (hc2.mono hbd.size)
      clear hc2 hd2 hX x0 x1 x2
      go_wp2_with fail
      refine (live19_any _).mono ?_
      rintro e wl ⟨rfl, hbl⟩
      replace hbd := hbd.trans (hbl.mono hbd.size)
      clear hbl
      go_wp2
      go_ret
      exact ⟨rfl, hbd⟩
    · rw [if_neg his] at hbcon
      go_wp2_with fail
      refine (hdcon _ hbd).mono ?_
      rintro e w2 ⟨rfl, hb2⟩
      replace hX := hX.below hb2
      replace hbd := hbd.trans (hb2.mono hbd.size)
      clear hb2 x0 x1 x2
      obtain ⟨x0, x1, x2⟩ := hX.c3
      clear hdcon
      go_wp2_with fail
      refine (hbcon _ hbd).mono ?_
      rintro e w3 ⟨rfl, hb3⟩
      replace hX := hX.below hb3
      replace hbd := hbd.trans (hb3.mono hbd.size)
      clear hb3 x0 x1 x2
      obtain ⟨x0, x1, x2⟩ := hX.c3
      clear hbcon
      go_wp2_with fail
      refine (rright19_any _ f t A n m S _ (HZ.out.below hbd) HM.out (by omega) HLN.out).mono ?_
      rintro e w4 ⟨rfl, hb4⟩
      rw [HOK.out]
      replace hX := hX.below hb4
      replace hbd := hbd.trans (hb4.mono hbd.size)
      clear hb4 x0 x1 x2
      obtain ⟨x0, x1, x2⟩ := hX.c3
      go_wp2_with fail
      refine (hbk _ hbd).mono ?_
      rintro e w5 ⟨rfl, hb5⟩
      replace hX := hX.below hb5
      replace hbd := hbd.trans (hb5.mono hbd.size)
      clear hb5 x0 x1 x2
      obtain ⟨x0, x1, x2⟩ := hX.c3
      clear hbk
      by_cases hx0 : 0 ≤ x
      · by_cases hxn : x < (n : Int)
        · go_wp2_with fail
          refine (hscon _ hbd).mono ?_
          rintro e v1 ⟨rfl, hc1⟩
          replace hbd := hbd.trans (hc1.mono hbd.size)
          clear hscon hc1 hX x0 x1 x2
          go_wp2_with fail
          refine (live19_any _).mono ?_
          rintro e wl ⟨rfl, hbl⟩
          replace hbd := hbd.trans (hbl.mono hbd.size)
          clear hbl
          go_wp2
          go_ret
          exact ⟨rfl, hbd⟩
        · clear hscon
          go_wp2_with fail
          refine (live19_any _).mono ?_
          rintro e wl ⟨rfl, hbl⟩
          replace hbd := hbd.trans (hbl.mono hbd.size)
          clear hbl
          go_wp2
          go_ret
          exact ⟨rfl, hbd⟩
      · clear hscon
        go_wp2_with fail
        refine (live19_any _).mono ?_
        rintro e wl ⟨rfl, hbl⟩
        replace hbd := hbd.trans (hbl.mono hbd.size)
        clear hbl
        go_wp2
        go_ret
        exact ⟨rfl, hbd⟩
  · have hv := HDN.out (fun h => hin h)
    rw [hv] at hdcon
    clear hv
    by_cases hfp : f ≤ p
    · have g1 : decide (f ≤ p) = true := decide_eq_true hfp
      have g2 : decide (p < t) = false := decide_eq_false fun h => hin ⟨hfp, h⟩
      clear hin hfp
      by_cases his : p < y
      · rw [if_pos his] at hbcon
        go_wp2_with fail
        refine (hdcon _ hbd).mono ?_
        rintro e w2 ⟨rfl, hb2⟩
        replace hX := hX.below hb2
        replace hbd := hbd.trans (hb2.mono hbd.size)
        clear hb2 x0 x1 x2
        obtain ⟨x0, x1, x2⟩ := hX.c3
        clear hdcon
        go_wp2_with fail
        refine (hbcon _ hbd).mono ?_
        rintro e w3 ⟨rfl, hb3⟩
        replace hX := hX.below hb3
        replace hbd := hbd.trans (hb3.mono hbd.size)
        clear hb3 x0 x1 x2
        obtain ⟨x0, x1, x2⟩ := hX.c3
        clear hbcon
        go_wp2_with fail
        refine (rright19_any _ f t A n m S _ (HZ.out.below hbd) HM.out (by omega) HLN.out).mono ?_
        rintro e w4 ⟨rfl, hb4⟩
        rw [HOK.out]
        replace hX := hX.below hb4
        replace hbd := hbd.trans (hb4.mono hbd.size)
        clear hb4 x0 x1 x2
        obtain ⟨x0, x1, x2⟩ := hX.c3
        obtain ⟨_, hxa, hxb, _⟩ := HPB.out his
        replace hxb : x < n := by rw [← HL.out]; exact hxb
        have hd2 := fun w' h => HD2.out w' h his
        go_wp2_with fail
        refine (hscon _ hbd).mono ?_
        rintro e v1 ⟨rfl, hc1⟩
        replace hX := hX.below hc1
        replace hbd := hbd.trans (hc1.mono hbd.size)
        clear hc1 x0 x1 x2
        obtain ⟨x0, x1, x2⟩ := hX.c3
        clear hscon
        go_wp2_with fail
        refine (hd2 _ hbd).mono ?_
        rintro e v2 ⟨rfl, hc2⟩
        replace hbd := hbd.trans (hc2.mono hbd.size)
        clear hc2 hd2 hX x0 x1 x2
        go_wp2_with fail
        refine (live19_any _).mono ?_
        rintro e wl ⟨rfl, hbl⟩
        replace hbd := hbd.trans (hbl.mono hbd.size)
        clear hbl
        go_wp2
        go_ret
        exact ⟨rfl, hbd⟩
      · rw [if_neg his] at hbcon
        go_wp2_with fail
        refine (hdcon _ hbd).mono ?_
        rintro e w2 ⟨rfl, hb2⟩
        replace hX := hX.below hb2
        replace hbd := hbd.trans (hb2.mono hbd.size)
        clear hb2 x0 x1 x2
        obtain ⟨x0, x1, x2⟩ := hX.c3
        clear hdcon
        go_wp2_with fail
        refine (hbcon _ hbd).mono ?_
        rintro e w3 ⟨rfl, hb3⟩
        replace hX := hX.below hb3
        replace hbd := hbd.trans (hb3.mono hbd.size)
        clear hb3 x0 x1 x2
        obtain ⟨x0, x1, x2⟩ := hX.c3
        clear hbcon
        go_wp2_with fail
        refine (rright19_any _ f t A n m S _ (HZ.out.below hbd) HM.out (by omega) HLN.out).mono ?_
        rintro e w4 ⟨rfl, hb4⟩
        rw [HOK.out]
        replace hX := hX.below hb4
        replace hbd := hbd.trans (hb4.mono hbd.size)
        clear hb4 x0 x1 x2
        obtain ⟨x0, x1, x2⟩ := hX.c3
        by_cases hx0 : 0 ≤ x
        · by_cases hxn : x < (n : Int)
          · go_wp2_with fail
            refine (hscon _ hbd).mono ?_
            rintro e v1 ⟨rfl, hc1⟩
            replace hbd := hbd.trans (hc1.mono hbd.size)
            clear hscon hc1 hX x0 x1 x2
            go_wp2_with fail
            refine (live19_any _).mono ?_
            rintro e wl ⟨rfl, hbl⟩
            replace hbd := hbd.trans (hbl.mono hbd.size)
            clear hbl
            go_wp2
            go_ret
            exact ⟨rfl, hbd⟩
          · clear hscon
            go_wp2_with fail
            refine (live19_any _).mono ?_
            rintro e wl ⟨rfl, hbl⟩
            replace hbd := hbd.trans (hbl.mono hbd.size)
            clear hbl
            go_wp2
            go_ret
            exact ⟨rfl, hbd⟩
        · clear hscon
          go_wp2_with fail
          refine (live19_any _).mono ?_
          rintro e wl ⟨rfl, hbl⟩
          replace hbd := hbd.trans (hbl.mono hbd.size)
          clear hbl
          go_wp2
          go_ret
          exact ⟨rfl, hbd⟩
    · have g1 : decide (f ≤ p) = false := decide_eq_false hfp
      clear hin hfp
      by_cases his : p < y
      · rw [if_pos his] at hbcon
        go_wp2_with fail
        refine (hdcon _ hbd).mono ?_
        rintro e w2 ⟨rfl, hb2⟩
        replace hX := hX.below hb2
        replace hbd := hbd.trans (hb2.mono hbd.size)
        clear hb2 x0 x1 x2
        obtain ⟨x0, x1, x2⟩ := hX.c3
        clear hdcon
        go_wp2_with fail
        refine (hbcon _ hbd).mono ?_
        rintro e w3 ⟨rfl, hb3⟩
        replace hX := hX.below hb3
        replace hbd := hbd.trans (hb3.mono hbd.size)
        clear hb3 x0 x1 x2
        obtain ⟨x0, x1, x2⟩ := hX.c3
        clear hbcon
        go_wp2_with fail
        refine (rright19_any _ f t A n m S _ (HZ.out.below hbd) HM.out (by omega) HLN.out).mono ?_
        rintro e w4 ⟨rfl, hb4⟩
        rw [HOK.out]
        replace hX := hX.below hb4
        replace hbd := hbd.trans (hb4.mono hbd.size)
        clear hb4 x0 x1 x2
        obtain ⟨x0, x1, x2⟩ := hX.c3
        obtain ⟨_, hxa, hxb, _⟩ := HPB.out his
        replace hxb : x < n := by rw [← HL.out]; exact hxb
        have hd2 := fun w' h => HD2.out w' h his
        go_wp2_with fail
        refine (hscon _ hbd).mono ?_
        rintro e v1 ⟨rfl, hc1⟩
        replace hX := hX.below hc1
        replace hbd := hbd.trans (hc1.mono hbd.size)
        clear hc1 x0 x1 x2
        obtain ⟨x0, x1, x2⟩ := hX.c3
        clear hscon
        go_wp2_with fail
        refine (hd2 _ hbd).mono ?_
        rintro e v2 ⟨rfl, hc2⟩
        replace hbd := hbd.trans (hc2.mono hbd.size)
        clear hc2 hd2 hX x0 x1 x2
        go_wp2_with fail
        refine (live19_any _).mono ?_
        rintro e wl ⟨rfl, hbl⟩
        replace hbd := hbd.trans (hbl.mono hbd.size)
        clear hbl
        go_wp2
        go_ret
        exact ⟨rfl, hbd⟩
      · rw [if_neg his] at hbcon
        go_wp2_with fail
        refine (hdcon _ hbd).mono ?_
        rintro e w2 ⟨rfl, hb2⟩
        replace hX := hX.below hb2
        replace hbd := hbd.trans (hb2.mono hbd.size)
        clear hb2 x0 x1 x2
        obtain ⟨x0, x1, x2⟩ := hX.c3
        clear hdcon
        go_wp2_with fail
        refine (hbcon _ hbd).mono ?_
        rintro e w3 ⟨rfl, hb3⟩
        replace hX := hX.below hb3
        replace hbd := hbd.trans (hb3.mono hbd.size)
        clear hb3 x0 x1 x2
        obtain ⟨x0, x1, x2⟩ := hX.c3
        clear hbcon
        go_wp2_with fail
        refine (rright19_any _ f t A n m S _ (HZ.out.below hbd) HM.out (by omega) HLN.out).mono ?_
        rintro e w4 ⟨rfl, hb4⟩
        rw [HOK.out]
        replace hX := hX.below hb4
        replace hbd := hbd.trans (hb4.mono hbd.size)
        clear hb4 x0 x1 x2
        obtain ⟨x0, x1, x2⟩ := hX.c3
        by_cases hx0 : 0 ≤ x
        · by_cases hxn : x < (n : Int)
          · go_wp2_with fail
            refine (hscon _ hbd).mono ?_
            rintro e v1 ⟨rfl, hc1⟩
            replace hbd := hbd.trans (hc1.mono hbd.size)
            clear hscon hc1 hX x0 x1 x2
            go_wp2_with fail
            refine (live19_any _).mono ?_
            rintro e wl ⟨rfl, hbl⟩
            replace hbd := hbd.trans (hbl.mono hbd.size)
            clear hbl
            go_wp2
            go_ret
            exact ⟨rfl, hbd⟩
          · clear hscon
            go_wp2_with fail
            refine (live19_any _).mono ?_
            rintro e wl ⟨rfl, hbl⟩
            replace hbd := hbd.trans (hbl.mono hbd.size)
            clear hbl
            go_wp2
            go_ret
            exact ⟨rfl, hbd⟩
        · clear hscon
          go_wp2_with fail
          refine (live19_any _).mono ?_
          rintro e wl ⟨rfl, hbl⟩
          replace hbd := hbd.trans (hbl.mono hbd.size)
          clear hbl
          go_wp2
          go_ret
          exact ⟨rfl, hbd⟩

set_option maxRecDepth 100000 in
theorem lifted (os : Os) (started : os.Started) (H : Type) (enc : TypeId × Value → H) :
    ReturnsInHanded {} Try.checked os 5 .any (Rows.stripeDealsSpec.pre6 enc Try.prog Try.f5 Rows.stripeDealsRow.domain false) (Rows.stripeDealsSpec.post enc Try.prog Try.f5 false true false false) := by
  refine returnsInHanded_of_change (C := Try.checked) own started (by kernel_rfl) Try.func5
    (ChangeSpec.witness6 (enc := enc) (C := Try.checked) false ⟨#[], #[.agg #[.int .u64 0, .int .u64 0, .slice none 0 0], .int .u64 0, .int .i64 0], []⟩ 8 (by kernel_rfl) (by kernel_rfl) (by kernel_rfl) (by kernel_rfl)) ?_
  intro W base args ds gs before hval0 hW hcnd _
  have hval : ∀ (j : Nat) t v, Try.f5.params[j]? = some t → args[j]? = some v → Value.okWide Try.prog W .any base t v := hval0
  have hW' := hW
  obtain ⟨p, q, hA0, hV, rfl, hfz, hnd⟩ := hW
  have hA : DataW.TrodAll enc Try.prog W 0 (fun _ => true) true Try.f5.params.toList args.toList ds p := hA0
  rw [Try.params5] at hA hval
  obtain ⟨v0, vs0, d0, ds0, p0, q0, hargs, rfl, rfl, h0, r0⟩ := trodAll_cons hA
  obtain ⟨v1, vs1, d1, ds1, p1, q1, rfl, rfl, rfl, h1, r1⟩ := trodAll_cons r0
  obtain ⟨v2, vs2, d2, ds2, p2, q2, rfl, rfl, rfl, h2, r2⟩ := trodAll_cons r1
  obtain ⟨rfl, rfl, rfl⟩ := trodAll_nil r2
  obtain rfl : args = #[v0, v1, v2] := by cases args; simp_all
  obtain ⟨rfl, rfl⟩ := trodVars_none hV
  have lt0 : ∀ x ∈ p0, x.block < W.heap.size := by obtain ⟨m, hm⟩ := h0; exact DataW.trod_lt m _ _ _ hm
  have lt1 : ∀ x ∈ p1, x.block < W.heap.size := by obtain ⟨m, hm⟩ := h1; exact DataW.trod_lt m _ _ _ hm
  have lt2 : ∀ x ∈ p2, x.block < W.heap.size := by obtain ⟨m, hm⟩ := h2; exact DataW.trod_lt m _ _ _ hm
  clear hA0 hval0
  refine (walk enc W base v0 d0 p0 (hval 0 25 v0 rfl rfl) h0 v1 d1 p1 (hval 1 22 v1 rfl rfl) h1 v2 d2 p2 (hval 2 3 v2 rfl rfl) h2).mono fun e W' ⟨he, bel⟩ => ?_
  subst he
  exact ⟨_, rfl, _, _, _, [], _, [], hW', trodAll_mk1 (shut_bool Try.underlying4 _), (trodAll_cons_mk (Below.trod laidOut (by kernel_rfl) (of_decide_eq_true (by kernel_rfl)) h0 bel lt0) (trodAll_cons_mk (Below.trod laidOut (by kernel_rfl) (of_decide_eq_true (by kernel_rfl)) h1 bel lt1) (trodAll_cons_mk (Below.trod laidOut (by kernel_rfl) (of_decide_eq_true (by kernel_rfl)) h2 bel lt2) trodAll_mk0))), rfl, bel.frame _, fun h => by cases h⟩

theorem over : Rows.stripeDealsRow.holds Try.pinned (OpenSpec.ofChange Rows.stripeDealsSpec) :=
  OpenClaim.holds_of_wide 5 Try.f5 rfl rfl rfl rfl rfl rfl rfl ⟨rfl, rfl, rfl, rfl, rfl⟩ rfl rfl rfl rfl rfl (by kernel_rfl) Try.func5 (by kernel_rfl)
    (of_decide_eq_true (by kernel_rfl)) (by unfold Func.isWrapper; first | (rw [if_pos (by decide +kernel)]; kernel_rfl) | (rw [if_neg (by decide +kernel)]; exact ⟨rfl, rfl⟩))
    (fun os started H enc _ => lifted os started H enc)

/-- THE STATEMENT. -/
theorem proved : Rows.StripeDealsSaid := over
#print axioms proved
end Go.Proofs.Ytpoicagalmhfdaa.stripeDeals
