/- ExpandBytes: called with any bytes and any bound, the law returns true; no condition. -/
import Derived.Test.YtmpbiobbjnhjcaaRows
import Derived.Test.YtmpbiobbjnhjcaaExpF
import Derived.Test.YtmpbiobbjnhjcaaExpO
import Derived.ProofKit
import Derived.OpenShut
import Derived.ShutString
import Derived.ChangeOld
namespace Go.Proofs.Ytmpbiobbjnhjcaa.expandBytes
open Go.ChangeShapes Go.WideShapes Go.ChangeAt Go.RowKit
open Go.ChangeMaps (open_string shut_string)
set_option linter.unusedVariables false

theorem own : ownKnob Try.prog.godebug = none := by kernel_rfl
theorem laidOut : laidOutB Try.prog = true := by kernel_rfl
open Cur Mem



theorem ex_tr {z : List Int} {bound : Int} {y : List Int} {p : Int} (hby : ∀ x ∈ z, 0 ≤ x ∧ x < 256) (h0 : 0 ≤ p) (h1 : p ≤ z.length) (h : (ex z bound y p).2.2.1 = 0) :
    tr z p = ((tr z p).1, (ex z bound y p).2.1, 0, 0) ∧ (y.length : Int) + tln (tr z p).1 = ((ex z bound y p).1.length : Int) := by
  have hn : ¬ ((hd z p).2.2.1 = 0 ∧ bound < (y.length : Int) + (hd z p).1.2) := fun ⟨a, b⟩ => by
    rw [ex_over a b] at h
    exact absurd h (by show ¬ (11 : Int) = 0; decide)
  have ht : (tr z p).2.2.1 = 0 := by
    by_cases e : (tr z p).2.2.1 = 0
    · exact e
    · exact absurd ((ex_trbad hn e).1.symm.trans h) e
  obtain ⟨t1, t2, t3, t4, t5, _⟩ := tr_once hby h0 h1 ht
  obtain ⟨v1, hex⟩ := ex_trok hn t3
  rw [hex] at h ⊢
  by_cases hof : (y.length : Int) < (tr z p).1.2.1
  · rw [if_pos hof] at h
    exact absurd h (by show ¬ (10 : Int) = 0; decide)
  · rw [if_neg hof]
    refine ⟨t3, ?_⟩
    show _ = ((agn _ _ _ _ _).length : Int)
    rw [agn_length, List.length_append]
    unfold tright at t4
    rw [Bool.or_eq_true] at t4
    unfold tln
    rcases t4 with t4 | t4
    · have e := tsz_run t4
      unfold trun at t4
      rw [decide_eq_true_eq] at t4
      rw [e]
      omega
    · have e := tsz_cpy t4
      unfold tcpy at t4
      rw [decide_eq_true_eq] at t4
      rw [e]
      omega
theorem exs_len {z : List Int} {bound : Int} (hby : ∀ x ∈ z, 0 ≤ x ∧ x < 256) : ∀ (k : Nat) (p : Int) (y : List Int), 0 ≤ p → p ≤ z.length → (y.length : Int) ≤ max bound 0 → (exs z bound k p y).2.2.1 = 0 →
    ((exs z bound k p y).1.length : Int) ≤ max bound 0 ∧ (lens z k p y.length).2.2.1 = 0 ∧ (lens z k p y.length).1 = ((exs z bound k p y).1.length : Int)
  | 0, p, y, _, _, hy, _ => ⟨hy, rfl, rfl⟩
  | k + 1, p, y, h0, h1, hy, h => by
    by_cases hp : (z.length : Int) ≤ p
    · rw [exs_stop hp, lens_stop hp]
      exact ⟨hy, rfl, rfl⟩
    · rw [exs_step (by omega)] at h ⊢
      rw [lens_step (by omega)]
      obtain ⟨g1, g2⟩ := Rs.bind_ok h
      obtain ⟨k1, k2, k3⟩ := ex_ok hby h0 h1 g1
      obtain ⟨l1, l2⟩ := ex_len hby h0 h1 g1
      obtain ⟨e1, e2⟩ := ex_tr hby h0 h1 g1
      rw [g2] at h ⊢
      rw [Rs.bind_of e1, e2]
      exact exs_len hby k _ _ (by omega) k2 (by omega) h
theorem exv_len {z : List Int} {bound : Int} (hby : ∀ x ∈ z, 0 ≤ x ∧ x < 256) {y : List Int} {c q : Int} (h : exv z bound = (y, c, q)) : (y.length : Int) ≤ max bound 0 ∧ (c = 0 → lenv z = ((y.length : Int), 0, 0)) := by
  unfold exv at h
  by_cases hg : (exg z bound).2.2.1 = 0
  · rw [if_pos hg] at h
    injection h with h1 h
    injection h with h2 h
    obtain ⟨a1, a2, a3⟩ := exs_len hby (z.length + 1) 0 [] (Int.le_refl _) (by omega) (by simp; omega) hg
    have e1 : (exs z bound (z.length + 1) 0 []).1 = y := h1
    rw [e1] at a1 a3
    refine ⟨a1, fun _ => ?_⟩
    have b2 : (leng z).2.2.1 = 0 := a2
    have b3 : (leng z).1 = (y.length : Int) := a3
    unfold lenv
    rw [if_pos b2, b3]
  · rw [if_neg hg] at h
    injection h with h1 h
    injection h with h2 h
    subst h1
    exact ⟨by simp; omega, fun e => absurd (h2.trans e) hg⟩

set_option maxRecDepth 100000 in
set_option maxHeartbeats 4000000 in
theorem walk {H : Type} (enc : TypeId × Value → H) (w : World) (base : Nat) (v0 : Value) (d0 : DataW H) (p0 : List MemPlace) (g0 : Value.okWide Try.prog w .any base 25 v0) (h0 : DataW.Trod enc Try.prog w 0 (fun _ => true) true 25 v0 d0 p0) (v1 : Value) (d1 : DataW H) (p1 : List MemPlace) (g1 : Value.okWide Try.prog w .any base 3 v1) (h1 : DataW.Trod enc Try.prog w 0 (fun _ => true) true 3 v1 d1 p1) :
    Calls Try.prog 4 #[v0, v1] w fun e w' => e = .returned (.bool true) ∧ Below w.heap.size w w' := by
  obtain ⟨a, n, m, z, rfl, hnm, hz, hby, hnil⟩ := open_bytes g0 h0
  obtain ⟨bo, rfl, bo0, bo1⟩ := open_i64 g1 h1
  clear g0 h0 g1 h1
  have hbd := Below.refl w.heap.size w
  by_cases hn : 500 < (n : Int)
  · go_enter Try.func4, Try.ntmps4
    go_wp2_with fail
    refine (live12_any _).mono ?_
    rintro e w15 ⟨rfl, hb15⟩
    go_wp2
    go_ret
    exact ⟨rfl, hbd.trans (hb15.mono hbd.size)⟩
  have HBY := Lib.hid hby
  have HNIL := Lib.hid hnil
  have hzl := hz.1
  clear hby hnil
  have hR0 : ((([] : List Int).length : Nat) : Int) ≤ 5000 := by simp
  by_cases h5 : 5000 < bo
  · have hRs : ∀ (p : Int) (y : List Int), (y.length : Int) ≤ 5000 → 0 ≤ p → p < n → (ex z (5000) y p).2.2.1 = 0 → ((ex z (5000) y p).1.length : Int) ≤ 5000 := fun p y _ p0 p1 h => by
      have := (ex_len HBY.out p0 (by omega) h).2
      omega
    have e1 := ebytes_any a n m z (5000) (fun _ y => (y.length : Int) ≤ 5000) w hz hnm (by omega) HBY.out hR0 hRs (fun p y h => by omega)
    have e2 := fun w' h => rebytes_any a n m z (5000) (fun _ y => (y.length : Int) ≤ 5000) w' h HNIL.out hnm (by omega) HBY.out hR0 hRs (fun p y h => by omega)
    have e3 := fun w' h => elength_any a n m z w' h hnm (by omega) HBY.out
    have e4 := fun w' h => relength_any a n m z w' h HNIL.out hnm (by omega) HBY.out
    obtain ⟨y, c, q, hg⟩ : ∃ y c q, exv z (5000) = (y, c, q) := ⟨_, _, _, rfl⟩
    obtain ⟨t, d, r, ht⟩ : ∃ t d r, lenv z = (t, d, r) := ⟨_, _, _, rfl⟩
    obtain ⟨f1, f2⟩ := exv_len HBY.out hg
    rw [hg] at e1 e2
    rw [ht] at e3 e4 f2
    have F2 : Hid (c = 0 → t = y.length) := Lib.hid (fun h => by have := f2 h; injection this)
    have E2 := Lib.hid e2
    have E3 := Lib.hid e3
    have E4 := Lib.hid e4
    clear e2 e3 e4 hg ht f2 hR0 hRs
    skip
    have hng : ¬ ((5000 : Int) < (y.length : Int)) := by first | exact trivial | omega
    go_enter Try.func4, Try.ntmps4
    go_wp2_with fail
    refine e1.mono ?_
    rintro e w1 ⟨v1, rfl, ho1, hb1⟩
    obtain ⟨A1, c1, rfl⟩ := ho1.slice
    have hbs1 := ho1.bs.2
    have hX1 := Blk.new w1 #[.int .i64 c, .int .i64 q] 28
    have hbX := below_one w1 (.cells #[.int .i64 c, .int .i64 q] 28)
    replace hbs1 := hbs1.below hbX
    replace hbd := hb1.trans (hbX.mono hb1.size)
    have h2 := E2.out _ (hz.below hbd)
    clear hb1 hbX ho1 e1 E2
    go_wp2_with fail
    refine h2.mono ?_
    rintro e w2 ⟨v2, rfl, ho2, hb2⟩
    obtain ⟨A2, c2, rfl⟩ := ho2.slice
    have hbs2 := ho2.bs.2
    have hX2 := Blk.new w2 #[.int .i64 c, .int .i64 q] 28
    have hbX := below_one w2 (.cells #[.int .i64 c, .int .i64 q] 28)
    replace hX1 := (hX1.below hb2).below hbX
    replace hbs1 := (hbs1.below hb2).below hbX
    replace hbs2 := hbs2.below hbX
    replace hbd := (hbd.trans (hb2.mono hbd.size))
    replace hbd := hbd.trans (hbX.mono hbd.size)
    have h3 := E3.out _ (hz.below hbd)
    clear hb2 hbX ho2 h2 E3
    go_wp2_with fail
    refine h3.mono ?_
    rintro e w3 ⟨rfl, hb3⟩
    have hX3 := Blk.new w3 #[.int .i64 d, .int .i64 r] 28
    have hbX := below_one w3 (.cells #[.int .i64 d, .int .i64 r] 28)
    replace hX1 := (hX1.below hb3).below hbX
    replace hX2 := (hX2.below hb3).below hbX
    replace hbs1 := (hbs1.below hb3).below hbX
    replace hbs2 := (hbs2.below hb3).below hbX
    replace hbd := (hbd.trans (hb3.mono hbd.size))
    replace hbd := hbd.trans (hbX.mono hbd.size)
    have h4 := E4.out _ (hz.below hbd)
    clear hb3 hbX h3 E4
    go_wp2_with fail
    refine h4.mono ?_
    rintro e w4 ⟨rfl, hb4⟩
    have hX4 := Blk.new w4 #[.int .i64 d, .int .i64 r] 28
    have hbX := below_one w4 (.cells #[.int .i64 d, .int .i64 r] 28)
    replace hX1 := (hX1.below hb4).below hbX
    replace hX2 := (hX2.below hb4).below hbX
    replace hX3 := (hX3.below hb4).below hbX
    replace hbs1 := (hbs1.below hb4).below hbX
    replace hbs2 := (hbs2.below hb4).below hbX
    replace hbd := (hbd.trans (hb4.mono hbd.size))
    replace hbd := hbd.trans (hbX.mono hbd.size)
    obtain ⟨x0, x1⟩ := hX1.c2
    obtain ⟨y0, y1⟩ := hX2.c2
    obtain ⟨u0, u1⟩ := hX3.c2
    obtain ⟨z0, z1⟩ := hX4.c2
    try simp only at hbs1 hbs2
    clear hb4 hbX hX1 hX2 hX3 hX4 h4 hz
    go_wp2_with fail
    refine (same_any _ _ _ _ _ _ _ _ hbs1 hbs2).mono ?_
    rintro e w5 ⟨rfl, rfl⟩
    clear hbs1 hbs2
    have e0 : (c == c) = true := by simp
    have e1 : (q == q) = true := by simp
    have e2 : (d == d) = true := by simp
    have e3 : (r == r) = true := by simp
    have e4 : (t == t) = true := by simp
    by_cases hc : c = 0
    · obtain rfl := F2.out hc
      subst hc
      try have e5 : ((y.length : Int) == (y.length : Int)) = true := by simp
      go_wp2_with fail
      refine (live12_any _).mono ?_
      rintro e w15 ⟨rfl, hb15⟩
      go_wp2
      go_ret
      exact ⟨rfl, hbd.trans (hb15.mono hbd.size)⟩
    · have hcb : (c != 0) = true := by simpa using hc
      clear hc
      go_wp2_with fail
      refine (live12_any _).mono ?_
      rintro e w15 ⟨rfl, hb15⟩
      go_wp2
      go_ret
      exact ⟨rfl, hbd.trans (hb15.mono hbd.size)⟩
  · by_cases hb0 : bo < 0
    · have hRs : ∀ (p : Int) (y : List Int), (y.length : Int) ≤ 5000 → 0 ≤ p → p < n → (ex z (bo) y p).2.2.1 = 0 → ((ex z (bo) y p).1.length : Int) ≤ 5000 := fun p y _ p0 p1 h => by
        have := (ex_len HBY.out p0 (by omega) h).2
        omega
      have e1 := ebytes_any a n m z (bo) (fun _ y => (y.length : Int) ≤ 5000) w hz hnm (by omega) HBY.out hR0 hRs (fun p y h => by omega)
      have e2 := fun w' h => rebytes_any a n m z (bo) (fun _ y => (y.length : Int) ≤ 5000) w' h HNIL.out hnm (by omega) HBY.out hR0 hRs (fun p y h => by omega)
      have e3 := fun w' h => elength_any a n m z w' h hnm (by omega) HBY.out
      have e4 := fun w' h => relength_any a n m z w' h HNIL.out hnm (by omega) HBY.out
      obtain ⟨y, c, q, hg⟩ : ∃ y c q, exv z (bo) = (y, c, q) := ⟨_, _, _, rfl⟩
      obtain ⟨t, d, r, ht⟩ : ∃ t d r, lenv z = (t, d, r) := ⟨_, _, _, rfl⟩
      obtain ⟨f1, f2⟩ := exv_len HBY.out hg
      rw [hg] at e1 e2
      rw [ht] at e3 e4 f2
      have F2 : Hid (c = 0 → t = y.length) := Lib.hid (fun h => by have := f2 h; injection this)
      have E2 := Lib.hid e2
      have E3 := Lib.hid e3
      have E4 := Lib.hid e4
      clear e2 e3 e4 hg ht f2 hR0 hRs
      obtain rfl : y = [] := List.length_eq_zero_iff.1 (by omega)
      have hng : True := by first | exact trivial | omega
      go_enter Try.func4, Try.ntmps4
      go_wp2_with fail
      refine e1.mono ?_
      rintro e w1 ⟨v1, rfl, ho1, hb1⟩
      obtain ⟨A1, c1, rfl⟩ := ho1.slice
      have hbs1 := ho1.bs.2
      have hX1 := Blk.new w1 #[.int .i64 c, .int .i64 q] 28
      have hbX := below_one w1 (.cells #[.int .i64 c, .int .i64 q] 28)
      replace hbs1 := hbs1.below hbX
      replace hbd := hb1.trans (hbX.mono hb1.size)
      have h2 := E2.out _ (hz.below hbd)
      clear hb1 hbX ho1 e1 E2
      go_wp2_with fail
      refine h2.mono ?_
      rintro e w2 ⟨v2, rfl, ho2, hb2⟩
      obtain ⟨A2, c2, rfl⟩ := ho2.slice
      have hbs2 := ho2.bs.2
      have hX2 := Blk.new w2 #[.int .i64 c, .int .i64 q] 28
      have hbX := below_one w2 (.cells #[.int .i64 c, .int .i64 q] 28)
      replace hX1 := (hX1.below hb2).below hbX
      replace hbs1 := (hbs1.below hb2).below hbX
      replace hbs2 := hbs2.below hbX
      replace hbd := (hbd.trans (hb2.mono hbd.size))
      replace hbd := hbd.trans (hbX.mono hbd.size)
      have h3 := E3.out _ (hz.below hbd)
      clear hb2 hbX ho2 h2 E3
      go_wp2_with fail
      refine h3.mono ?_
      rintro e w3 ⟨rfl, hb3⟩
      have hX3 := Blk.new w3 #[.int .i64 d, .int .i64 r] 28
      have hbX := below_one w3 (.cells #[.int .i64 d, .int .i64 r] 28)
      replace hX1 := (hX1.below hb3).below hbX
      replace hX2 := (hX2.below hb3).below hbX
      replace hbs1 := (hbs1.below hb3).below hbX
      replace hbs2 := (hbs2.below hb3).below hbX
      replace hbd := (hbd.trans (hb3.mono hbd.size))
      replace hbd := hbd.trans (hbX.mono hbd.size)
      have h4 := E4.out _ (hz.below hbd)
      clear hb3 hbX h3 E4
      go_wp2_with fail
      refine h4.mono ?_
      rintro e w4 ⟨rfl, hb4⟩
      have hX4 := Blk.new w4 #[.int .i64 d, .int .i64 r] 28
      have hbX := below_one w4 (.cells #[.int .i64 d, .int .i64 r] 28)
      replace hX1 := (hX1.below hb4).below hbX
      replace hX2 := (hX2.below hb4).below hbX
      replace hX3 := (hX3.below hb4).below hbX
      replace hbs1 := (hbs1.below hb4).below hbX
      replace hbs2 := (hbs2.below hb4).below hbX
      replace hbd := (hbd.trans (hb4.mono hbd.size))
      replace hbd := hbd.trans (hbX.mono hbd.size)
      obtain ⟨x0, x1⟩ := hX1.c2
      obtain ⟨y0, y1⟩ := hX2.c2
      obtain ⟨u0, u1⟩ := hX3.c2
      obtain ⟨z0, z1⟩ := hX4.c2
      try simp only at hbs1 hbs2
      clear hb4 hbX hX1 hX2 hX3 hX4 h4 hz
      go_wp2_with fail
      refine (same_any _ _ _ _ _ _ _ _ hbs1 hbs2).mono ?_
      rintro e w5 ⟨rfl, rfl⟩
      clear hbs1 hbs2
      have e0 : (c == c) = true := by simp
      have e1 : (q == q) = true := by simp
      have e2 : (d == d) = true := by simp
      have e3 : (r == r) = true := by simp
      have e4 : (t == t) = true := by simp
      by_cases hc : c = 0
      · obtain rfl := F2.out hc
        subst hc
        try have e5 : ((y.length : Int) == (y.length : Int)) = true := by simp
        go_wp2_with fail
        refine (live12_any _).mono ?_
        rintro e w15 ⟨rfl, hb15⟩
        go_wp2
        go_ret
        exact ⟨rfl, hbd.trans (hb15.mono hbd.size)⟩
      · have hcb : (c != 0) = true := by simpa using hc
        clear hc
        go_wp2_with fail
        refine (live12_any _).mono ?_
        rintro e w15 ⟨rfl, hb15⟩
        go_wp2
        go_ret
        exact ⟨rfl, hbd.trans (hb15.mono hbd.size)⟩
    · have hRs : ∀ (p : Int) (y : List Int), (y.length : Int) ≤ 5000 → 0 ≤ p → p < n → (ex z (bo) y p).2.2.1 = 0 → ((ex z (bo) y p).1.length : Int) ≤ 5000 := fun p y _ p0 p1 h => by
        have := (ex_len HBY.out p0 (by omega) h).2
        omega
      have e1 := ebytes_any a n m z (bo) (fun _ y => (y.length : Int) ≤ 5000) w hz hnm (by omega) HBY.out hR0 hRs (fun p y h => by omega)
      have e2 := fun w' h => rebytes_any a n m z (bo) (fun _ y => (y.length : Int) ≤ 5000) w' h HNIL.out hnm (by omega) HBY.out hR0 hRs (fun p y h => by omega)
      have e3 := fun w' h => elength_any a n m z w' h hnm (by omega) HBY.out
      have e4 := fun w' h => relength_any a n m z w' h HNIL.out hnm (by omega) HBY.out
      obtain ⟨y, c, q, hg⟩ : ∃ y c q, exv z (bo) = (y, c, q) := ⟨_, _, _, rfl⟩
      obtain ⟨t, d, r, ht⟩ : ∃ t d r, lenv z = (t, d, r) := ⟨_, _, _, rfl⟩
      obtain ⟨f1, f2⟩ := exv_len HBY.out hg
      rw [hg] at e1 e2
      rw [ht] at e3 e4 f2
      have F2 : Hid (c = 0 → t = y.length) := Lib.hid (fun h => by have := f2 h; injection this)
      have E2 := Lib.hid e2
      have E3 := Lib.hid e3
      have E4 := Lib.hid e4
      clear e2 e3 e4 hg ht f2 hR0 hRs
      skip
      have hng : ¬ (bo < (y.length : Int)) := by first | exact trivial | omega
      go_enter Try.func4, Try.ntmps4
      go_wp2_with fail
      refine e1.mono ?_
      rintro e w1 ⟨v1, rfl, ho1, hb1⟩
      obtain ⟨A1, c1, rfl⟩ := ho1.slice
      have hbs1 := ho1.bs.2
      have hX1 := Blk.new w1 #[.int .i64 c, .int .i64 q] 28
      have hbX := below_one w1 (.cells #[.int .i64 c, .int .i64 q] 28)
      replace hbs1 := hbs1.below hbX
      replace hbd := hb1.trans (hbX.mono hb1.size)
      have h2 := E2.out _ (hz.below hbd)
      clear hb1 hbX ho1 e1 E2
      go_wp2_with fail
      refine h2.mono ?_
      rintro e w2 ⟨v2, rfl, ho2, hb2⟩
      obtain ⟨A2, c2, rfl⟩ := ho2.slice
      have hbs2 := ho2.bs.2
      have hX2 := Blk.new w2 #[.int .i64 c, .int .i64 q] 28
      have hbX := below_one w2 (.cells #[.int .i64 c, .int .i64 q] 28)
      replace hX1 := (hX1.below hb2).below hbX
      replace hbs1 := (hbs1.below hb2).below hbX
      replace hbs2 := hbs2.below hbX
      replace hbd := (hbd.trans (hb2.mono hbd.size))
      replace hbd := hbd.trans (hbX.mono hbd.size)
      have h3 := E3.out _ (hz.below hbd)
      clear hb2 hbX ho2 h2 E3
      go_wp2_with fail
      refine h3.mono ?_
      rintro e w3 ⟨rfl, hb3⟩
      have hX3 := Blk.new w3 #[.int .i64 d, .int .i64 r] 28
      have hbX := below_one w3 (.cells #[.int .i64 d, .int .i64 r] 28)
      replace hX1 := (hX1.below hb3).below hbX
      replace hX2 := (hX2.below hb3).below hbX
      replace hbs1 := (hbs1.below hb3).below hbX
      replace hbs2 := (hbs2.below hb3).below hbX
      replace hbd := (hbd.trans (hb3.mono hbd.size))
      replace hbd := hbd.trans (hbX.mono hbd.size)
      have h4 := E4.out _ (hz.below hbd)
      clear hb3 hbX h3 E4
      go_wp2_with fail
      refine h4.mono ?_
      rintro e w4 ⟨rfl, hb4⟩
      have hX4 := Blk.new w4 #[.int .i64 d, .int .i64 r] 28
      have hbX := below_one w4 (.cells #[.int .i64 d, .int .i64 r] 28)
      replace hX1 := (hX1.below hb4).below hbX
      replace hX2 := (hX2.below hb4).below hbX
      replace hX3 := (hX3.below hb4).below hbX
      replace hbs1 := (hbs1.below hb4).below hbX
      replace hbs2 := (hbs2.below hb4).below hbX
      replace hbd := (hbd.trans (hb4.mono hbd.size))
      replace hbd := hbd.trans (hbX.mono hbd.size)
      obtain ⟨x0, x1⟩ := hX1.c2
      obtain ⟨y0, y1⟩ := hX2.c2
      obtain ⟨u0, u1⟩ := hX3.c2
      obtain ⟨z0, z1⟩ := hX4.c2
      try simp only at hbs1 hbs2
      clear hb4 hbX hX1 hX2 hX3 hX4 h4 hz
      go_wp2_with fail
      refine (same_any _ _ _ _ _ _ _ _ hbs1 hbs2).mono ?_
      rintro e w5 ⟨rfl, rfl⟩
      clear hbs1 hbs2
      have e0 : (c == c) = true := by simp
      have e1 : (q == q) = true := by simp
      have e2 : (d == d) = true := by simp
      have e3 : (r == r) = true := by simp
      have e4 : (t == t) = true := by simp
      by_cases hc : c = 0
      · obtain rfl := F2.out hc
        subst hc
        try have e5 : ((y.length : Int) == (y.length : Int)) = true := by simp
        go_wp2_with fail
        refine (live12_any _).mono ?_
        rintro e w15 ⟨rfl, hb15⟩
        go_wp2
        go_ret
        exact ⟨rfl, hbd.trans (hb15.mono hbd.size)⟩
      · have hcb : (c != 0) = true := by simpa using hc
        clear hc
        go_wp2_with fail
        refine (live12_any _).mono ?_
        rintro e w15 ⟨rfl, hb15⟩
        go_wp2
        go_ret
        exact ⟨rfl, hbd.trans (hb15.mono hbd.size)⟩

set_option maxRecDepth 100000 in
theorem lifted (os : Os) (started : os.Started) (H : Type) (enc : TypeId × Value → H) :
    ReturnsInHanded {} Try.checked os 4 .any (Rows.expandBytesSpec.pre6 enc Try.prog Try.f4 Rows.expandBytesRow.domain false) (Rows.expandBytesSpec.post enc Try.prog Try.f4 false true false false) := by
  refine returnsInHanded_of_change (C := Try.checked) own started (by kernel_rfl) Try.func4
    (ChangeSpec.witness6 (enc := enc) (C := Try.checked) false ⟨#[], #[.slice none 0 0, .int .i64 0], []⟩ 8 (by kernel_rfl) (by kernel_rfl) (by kernel_rfl) (by kernel_rfl)) ?_
  intro W base args ds gs before hval0 hW hcnd _
  have hval : ∀ (j : Nat) t v, Try.f4.params[j]? = some t → args[j]? = some v → Value.okWide Try.prog W .any base t v := hval0
  have hW' := hW
  obtain ⟨p, q, hA0, hV, rfl, hfz, hnd⟩ := hW
  have hA : DataW.TrodAll enc Try.prog W 0 (fun _ => true) true Try.f4.params.toList args.toList ds p := hA0
  rw [Try.params4] at hA hval
  obtain ⟨v0, vs0, d0, ds0, p0, q0, hargs, rfl, rfl, h0, r0⟩ := trodAll_cons hA
  obtain ⟨v1, vs1, d1, ds1, p1, q1, rfl, rfl, rfl, h1, r1⟩ := trodAll_cons r0
  obtain ⟨rfl, rfl, rfl⟩ := trodAll_nil r1
  obtain rfl : args = #[v0, v1] := by cases args; simp_all
  obtain ⟨rfl, rfl⟩ := trodVars_none hV
  have lt0 : ∀ x ∈ p0, x.block < W.heap.size := by obtain ⟨m, hm⟩ := h0; exact DataW.trod_lt m _ _ _ hm
  have lt1 : ∀ x ∈ p1, x.block < W.heap.size := by obtain ⟨m, hm⟩ := h1; exact DataW.trod_lt m _ _ _ hm
  clear hA0 hval0
  refine (walk enc W base v0 d0 p0 (hval 0 25 v0 rfl rfl) h0 v1 d1 p1 (hval 1 3 v1 rfl rfl) h1).mono fun e W' ⟨he, bel⟩ => ?_
  subst he
  exact ⟨_, rfl, _, _, _, [], _, [], hW', trodAll_mk1 (shut_bool Try.underlying4 _), (trodAll_cons_mk (Below.trod laidOut (by kernel_rfl) (of_decide_eq_true (by kernel_rfl)) h0 bel lt0) (trodAll_cons_mk (Below.trod laidOut (by kernel_rfl) (of_decide_eq_true (by kernel_rfl)) h1 bel lt1) trodAll_mk0)), rfl, bel.frame _, fun h => by cases h⟩

theorem over : Rows.expandBytesRow.holds Try.pinned (OpenSpec.ofChange Rows.expandBytesSpec) :=
  OpenClaim.holds_of_wide 4 Try.f4 rfl rfl rfl rfl rfl rfl rfl ⟨rfl, rfl, rfl, rfl, rfl⟩ rfl rfl rfl rfl rfl (by kernel_rfl) Try.func4 (by kernel_rfl)
    (of_decide_eq_true (by kernel_rfl)) (by unfold Func.isWrapper; first | (rw [if_pos (by decide +kernel)]; kernel_rfl) | (rw [if_neg (by decide +kernel)]; exact ⟨rfl, rfl⟩))
    (fun os started H enc _ => lifted os started H enc)

/-- THE STATEMENT. -/
theorem proved : Rows.ExpandBytesSaid := over
#print axioms proved
end Go.Proofs.Ytmpbiobbjnhjcaa.expandBytes
