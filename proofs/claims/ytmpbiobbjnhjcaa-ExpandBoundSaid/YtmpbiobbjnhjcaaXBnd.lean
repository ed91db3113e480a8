/- ExpandBound: called with any tokens and any number, the law returns true; no condition. -/
import Derived.Test.YtmpbiobbjnhjcaaRows
import Derived.Test.YtmpbiobbjnhjcaaExpF
import Derived.Test.YtmpbiobbjnhjcaaExpO
import Derived.ProofKit
import Derived.OpenShut
import Derived.ShutString
import Derived.ChangeOld
namespace Go.Proofs.Ytmpbiobbjnhjcaa.expandBound
open Go.ChangeShapes Go.WideShapes Go.ChangeAt Go.RowKit
open Go.ChangeMaps (open_string shut_string)
set_option linter.unusedVariables false

theorem own : ownKnob Try.prog.godebug = none := by kernel_rfl
theorem laidOut : laidOutB Try.prog = true := by kernel_rfl
open Cur Mem

theorem xp_pre {T : List Tk} {B : Int} {n k : Nat} (h : (xpb T B n).2.1 = 0) (hk : k ≤ n) : (xpb T B k).2.1 = 0 := by
  by_cases e : (xpb T B k).2.1 = 0
  · exact e
  · have := xp_stays (own := fun k => (T.getD k tk0).1) (d := 0) (f := id) (T := T) (bound := B) e hk
    exact absurd (by rw [← show xpb T B n = xpb T B k from this]; exact h) e
theorem xp_chk {T : List Tk} {B : Int} {n k : Nat} (h : (xpb T B n).2.1 = 0) (hk : k < n) : chk (T.getD k tk0).1.length (T.getD k tk0).2.1 (T.getD k tk0).2.2 ((xpb T B k).1.length) B = 0 ∧
    xpb T B (k + 1) = (agn 0 id ((xpb T B k).1 ++ (T.getD k tk0).1) (T.getD k tk0).2.1 (T.getD k tk0).2.2.toNat, 0, 0) := by
  have e := xp_shape (own := fun k => (T.getD k tk0).1) (d := 0) (f := id) (T := T) (bound := B) (xp_pre h (Nat.le_of_lt hk))
  by_cases hc : chk (T.getD k tk0).1.length (T.getD k tk0).2.1 (T.getD k tk0).2.2 ((xpb T B k).1.length) B = 0
  · exact ⟨hc, xp_more e hc⟩
  · have := xp_bad (n := n) e hk hc
    rw [show (xpb T B n).2.1 = _ from congrArg (fun x => x.2.1) this] at h
    exact absurd h hc
theorem xp_len {T : List Tk} {B : Int} {n k : Nat} (h : (xpb T B n).2.1 = 0) (hk : k < n) : ((xpb T B (k + 1)).1.length : Int) = (xpb T B k).1.length + tln (T.getD k tk0) ∧ 1 ≤ tln (T.getD k tk0) := by
  obtain ⟨h1, h2⟩ := xp_chk h hk
  obtain ⟨l0, l1, l2, l3, l4⟩ := chk_run h1
  obtain ⟨h3, _⟩ := chk_ok h1
  rw [h2]
  show ((agn _ _ _ _ _).length : Int) = _ ∧ _
  rw [agn_length, List.length_append]
  unfold tln
  rw [l4]
  refine ⟨by omega, ?_⟩
  rcases h3 with h3 | h3
  · unfold trun at h3; rw [decide_eq_true_eq] at h3; omega
  · unfold tcpy at h3; rw [decide_eq_true_eq] at h3; omega
theorem tbs_rest {T : List Tk} {n k : Nat} (hk : k ≤ n) (hn : n ≤ T.length) : ∃ r, tbs T n = tbs T k ++ r := by
  induction n with
  | zero => obtain rfl : k = 0 := by omega
            exact ⟨[], by simp⟩
  | succ n ih =>
    by_cases e : k = n + 1
    · subst e; exact ⟨[], by simp⟩
    · obtain ⟨r, hr⟩ := ih (by omega) (by omega)
      exact ⟨r ++ tby (T.getD n tk0), by rw [tbs_succ (by omega), hr, List.append_assoc]⟩
theorem xp_right {T : List Tk} {B : Int} {n k : Nat} (h : (xpb T B n).2.1 = 0) (hk : k < n) : tright (T.getD k tk0) = true := by
  obtain ⟨h1, _⟩ := xp_chk h hk
  obtain ⟨h3, _⟩ := chk_ok h1
  unfold tright
  rw [Bool.or_eq_true]
  exact h3
/-- A written token expanded behind what those ahead of it make. -/
theorem ex_put {T : List Tk} {M B : Int} {n k : Nat} {z : List Int} (hT : T.length = n) (hz : z = tbs T n) (hby : ∀ x ∈ z, 0 ≤ x ∧ x < 256) (h : (xpb T M n).2.1 = 0) (hk : k < n) :
    (B < (xpb T M (k + 1)).1.length → ex z B (xpb T M k).1 (tbs T k).length = ([], 0, 11, ((tbs T k).length : Int))) ∧
    (((xpb T M (k + 1)).1.length : Int) ≤ B → ex z B (xpb T M k).1 (tbs T k).length = ((xpb T M (k + 1)).1, ((tbs T (k + 1)).length : Int), 0, 0)) := by
  obtain ⟨r, hr⟩ := tbs_rest (T := T) (n := n) (k := k + 1) (by omega) (by omega)
  obtain ⟨h1, h2⟩ := xp_chk h hk
  obtain ⟨l1, l2⟩ := xp_len h hk
  obtain ⟨c0, c1, c2, c3, c4⟩ := chk_run h1
  obtain ⟨_, _, c5⟩ := chk_ok h1
  have hs := tbs_succ (T := T) (k := k) (by omega)
  have htr := tr_put (z := z) (pre := tbs T k) (rest := r) (t := T.getD k tk0) (by rw [hz, hr, hs]) (xp_right h hk)
  have hle : ((tbs T k).length : Int) ≤ z.length := by rw [hz, hr, hs, List.length_append, List.length_append]; omega
  obtain ⟨g1, _⟩ := Rs.bind_ok (show ((hd z (tbs T k).length).bind tk0 (trb z)).2.2.1 = 0 by
    have : (tr z (tbs T k).length).2.2.1 = 0 := by rw [htr]
    exact this)
  obtain ⟨r1, r2⟩ := hd_rng hby g1
  obtain ⟨p1, p2⟩ := hd_pl hby (by omega) hle g1
  have hh := tr_hd g1
  have hl := trb_len (z := z) (cp := (hd z (tbs T k).length).1.1) (k := (hd z (tbs T k).length).1.2) (p1 := (hd z (tbs T k).length).2.1) (by omega) p2 (by omega) (by
    have : (trb z (hd z (tbs T k).length).1 (hd z (tbs T k).length).2.1).2.2.1 = 0 := by rw [← hh, htr]
    exact this)
  have hl2 : (hd z (tbs T k).length).1.2 = tln (T.getD k tk0) := by
    have e : (trb z ((hd z (tbs T k).length).1.1, (hd z (tbs T k).length).1.2) (hd z (tbs T k).length).2.1).1 = T.getD k tk0 := by
      show (trb z (hd z (tbs T k).length).1 (hd z (tbs T k).length).2.1).1 = _
      rw [← hh, htr]
    rw [e] at hl
    unfold tln
    rw [c4]
    omega
  constructor
  · intro hb
    exact ex_over g1 (by rw [hl2]; omega)
  · intro hb
    obtain ⟨_, hex⟩ := ex_trok (z := z) (bound := B) (y := (xpb T M k).1) (p := ((tbs T k).length : Int)) (fun ⟨_, e⟩ => by rw [hl2] at e; omega) (by rw [htr])
    rw [hex, htr]
    simp only
    rw [if_neg (by omega), h2, hs, List.length_append]
theorem tbs_ge {T : List Tk} {k : Nat} (h : k ≤ T.length) : k ≤ (tbs T k).length := by
  induction k with
  | zero => omega
  | succ k ih =>
    have := ih (by omega)
    have h1 := tby_pos (T.getD k tk0)
    rw [tbs_succ (by omega), List.length_append]
    omega
section
variable {T : List Tk} {M B : Int} {n : Nat} {z : List Int}
theorem exs_all (hT : T.length = n) (hz : z = tbs T n) (hby : ∀ x ∈ z, 0 ≤ x ∧ x < 256) (h : (xpb T M n).2.1 = 0) (hB : ((xpb T M n).1.length : Int) ≤ B) : ∀ (j fuel k : Nat), k + j = n → j ≤ fuel →
    exs z B fuel (tbs T k).length (xpb T M k).1 = ((xpb T M n).1, (z.length : Int), 0, 0) ∧ ((xpb T M k).1.length : Int) ≤ B
  | 0, fuel, k, hk, hf => by
    obtain rfl : k = n := by omega
    rw [exs_stop (by rw [hz]; exact Int.le_refl _), hz]
    exact ⟨rfl, hB⟩
  | j + 1, fuel, k, hk, hf => by
    obtain ⟨fuel, rfl⟩ : ∃ f, fuel = f + 1 := ⟨fuel - 1, by omega⟩
    obtain ⟨i1, i2⟩ := exs_all hT hz hby h hB j fuel (k + 1) (by omega) (by omega)
    obtain ⟨l1, l2⟩ := xp_len h (k := k) (by omega)
    obtain ⟨r, hr⟩ := tbs_rest (T := T) (n := n) (k := k + 1) (by omega) (by omega)
    have h1 := tby_pos (T.getD k tk0)
    have hp : ((tbs T k).length : Int) < z.length := by rw [hz, hr, tbs_succ (by omega), List.length_append, List.length_append]; omega
    rw [exs_step hp, Rs.bind_of ((ex_put hT hz hby h (k := k) (by omega)).2 i2)]
    exact ⟨i1, by omega⟩
theorem exs_few (hT : T.length = n) (hz : z = tbs T n) (hby : ∀ x ∈ z, 0 ≤ x ∧ x < 256) (h : (xpb T M n).2.1 = 0) (hB : B < (xpb T M n).1.length) : ∀ (j fuel k : Nat), k + j = n → j ≤ fuel → (k < n ∨ ((xpb T M k).1.length : Int) ≤ B) →
    (exs z B fuel (tbs T k).length (xpb T M k).1).2.2.1 = 11
  | 0, fuel, k, hk, hf, hor => by
    obtain rfl : k = n := by omega
    omega
  | j + 1, fuel, k, hk, hf, hor => by
    obtain ⟨fuel, rfl⟩ : ∃ f, fuel = f + 1 := ⟨fuel - 1, by omega⟩
    obtain ⟨r, hr⟩ := tbs_rest (T := T) (n := n) (k := k + 1) (by omega) (by omega)
    have h1 := tby_pos (T.getD k tk0)
    have hp : ((tbs T k).length : Int) < z.length := by rw [hz, hr, tbs_succ (by omega), List.length_append, List.length_append]; omega
    rw [exs_step hp]
    by_cases hb : B < (xpb T M (k + 1)).1.length
    · rw [(ex_put hT hz hby h (k := k) (by omega)).1 hb]
      rfl
    · rw [Rs.bind_of ((ex_put hT hz hby h (k := k) (by omega)).2 (by omega))]
      exact exs_few hT hz hby h hB j fuel (k + 1) (by omega) (by omega) (.inr (by omega))
theorem exv_all (hT : T.length = n) (hz : z = tbs T n) (hby : ∀ x ∈ z, 0 ≤ x ∧ x < 256) (h : (xpb T M n).2.1 = 0) (hB : ((xpb T M n).1.length : Int) ≤ B) : exv z B = ((xpb T M n).1, 0, 0) := by
  have hge := tbs_ge (T := T) (k := n) (by omega)
  have := (exs_all hT hz hby h hB n (z.length + 1) 0 (by omega) (by rw [hz]; omega)).1
  have e : exg z B = ((xpb T M n).1, (z.length : Int), 0, 0) := by
    have e0 : ((tbs T 0).length : Int) = 0 := by rw [tbs_zero]; rfl
    rw [e0] at this
    exact this
  unfold exv
  rw [e]
  rfl
theorem exv_few (hT : T.length = n) (hz : z = tbs T n) (hby : ∀ x ∈ z, 0 ≤ x ∧ x < 256) (h : (xpb T M n).2.1 = 0) (hB : B < (xpb T M n).1.length) (hn : 0 < n) : ∃ q, exv z B = ([], 11, q) := by
  have hge := tbs_ge (T := T) (k := n) (by omega)
  have := exs_few hT hz hby h hB n (z.length + 1) 0 (by omega) (by rw [hz]; omega) (.inl hn)
  have e : (exg z B).2.2.1 = 11 := by
    have e0 : ((tbs T 0).length : Int) = 0 := by rw [tbs_zero]; rfl
    rw [e0] at this
    exact this
  refine ⟨_, exv_bad ⟨e, rfl⟩ (by decide)⟩
/-- A bound that suffices changes nothing. -/
theorem xp_any (h : (xpb T M n).2.1 = 0) (hB : ((xpb T M n).1.length : Int) ≤ B) : ∀ (j k : Nat), k + j = n → xpb T B k = ((xpb T M k).1, 0, 0) ∧ ((xpb T M k).1.length : Int) ≤ B
  | j, 0, _ => ⟨rfl, by
    have : ∀ j, j ≤ n → (0 : Int) ≤ ((xpb T M j).1.length : Int) := fun j _ => by omega
    have := this n (Nat.le_refl _)
    show ((([] : List Int).length : Nat) : Int) ≤ B
    simp
    omega⟩
  | j, k + 1, hk => by
    obtain ⟨i1, i2⟩ := xp_any h hB (j + 1) k (by omega)
    obtain ⟨h1, h2⟩ := xp_chk h (k := k) (by omega)
    obtain ⟨l1, l2⟩ := xp_len h (k := k) (by omega)
    have hmono : ∀ i, k + 1 + i ≤ n → ((xpb T M (k + 1)).1.length : Int) ≤ (xpb T M (k + 1 + i)).1.length := by
      intro i
      induction i with
      | zero => intro _; exact Int.le_refl _
      | succ i ih =>
        intro hi
        have := ih (by omega)
        obtain ⟨l3, l4⟩ := xp_len h (k := k + 1 + i) (by omega)
        have e : k + 1 + (i + 1) = k + 1 + i + 1 := by omega
        rw [e]
        omega
    have hm := hmono j (by omega)
    rw [hk] at hm
    have hc : chk (T.getD k tk0).1.length (T.getD k tk0).2.1 (T.getD k tk0).2.2 ((xpb T M k).1.length) B = 0 := by
      obtain ⟨c0, c1, c2, c3, c4⟩ := chk_run h1
      obtain ⟨a, b, c⟩ := chk_ok h1
      unfold chk
      rw [if_pos (by rw [Bool.or_eq_true]; exact a), if_neg (by unfold tln at l1; omega), if_neg (by omega)]
    refine ⟨?_, by omega⟩
    rw [show xpb T B (k + 1) = _ from xp_more i1 hc, h2]
end



theorem eb_any {T : List Tk} {n : Nat} (hT : T.length = n) (hsz : (tbs T n).length ≤ 100000) (hby : ∀ x ∈ tbs T n, 0 ≤ x ∧ x < 256) (h : (xpb T 5000 n).2.1 = 0) (B : Int) (A : Option Addr) (k m : Nat) (w : World) (hz : Bs w A k (tbs T n)) (hm : k ≤ m) :
    Calls Try.prog 13 #[.slice A k m, .int .i64 B] w (XpPost (exv (tbs T n) B) w) := by
  have hk := hz.1
  refine ebytes_any A k m (tbs T n) B (fun p y => ∃ j, j ≤ n ∧ p = ((tbs T j).length : Int) ∧ y = (xpb T 5000 j).1) w hz hm (by omega) hby ⟨0, by omega, by rw [tbs_zero]; rfl, rfl⟩ ?_ ?_
  · rintro p y ⟨j, hj, rfl, rfl⟩ _ hp he
    have hjn : j < n := by
      rcases Nat.lt_or_ge j n with h1 | h1
      · exact h1
      · obtain rfl : j = n := by omega
        omega
    obtain ⟨e1, e2⟩ := ex_put (B := B) hT rfl hby h hjn
    by_cases hb : B < (xpb T 5000 (j + 1)).1.length
    · rw [e1 hb] at he
      exact absurd he (by show ¬ (11 : Int) = 0; decide)
    · rw [e2 (by omega)]
      exact ⟨j + 1, by omega, rfl, rfl⟩
  · rintro p y ⟨j, hj, _, rfl⟩
    have := (xp_tot (own := fun k => (T.getD k tk0).1) (d := 0) (f := id) (T := T) (bound := 5000) (fun k => rfl) (k := j) (xp_pre h hj)).2
    have e : ((xpb T 5000 j).1.length : Int) ≤ max 5000 0 := this
    omega

set_option maxRecDepth 100000 in
set_option maxHeartbeats 4000000 in
theorem walk {H : Type} (enc : TypeId × Value → H) (w : World) (base : Nat) (v0 : Value) (d0 : DataW H) (p0 : List MemPlace) (g0 : Value.okWide Try.prog w .any base 22 v0) (h0 : DataW.Trod enc Try.prog w 0 (fun _ => true) true 22 v0 d0 p0) (v1 : Value) (d1 : DataW H) (p1 : List MemPlace) (g1 : Value.okWide Try.prog w .any base 3 v1) (h1 : DataW.Trod enc Try.prog w 0 (fun _ => true) true 3 v1 d1 p1) :
    Calls Try.prog 5 #[v0, v1] w fun e w' => e = .returned (.bool true) ∧ Below w.heap.size w w' := by
  obtain ⟨A, n, m, T, rfl, hnm, hT, hok, hA⟩ := open_tokens g0 h0
  obtain ⟨bo, rfl, bo0, bo1⟩ := open_i64 g1 h1
  clear g0 h0 g1 h1
  have hbd := Below.refl w.heap.size w
  go_enter Try.func5, Try.ntmps5
  go_wp2_with fail
  refine (tlong_any _ _ _ _ _ hT).mono ?_
  rintro e w1 ⟨rfl, rfl⟩
  cases hl : tlong T
  rotate_left
  · clear hl
    go_wp2_with fail
    refine (live12_any _).mono ?_
    rintro e w15 ⟨rfl, hb15⟩
    go_wp2
    go_ret
    exact ⟨rfl, hbd.trans (hb15.mono hbd.size)⟩
  obtain ⟨hl1, hl2⟩ := tlong_no hl
  have hTl := hT.1
  have hn100 : n ≤ 100 := by omega
  have hbz := tbs_le hl2 n (by omega)
  have HOK := Lib.hid hok
  have HT := Lib.hid hT
  have h1 := rtokens_any A n m T 5000 w hT hok (by omega) (by omega)
  have HP := Lib.hid (xp_shape (own := fun k => (T.getD k tk0).1) (d := 0) (f := id) (T := T) (bound := 5000) (k := n))
  have HTO := Lib.hid (xp_tot (own := fun k => (T.getD k tk0).1) (d := 0) (f := id) (T := T) (bound := 5000) (fun k => rfl) (k := n))
  clear hl hok hA hl2 hl1 hT
  obtain ⟨c, hc⟩ : ∃ c, c = (xpb T 5000 n).2.1 := ⟨_, rfl⟩
  obtain ⟨q, hq⟩ : ∃ q, q = (xpb T 5000 n).2.2 := ⟨_, rfl⟩
  obtain ⟨y, hy⟩ : ∃ y, y = (xpb T 5000 n).1 := ⟨_, rfl⟩
  rw [show xpb T 5000 n = (y, c, q) by rw [hc, hq, hy]] at h1
  have HC := Lib.hid hc
  have HY := Lib.hid hy
  have HZ : Hid ((tbs T n).length ≤ 100000) := Lib.hid (by omega)
  clear hc hq hy hbz
  go_wp2_with fail
  refine h1.mono ?_
  rintro e w1 ⟨v1, rfl, ho1, hb1⟩
  obtain ⟨A1, c1, rfl⟩ := ho1.slice
  have hbs0 := ho1.bs.2
  have hX0 := Blk.new w1 #[.int .i64 c, .int .i64 q] 28
  have hbX := below_one w1 (.cells #[.int .i64 c, .int .i64 q] 28)
  replace hbs0 := hbs0.below hbX
  replace hbd := hbd.trans (hb1.mono hbd.size)
  clear hb1
  replace hbd := hbd.trans (hbX.mono hbd.size)
  clear hbX
  clear h1 ho1
  obtain ⟨x0, x1⟩ := hX0.c2
  by_cases hc : c = 0
  rotate_left
  · have hcb : (c != 0) = true := by simpa using hc
    clear hc
    go_wp2_with fail
    refine (live12_any _).mono ?_
    rintro e w15 ⟨rfl, hb15⟩
    go_wp2
    go_ret
    exact ⟨rfl, hbd.trans (hb15.mono hbd.size)⟩
  subst hc
  have hok0 := HC.out.symm
  have hR : ∀ i, i < n → tright (T.getD i tk0) = true := fun i hi => xp_right hok0 hi
  have hall : ∀ t ∈ T, tright t = true := fun t ht => by
    obtain ⟨i, hi, rfl⟩ := List.mem_iff_getElem.1 ht
    have := hR i (by omega)
    rwa [List.getD_eq_getElem?_getD, List.getElem?_eq_getElem hi] at this
  have hby : ∀ x ∈ tbs T n, 0 ≤ x ∧ x < 256 := by
    rw [← hTl, tbs_tcat]; exact tcat_byte HOK.out hall
  have hl5 : (y.length : Int) ≤ 5000 := by
    have := (HTO.out hok0).2
    rw [← show y = (xp (fun k => (T.getD k tk0).1) 0 id T 5000 n).1 from HY.out] at this
    omega
  have HR := Lib.hid hR
  have HBY := Lib.hid hby
  have HSZ : Hid ((tbs T n).length ≤ 700000) := Lib.hid (by have := HZ.out; omega)
  have HEB := Lib.hid (fun B A k m w h1 h2 => eb_any hTl HZ.out hby hok0 B A k m w h1 h2)
  have HV := Lib.hid (fun B (hB : (y.length : Int) ≤ B) => (by rw [HY.out]; exact exv_all (M := 5000) (B := B) hTl rfl hby hok0 (by rw [← HY.out]; exact hB) : exv (tbs T n) B = (y, 0, 0)))
  have HVF := Lib.hid (fun B (hB : B < (y.length : Int)) (hn : 0 < n) => exv_few (M := 5000) (B := B) hTl rfl hby hok0 (by rw [← HY.out]; exact hB) hn)
  have HXA := Lib.hid (fun B (hB : (y.length : Int) ≤ B) => (by rw [HY.out]; exact (xp_any (B := B) hok0 (by rw [← HY.out]; exact hB) 0 n rfl).1 : xpb T B n = (y, 0, 0)))
  clear hR hall hby hok0
  clear x0 x1 hX0
  go_wp2_with fail
  refine (rtbytes_any _ _ _ _ _ (HT.out.below hbd) HR.out (by omega) HSZ.out).mono ?_
  rintro e wa ⟨Aa, ma, rfl, hba, hbsa, _, _, hoa⟩
  have hnma := hoa.cap
  clear hoa
  replace hbd := hbd.trans (hba.mono hbd.size)
  replace hbs0 := hbs0.below hba
  clear hba
  go_wp2_with fail
  refine (show Calls _ _ _ _ (XpPost (y, 0, 0) _) by rw [← HV.out _ (Int.le_refl _)]; exact HEB.out (y.length : Int) Aa _ ma _ hbsa hnma).mono ?_
  rintro e w2 ⟨v2, rfl, ho2, hb2⟩
  obtain ⟨A2, c2, rfl⟩ := ho2.slice
  have hbs1 := ho2.bs.2
  have hX1 := Blk.new w2 #[.int .i64 0, .int .i64 0] 28
  have hbX := below_one w2 (.cells #[.int .i64 0, .int .i64 0] 28)
  replace hbs0 := (hbs0.below hb2).below hbX
  replace hbs1 := hbs1.below hbX
  replace hbd := hbd.trans (hb2.mono hbd.size)
  clear hb2
  replace hbd := hbd.trans (hbX.mono hbd.size)
  clear hbX
  clear ho2 hbsa hnma
  go_wp2_with fail
  refine (show Calls _ _ _ _ (XpPost (y, 0, 0) _) by rw [← HXA.out _ (Int.le_refl _)]; exact etokens_any A n m T (y.length : Int) _ (HT.out.below hbd) HOK.out (by omega) (by omega)).mono ?_
  rintro e w3 ⟨v3, rfl, ho3, hb3⟩
  obtain ⟨A3, c3, rfl⟩ := ho3.slice
  have hbs2 := ho3.bs.2
  have hX2 := Blk.new w3 #[.int .i64 0, .int .i64 0] 28
  have hbX := below_one w3 (.cells #[.int .i64 0, .int .i64 0] 28)
  replace hbs0 := (hbs0.below hb3).below hbX
  replace hbs1 := (hbs1.below hb3).below hbX
  replace hX1 := (hX1.below hb3).below hbX
  replace hbs2 := hbs2.below hbX
  replace hbd := hbd.trans (hb3.mono hbd.size)
  clear hb3
  replace hbd := hbd.trans (hbX.mono hbd.size)
  clear hbX
  clear ho3
  go_wp2_with fail
  refine (rtbytes_any _ _ _ _ _ (HT.out.below hbd) HR.out (by omega) HSZ.out).mono ?_
  rintro e wa ⟨Aa, ma, rfl, hba, hbsa, _, _, hoa⟩
  have hnma := hoa.cap
  clear hoa
  replace hbd := hbd.trans (hba.mono hbd.size)
  replace hbs0 := hbs0.below hba
  replace hbs1 := hbs1.below hba
  replace hbs2 := hbs2.below hba
  replace hX1 := hX1.below hba
  replace hX2 := hX2.below hba
  clear hba
  go_wp2_with fail
  refine (show Calls _ _ _ _ (XpPost (y, 0, 0) _) by rw [← HV.out 4611686018427387904 (by omega)]; exact HEB.out 4611686018427387904 Aa _ ma _ hbsa hnma).mono ?_
  rintro e w4 ⟨v4, rfl, ho4, hb4⟩
  obtain ⟨A4, c4, rfl⟩ := ho4.slice
  have hbs3 := ho4.bs.2
  have hX3 := Blk.new w4 #[.int .i64 0, .int .i64 0] 28
  have hbX := below_one w4 (.cells #[.int .i64 0, .int .i64 0] 28)
  replace hbs0 := (hbs0.below hb4).below hbX
  replace hbs1 := (hbs1.below hb4).below hbX
  replace hbs2 := (hbs2.below hb4).below hbX
  replace hX1 := (hX1.below hb4).below hbX
  replace hX2 := (hX2.below hb4).below hbX
  replace hbs3 := hbs3.below hbX
  replace hbd := hbd.trans (hb4.mono hbd.size)
  clear hb4
  replace hbd := hbd.trans (hbX.mono hbd.size)
  clear hbX
  clear ho4 hbsa hnma
  try simp only at hbs1 hbs2 hbs3 hbs0
  obtain ⟨x0, x1⟩ := hX1.c2
  obtain ⟨y0, y1⟩ := hX2.c2
  obtain ⟨z0, z1⟩ := hX3.c2
  clear hX1 hX2 hX3 x1 y1 z1
  go_wp2_with fail
  refine (same_any _ _ _ _ _ _ _ _ hbs1 hbs0).mono ?_
  rintro e w5 ⟨rfl, rfl⟩
  go_wp2_with fail
  refine (same_any _ _ _ _ _ _ _ _ hbs2 hbs0).mono ?_
  rintro e w5 ⟨rfl, rfl⟩
  go_wp2_with fail
  refine (same_any _ _ _ _ _ _ _ _ hbs3 hbs0).mono ?_
  rintro e w5 ⟨rfl, rfl⟩
  clear hbs0 hbs1 hbs2 hbs3 x0 y0 z0
  by_cases hy0 : y.length = 0
  · have e1 : IntKind.i64.wrap ((y.length : Int) - 1) = -1 := by rw [hy0]; rfl
    have hb : (((y.length : Nat) : Int) == 0) = true := by simp [hy0]
    clear hy0 hl5
    by_cases h1 : bo < -5
    · have h2 : ¬ ((-1 : Int) < -5) := by omega
      go_wp2_with fail
      refine (live12_any _).mono ?_
      rintro e w15 ⟨rfl, hb15⟩
      go_wp2
      go_ret
      exact ⟨rfl, hbd.trans (hb15.mono hbd.size)⟩
    · by_cases h2 : -1 < bo
      · go_wp2_with fail
        refine (live12_any _).mono ?_
        rintro e w15 ⟨rfl, hb15⟩
        go_wp2
        go_ret
        exact ⟨rfl, hbd.trans (hb15.mono hbd.size)⟩
      · go_wp2_with fail
        refine (live12_any _).mono ?_
        rintro e w15 ⟨rfl, hb15⟩
        go_wp2
        go_ret
        exact ⟨rfl, hbd.trans (hb15.mono hbd.size)⟩
  · have e1 : IntKind.i64.wrap ((y.length : Int) - 1) = y.length - 1 := IntWalk.i64_in _ (by omega)
    have hb : (((y.length : Nat) : Int) == 0) = false := by simpa using hy0
    have hn0 : 0 < n := by
      rcases Nat.eq_zero_or_pos n with h | h
      · subst h
        have e : y = [] := HY.out
        rw [e] at hy0
        exact absurd rfl hy0
      · exact h
    by_cases h1 : bo < -5
    · have h2 : ¬ ((y.length : Int) - 1 < -5) := by omega
      obtain ⟨qf, hqf⟩ := HVF.out ((-5 : Int)) (by omega) hn0
      clear hy0 hl5 hn0
      go_wp2_with fail
      refine (rtbytes_any _ _ _ _ _ (HT.out.below hbd) HR.out (by omega) HSZ.out).mono ?_
      rintro e wa ⟨Aa, ma, rfl, hba, hbsa, _, _, hoa⟩
      have hnma := hoa.cap
      clear hoa
      replace hbd := hbd.trans (hba.mono hbd.size)
      clear hba
      go_wp2_with fail
      refine (show Calls _ _ _ _ (XpPost ([], 11, qf) _) by rw [← hqf]; exact HEB.out ((-5 : Int)) Aa _ ma _ hbsa hnma).mono ?_
      rintro e w6 ⟨v6, rfl, ho6, hb6⟩
      obtain ⟨A6, c6, rfl⟩ := ho6.slice
      have hX6 := Blk.new w6 #[.int .i64 11, .int .i64 qf] 28
      have hbX := below_one w6 (.cells #[.int .i64 11, .int .i64 qf] 28)
      replace hbd := hbd.trans (hb6.mono hbd.size)
      clear hb6
      replace hbd := hbd.trans (hbX.mono hbd.size)
      clear hbX
      obtain ⟨x0, x1⟩ := hX6.c2
      clear ho6 hX6 x1 hqf hbsa
      go_wp2_with fail
      refine (live12_any _).mono ?_
      rintro e w15 ⟨rfl, hb15⟩
      go_wp2
      go_ret
      exact ⟨rfl, hbd.trans (hb15.mono hbd.size)⟩
    · by_cases h2 : (y.length : Int) - 1 < bo
      · obtain ⟨qf, hqf⟩ := HVF.out (((y.length : Int) - 1)) (by omega) hn0
        clear hy0 hl5 hn0
        go_wp2_with fail
        refine (rtbytes_any _ _ _ _ _ (HT.out.below hbd) HR.out (by omega) HSZ.out).mono ?_
        rintro e wa ⟨Aa, ma, rfl, hba, hbsa, _, _, hoa⟩
        have hnma := hoa.cap
        clear hoa
        replace hbd := hbd.trans (hba.mono hbd.size)
        clear hba
        go_wp2_with fail
        refine (show Calls _ _ _ _ (XpPost ([], 11, qf) _) by rw [← hqf]; exact HEB.out (((y.length : Int) - 1)) Aa _ ma _ hbsa hnma).mono ?_
        rintro e w6 ⟨v6, rfl, ho6, hb6⟩
        obtain ⟨A6, c6, rfl⟩ := ho6.slice
        have hX6 := Blk.new w6 #[.int .i64 11, .int .i64 qf] 28
        have hbX := below_one w6 (.cells #[.int .i64 11, .int .i64 qf] 28)
        replace hbd := hbd.trans (hb6.mono hbd.size)
        clear hb6
        replace hbd := hbd.trans (hbX.mono hbd.size)
        clear hbX
        obtain ⟨x0, x1⟩ := hX6.c2
        clear ho6 hX6 x1 hqf hbsa
        go_wp2_with fail
        refine (live12_any _).mono ?_
        rintro e w15 ⟨rfl, hb15⟩
        go_wp2
        go_ret
        exact ⟨rfl, hbd.trans (hb15.mono hbd.size)⟩
      · obtain ⟨qf, hqf⟩ := HVF.out (bo) (by omega) hn0
        clear hy0 hl5 hn0
        go_wp2_with fail
        refine (rtbytes_any _ _ _ _ _ (HT.out.below hbd) HR.out (by omega) HSZ.out).mono ?_
        rintro e wa ⟨Aa, ma, rfl, hba, hbsa, _, _, hoa⟩
        have hnma := hoa.cap
        clear hoa
        replace hbd := hbd.trans (hba.mono hbd.size)
        clear hba
        go_wp2_with fail
        refine (show Calls _ _ _ _ (XpPost ([], 11, qf) _) by rw [← hqf]; exact HEB.out (bo) Aa _ ma _ hbsa hnma).mono ?_
        rintro e w6 ⟨v6, rfl, ho6, hb6⟩
        obtain ⟨A6, c6, rfl⟩ := ho6.slice
        have hX6 := Blk.new w6 #[.int .i64 11, .int .i64 qf] 28
        have hbX := below_one w6 (.cells #[.int .i64 11, .int .i64 qf] 28)
        replace hbd := hbd.trans (hb6.mono hbd.size)
        clear hb6
        replace hbd := hbd.trans (hbX.mono hbd.size)
        clear hbX
        obtain ⟨x0, x1⟩ := hX6.c2
        clear ho6 hX6 x1 hqf hbsa
        go_wp2_with fail
        refine (live12_any _).mono ?_
        rintro e w15 ⟨rfl, hb15⟩
        go_wp2
        go_ret
        exact ⟨rfl, hbd.trans (hb15.mono hbd.size)⟩

set_option maxRecDepth 100000 in
theorem lifted (os : Os) (started : os.Started) (H : Type) (enc : TypeId × Value → H) :
    ReturnsInHanded {} Try.checked os 5 .any (Rows.expandBoundSpec.pre6 enc Try.prog Try.f5 Rows.expandBoundRow.domain false) (Rows.expandBoundSpec.post enc Try.prog Try.f5 false true false false) := by
  refine returnsInHanded_of_change (C := Try.checked) own started (by kernel_rfl) Try.func5
    (ChangeSpec.witness6 (enc := enc) (C := Try.checked) false ⟨#[], #[.slice none 0 0, .int .i64 0], []⟩ 8 (by kernel_rfl) (by kernel_rfl) (by kernel_rfl) (by kernel_rfl)) ?_
  intro W base args ds gs before hval0 hW hcnd _
  have hval : ∀ (j : Nat) t v, Try.f5.params[j]? = some t → args[j]? = some v → Value.okWide Try.prog W .any base t v := hval0
  have hW' := hW
  obtain ⟨p, q, hA0, hV, rfl, hfz, hnd⟩ := hW
  have hA : DataW.TrodAll enc Try.prog W 0 (fun _ => true) true Try.f5.params.toList args.toList ds p := hA0
  rw [Try.params5] at hA hval
  obtain ⟨v0, vs0, d0, ds0, p0, q0, hargs, rfl, rfl, h0, r0⟩ := trodAll_cons hA
  obtain ⟨v1, vs1, d1, ds1, p1, q1, rfl, rfl, rfl, h1, r1⟩ := trodAll_cons r0
  obtain ⟨rfl, rfl, rfl⟩ := trodAll_nil r1
  obtain rfl : args = #[v0, v1] := by cases args; simp_all
  obtain ⟨rfl, rfl⟩ := trodVars_none hV
  have lt0 : ∀ x ∈ p0, x.block < W.heap.size := by obtain ⟨m, hm⟩ := h0; exact DataW.trod_lt m _ _ _ hm
  have lt1 : ∀ x ∈ p1, x.block < W.heap.size := by obtain ⟨m, hm⟩ := h1; exact DataW.trod_lt m _ _ _ hm
  clear hA0 hval0
  refine (walk enc W base v0 d0 p0 (hval 0 22 v0 rfl rfl) h0 v1 d1 p1 (hval 1 3 v1 rfl rfl) h1).mono fun e W' ⟨he, bel⟩ => ?_
  subst he
  exact ⟨_, rfl, _, _, _, [], _, [], hW', trodAll_mk1 (shut_bool Try.underlying4 _), (trodAll_cons_mk (Below.trod laidOut (by kernel_rfl) (of_decide_eq_true (by kernel_rfl)) h0 bel lt0) (trodAll_cons_mk (Below.trod laidOut (by kernel_rfl) (of_decide_eq_true (by kernel_rfl)) h1 bel lt1) trodAll_mk0)), rfl, bel.frame _, fun h => by cases h⟩

theorem over : Rows.expandBoundRow.holds Try.pinned (OpenSpec.ofChange Rows.expandBoundSpec) :=
  OpenClaim.holds_of_wide 5 Try.f5 rfl rfl rfl rfl rfl rfl rfl ⟨rfl, rfl, rfl, rfl, rfl⟩ rfl rfl rfl rfl rfl (by kernel_rfl) Try.func5 (by kernel_rfl)
    (of_decide_eq_true (by kernel_rfl)) (by unfold Func.isWrapper; first | (rw [if_pos (by decide +kernel)]; kernel_rfl) | (rw [if_neg (by decide +kernel)]; exact ⟨rfl, rfl⟩))
    (fun os started H enc _ => lifted os started H enc)

/-- THE STATEMENT. -/
theorem proved : Rows.ExpandBoundSaid := over
#print axioms proved
end Go.Proofs.Ytmpbiobbjnhjcaa.expandBound
