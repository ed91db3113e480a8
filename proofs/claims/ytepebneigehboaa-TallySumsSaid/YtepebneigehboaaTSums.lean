/- TallySums: called with any pairs of ints and any int, the law returns true; no condition. -/
import Derived.Test.YtepebneigehboaaRows
import Derived.Test.YtepebneigehboaaTalE
import Derived.Deep.RegionHeld3
import Derived.Deep.AppendLies
import Derived.ProofKit
import Derived.OpenShut
import Derived.ShutString
import Derived.ChangeOld
namespace Go.Proofs.Ytepebneigehboaa.tallySums
open Go.ChangeShapes Go.WideShapes Go.ChangeAt Go.RowKit
open Go.ChangeMaps (open_string shut_string)
set_option linter.unusedVariables false

theorem own : ownKnob Try.prog.godebug = none := by kernel_rfl
theorem laidOut : laidOutB Try.prog = true := by kernel_rfl
open Cur Mem Flt


theorem oper_append_rw {sl e : TypeId} {zv : Value} {size bytes : Nat} (E : Kind sl e zv size bytes) {w : World} {o : Oper} {a : Act} {K : Act → World → Prop} {Q : Exit → Act → World → Prop} (s x : Operand)
    (ho : o.op = .call { callee := .builtin .append, args := #[s, x], argTypes := #[sl, sl] })
    (B : Nat) (v : Value) (n : Nat) (xs : List Value) (hs : a.eval s = v) (hown : w.ownsRow B e size v n xs) (A : Option Addr) (m c : Nat) (news : List Value) (hx : a.eval x = .slice A m c) (hl : news.length = m * size) (hr : Rw w A news) (hc : A = none → c = 0) (h1 : ∀ u ∈ news, u.oneCell' = true)
    (hsz : n + m ≤ 1000000) (hby : bytes ≤ 1000000) (hB : B ≤ w.heap.size)
    (h : ∀ v' w', w'.ownsRow B e size v' (n + m) (xs ++ news) → w.grownBy w' v.ownBlock → Gr v.ownBlock v'.ownBlock w → K (a.put o.dst v') w') : o.wp Try.prog a w K Q := by
  obtain ⟨v', w', hrun, h2, h3, h4⟩ := run_append_rw E w o.type B v n xs hown A m c news hl hr hc h1 hsz hby hB
  unfold Oper.wp
  simp [execOp, ho, resolve, invoke, builtin, hs, hx, hrun, Result.andThen]
  exact h v' w' h2 h3 h4
theorem step_append_rw {sl e : TypeId} {zv : Value} {size bytes : Nat} (G : Kind sl e zv size bytes) {w : World} {ops : Array Oper} {o : Oper} {a : Act} {K : Act → World → Prop} {Q : Exit → Act → World → Prop} {E : Prop} (hgd : o.guard = none) (s x : Operand)
    (ho : o.op = .call { callee := .builtin .append, args := #[s, x], argTypes := #[sl, sl] })
    (B : Nat) (v : Value) (n : Nat) (xs : List Value) (hs : a.eval s = v) (hown : w.ownsRow B e size v n xs) (A : Option Addr) (m c : Nat) (news : List Value) (hx : a.eval x = .slice A m c) (hl : news.length = m * size) (hr : Rw w A news) (hc : A = none → c = 0) (h1 : ∀ u ∈ news, u.oneCell' = true)
    (hsz : n + m ≤ 1000000) (hby : bytes ≤ 1000000) (hB : B ≤ w.heap.size)
    (h : ∀ v' w', w'.ownsRow B e size v' (n + m) (xs ++ news) → w.grownBy w' v.ownBlock → Gr v.ownBlock v'.ownBlock w → K (a.put o.dst v') w') :
    if Region.wanted o (yielded ops a.tmps) = true then Oper.wp Try.prog o a w K Q else E := by
  have hw : Region.wanted o (yielded ops a.tmps) = true := by simp [Region.wanted, hgd]
  rw [if_pos hw]
  exact oper_append_rw G s x ho B v n xs hs hown A m c news hx hl hr hc h1 hsz hby hB h
theorem bel_alloc {a w : World} (h : Below a.heap.size a w) (o : Obj) : Below a.heap.size a (w.alloc o) := h.alloc h.size o
theorem size_of {a w : World} {B : Nat} (h : Below a.heap.size a w) (hB : B ≤ a.heap.size) : B ≤ w.heap.size := Nat.le_trans hB h.size
theorem grown_cell {w w' : World} {r : Option Nat} (hg : w.grownBy w' r) {b i : Nat} {u : Value} (hne : r ≠ some b) (h : w.cell? ⟨b, i, none⟩ = some u) : w'.cell? ⟨b, i, none⟩ = some u :=
  (World.cell?_of_block (w := w) (hg.block b (lt_of_cell h) (fun e => hne e.symm))).trans h
theorem own_ne_own {w : World} {B B' e e' size size' n n' : Nat} {v v' : Value} {xs xs' : List Value} (h : w.ownsRow B e size v n xs) (h' : w.ownsRow B' e' size' v' n' xs') (ht : e ≠ e') {g : Nat} (hg : v.ownBlock = some g) : v'.ownBlock ≠ some g := by
  rcases h.2 with ⟨rfl, _⟩ | ⟨g1, cap, cur, rfl, _, hh, _⟩
  · cases hg
  rcases h'.2 with ⟨rfl, _⟩ | ⟨g2, cap2, cur2, rfl, _, hh2, _⟩
  · intro h; cases h
  intro he
  have e1 : g1 = g := by simpa [Value.ownBlock] using hg
  have e2 : g2 = g := by simpa [Value.ownBlock] using he
  subst e1
  subst e2
  rw [hh2] at hh
  injection hh with hh
  injection hh with _ hh
  exact ht hh.symm
theorem grown_blk {w w' : World} {r : Option Nat} {b : Nat} {cs : Array Value} {t : Nat} (hg : w.grownBy w' r) (hne : r ≠ some b) (h : Blk w b cs t) : Blk w' b cs t := (hg.block b h.lt (fun e => hne e.symm)).trans h
theorem ne_of_lt {w : World} {r : Option Nat} {b : Nat} (h : ∀ g, r = some g → g < w.heap.size) (hb : w.heap.size ≤ b) : r ≠ some b := fun e => by have := h b e; omega
theorem rw_one {w : World} {b : Nat} {v : Value} (h : w.cell? ⟨b, 0, none⟩ = some v) : Rw w (some ⟨b, 0, none⟩) [v] := fun _ => ⟨b, 0, rfl, fun i u hi => by
  match i, hi with
  | 0, hi => simp at hi; subst hi; exact h⟩
theorem rw_three {w : World} {b : Nat} {v0 v1 v2 : Value} (h0 : w.cell? ⟨b, 0, none⟩ = some v0) (h1 : w.cell? ⟨b, 1, none⟩ = some v1) (h2 : w.cell? ⟨b, 2, none⟩ = some v2) : Rw w (some ⟨b, 0, none⟩) [v0, v1, v2] := fun _ => ⟨b, 0, rfl, fun i u hi => by
  match i, hi with
  | 0, hi => simp at hi; subst hi; exact h0
  | 1, hi => simp at hi; subst hi; exact h1
  | 2, hi => simp at hi; subst hi; exact h2⟩
/-- Two rows of which one is older than the other's new block, or of another type. -/
theorem ne_of_ge {r : Option Nat} {b : Nat} (h : ∀ g, r = some g → g < b) : r ≠ some b := fun e => by have := h b e; omega

theorem both_share {x1 y1 x2 y2 : Nat} {p q : Int × Int} (a1 : Pt x1 p.1) (a2 : Pt y1 p.2) (b1 : Pt x2 q.1) (b2 : Pt y2 q.2) : ∃ s : Int, (∀ w, Calls Try.prog 20 #[.complex .f64 x1 y1, .complex .f64 x2 y2] w fun e w' => e = .returned (.int .i64 s) ∧ w = w') ∧
    ∀ w, Calls Try.prog 21 #[.agg #[.int .i64 (ta p), .int .i64 (tb p), .bool (!rt p.1 p.2)], .agg #[.int .i64 (ta q), .int .i64 (tb q), .bool (!rt q.1 q.2)]] w (TPost (.int .i64 s) w) := by
  refine ⟨sh (tb p) (tb q), share_any a1 a2 b1 b2, fun w => ?_⟩
  have hk : ∀ r : Int × Int, (!rt r.1 r.2) = false → rt (ta r) (tb r) = true := fun r h => by
    unfold ta tb
    cases hr : rt r.1 r.2
    · rw [hr] at h; cases h
    · exact hr
  have h := rshare_any (ta p) (tb p) (ta q) (tb q) (!rt p.1 p.2) (!rt q.1 q.2) w (hk p) (hk q)
  have e : (if (!rt p.1 p.2) || (!rt q.1 q.2) then 0 else sh (tb p) (tb q)) = sh (tb p) (tb q) := by
    cases hp : rt p.1 p.2
    · have : tb p = 0 := by unfold tb; rw [hp]; rfl
      rw [this]; unfold sh; simp
    · cases hq : rt q.1 q.2
      · have : tb q = 0 := by unfold tb; rw [hq]; rfl
        rw [this]; unfold sh; simp
      · rfl
  rw [e] at h
  exact h
theorem both_times {x y : Nat} {p : Int × Int} (a1 : Pt x p.1) (a2 : Pt y p.2) (k : Int) (hk : k ≤ 9223372036854775807) : ∃ (x' y' : Nat) (a b : Int), (∀ w, Calls Try.prog 22 #[.complex .f64 x y, .int .i64 k] w fun e w' => e = .returned (.complex .f64 x' y') ∧ w = w') ∧
    (∀ w, Calls Try.prog 23 #[.agg #[.int .i64 (ta p), .int .i64 (tb p), .bool (!rt p.1 p.2)], .int .i64 k] w (TPost (.agg #[.int .i64 a, .int .i64 b, .bool false]) w)) ∧
    ∀ w, Calls Try.prog 9 #[.complex .f64 x' y', .agg #[.int .i64 a, .int .i64 b, .bool false]] w (TPost (.bool true) w) := by
  have t1 := times_any a1 a2 hk
  have t2 := fun w => rtimes_any (ta p) (tb p) k (!rt p.1 p.2) w (fun h => by
    unfold ta tb
    cases hr : rt p.1 p.2
    · rw [hr] at h; cases h
    · exact hr) hk
  have zero : (if rt p.1 p.2 && decide (0 ≤ k) then nz (p.1 * k) (p.2 * k) else .complex .f64 0 0) = .complex .f64 0 0 → rtm (ta p) (tb p) k (!rt p.1 p.2) = tq 0 0 false → ∃ (x' y' : Nat) (a b : Int), (∀ w, Calls Try.prog 22 #[.complex .f64 x y, .int .i64 k] w fun e w' => e = .returned (.complex .f64 x' y') ∧ w = w') ∧
    (∀ w, Calls Try.prog 23 #[.agg #[.int .i64 (ta p), .int .i64 (tb p), .bool (!rt p.1 p.2)], .int .i64 k] w (TPost (.agg #[.int .i64 a, .int .i64 b, .bool false]) w)) ∧
    ∀ w, Calls Try.prog 9 #[.complex .f64 x' y', .agg #[.int .i64 a, .int .i64 b, .bool false]] w (TPost (.bool true) w) := fun h1 h2 => by
    rw [h1] at t1
    rw [h2] at t2
    exact ⟨0, 0, 0, 0, t1, t2, fun w => as_any pt_zero pt_zero 0 0 false w⟩
  by_cases hr' : rt p.1 p.2 = false
  · exact zero (by rw [hr']; rfl) (by rw [hr']; rfl)
  · have hr : rt p.1 p.2 = true := by simpa using hr'
    have ea : ta p = p.1 := by unfold ta; rw [hr]; rfl
    have eb : tb p = p.2 := by unfold tb; rw [hr]; rfl
    obtain ⟨n0, n1, m0, m1, nm⟩ := rt_bd hr
    by_cases hk1 : 1 ≤ k
    · have hnk := Int.mul_nonneg n0 (show 0 ≤ k by omega)
      have hmk := Int.mul_nonneg m0 (show 0 ≤ k by omega)
      have hpos : 0 < p.1 * k ∨ p.2 * k = 0 := by
        rcases nm with h | h
        · exact .inl (Int.mul_pos h (by omega))
        · right; rw [h, Int.zero_mul]
      by_cases hb : p.1 * k ≤ 1125899906842624 ∧ p.2 * k ≤ 1125899906842624
      · have hrt : rt (p.1 * k) (p.2 * k) = true := decide_eq_true ⟨hnk, hb.1, hmk, hb.2, hpos⟩
        obtain ⟨e, q1, q2⟩ := nzw hrt rfl rfl
        have e1 : (if rt p.1 p.2 && decide (0 ≤ k) then nz (p.1 * k) (p.2 * k) else .complex .f64 0 0) = nz (p.1 * k) (p.2 * k) := by rw [hr, decide_eq_true (show 0 ≤ k by omega)]; rfl
        have e2 : rtm (ta p) (tb p) k (!rt p.1 p.2) = tq (p.1 * k) (p.2 * k) false := by
          unfold rtm; rw [hr, ea, eb, decide_eq_true hk1, decide_eq_true hb.1, decide_eq_true hb.2]; rfl
        rw [e1, e] at t1
        rw [e2] at t2
        have h3 := fun w => as_any q1 q2 (p.1 * k) (p.2 * k) false w
        have e3 : asb (p.1 * k) (p.2 * k) (p.1 * k) (p.2 * k) false = true := by unfold asb; rw [hrt]; simp
        rw [e3] at h3
        exact ⟨_, _, _, _, t1, t2, h3⟩
      · refine zero ?_ ?_
        · have : rt (p.1 * k) (p.2 * k) = false := decide_eq_false (fun h => hb ⟨h.2.1, h.2.2.2.1⟩)
          rw [nz_not this]; split <;> rfl
        · unfold rtm
          rw [hr, ea, eb]
          rcases Classical.not_and_iff_not_or_not.1 hb with h | h
          · rw [decide_eq_false h]; simp
          · rw [decide_eq_false h]; simp
    · refine zero ?_ ?_
      · by_cases h0 : 0 ≤ k
        · obtain rfl : k = 0 := by omega
          rw [hr, Int.mul_zero, Int.mul_zero]; rfl
        · rw [decide_eq_false h0, Bool.and_false]; rfl
      · unfold rtm
        rw [decide_eq_false hk1, Bool.and_false]; rfl


set_option maxRecDepth 100000 in
set_option maxHeartbeats 40000000 in
theorem walk {H : Type} (enc : TypeId × Value → H) (w : World) (base : Nat) (v0 : Value) (d0 : DataW H) (p0 : List MemPlace) (g0 : Value.okWide Try.prog w .any base 38 v0) (h0 : DataW.Trod enc Try.prog w 0 (fun _ => true) true 38 v0 d0 p0) (v1 : Value) (d1 : DataW H) (p1 : List MemPlace) (g1 : Value.okWide Try.prog w .any base 3 v1) (h1 : DataW.Trod enc Try.prog w 0 (fun _ => true) true 3 v1 d1 p1) :
    Calls Try.prog 4 #[v0, v1] w fun e w' => e = .returned (.bool true) ∧ Below w.heap.size w w' := by
  obtain ⟨A, n, m, f, rfl, hnm, hpr⟩ := open_pairs g0 h0
  obtain ⟨tk, rfl, tk0, tk1⟩ := open_i64 g1 h1
  clear g0 h0 g1 h1
  have HPR := Lib.hid hpr
  clear hpr
  by_cases hn : 100 < (n : Int)
  · go_enter Try.func4, Try.ntmps4
    go_wp2_with fail
    refine (live9_any _).mono ?_
    rintro e w9 ⟨rfl, hb9⟩
    go_wp2
    go_ret
    exact ⟨rfl, hb9⟩
  obtain ⟨N, hN, hNf⟩ : ∃ N : List (Int × Int), N.length = n ∧ ∀ i, i < n → N.getD i (0, 0) = (cl (f i).1, cl (f i).2) := by
    refine ⟨(List.range n).map fun i => (cl (f i).1, cl (f i).2), by simp, fun i hi => ?_⟩
    simp [List.getD_eq_getElem?_getD, hi]
  have HNL := Lib.hid hN
  have HNF := Lib.hid hNf
  clear hN hNf
  go_enter Try.func4, Try.ntmps4
  go_wp2
  go_loopw [5, 6, 7] (fun v5 v6 v7 wr => ∃ k : Nat, k ≤ n ∧ v7 = .int .i64 k ∧ wr.ownsRow w.heap.size 23 1 v5 k (cvs9 N k) ∧ wr.ownsRow w.heap.size 28 3 v6 k (tvs9 N k) ∧ Below w.heap.size w wr) (fun _ _ v7 _ => n - (intOf v7).toNat)
  case atStart => exact ⟨0, Nat.zero_le _, rfl, ⟨rfl, .inl ⟨rfl, rfl⟩⟩, ⟨rfl, .inl ⟨rfl, rfl⟩⟩, Below.refl _ _⟩
  case round =>
    obtain ⟨k, hk, rfl, ho5, ho6, hbw⟩ := hrel
    by_cases hlt : k < n
    · obtain ⟨b, o, rfl, c1, c2⟩ := (HPR.out.below hbw) k hlt
      have hmade := made_any (f k).1 (f k).2
      have HF := HNF.out k hlt
      have hte := tof_eq (N.getD k (0, 0))
      rw [HF] at hte
      simp only at hte
      rw [hte] at hmade
      have hcs : cvs9 N (k + 1) = cvs9 N k ++ [.complex .f64 (floatOfInt .f64 (cl (f k).1)) (floatOfInt .f64 (cl (f k).2))] := by
        rw [cvs9, HF]; rfl
      have hts : tvs9 N (k + 1) = tvs9 N k ++ [.int .i64 (ta (cl (f k).1, cl (f k).2)), .int .i64 (tb (cl (f k).1, cl (f k).2)), .bool (!rt (cl (f k).1) (cl (f k).2))] := by
        rw [tvs9, HF]; rfl
      have HCS := Lib.hid hcs
      have HTS := Lib.hid hts
      clear hcs hts hte HF
      generalize floatOfInt .f64 (cl (f k).1) = x at *
      generalize floatOfInt .f64 (cl (f k).2) = y at *
      generalize ta (cl (f k).1, cl (f k).2) = a1 at *
      generalize tb (cl (f k).1, cl (f k).2) = a2 at *
      generalize (!rt (cl (f k).1) (cl (f k).2)) = a3 at *
      generalize (f k).1 = p at *
      generalize (f k).2 = q at *
      obtain ⟨A50, c50, rfl, _⟩ := own_slice ho5
      obtain ⟨A60, c60, rfl, _⟩ := own_slice ho6
      go_wp2_with fail
      refine (hmade _).mono ?_
      rintro e w1 ⟨rfl, hb1⟩
      have hbd1 := hbw.trans (hb1.mono hbw.size)
      have ho51 := own_below ho5 hb1
      have ho61 := own_below ho6 hb1
      clear ho5 ho6 c1 c2 hb1 hbw
      have hbA := bel_alloc (Below.refl _ w1) (.cells #[.int .i64 a1, .int .i64 a2, .bool a3] 28)
      have hbdA := hbd1.trans (hbA.mono hbd1.size)
      have H5 := own_below ho51 hbA
      have H6 := own_below ho61 hbA
      have hX := Blk.new w1 #[.int .i64 a1, .int .i64 a2, .bool a3] 28
      have L6 := fun g hg => (World.ownsRow.lt ho61 g hg).2
      clear hbd1 ho51 ho61 hbA hmade
      go_wp2
      generalize w1.alloc (.cells #[.int .i64 a1, .int .i64 a2, .bool a3] 28) = wA at *
      generalize w1.heap.size = tb' at hX L6 ⊢
      obtain ⟨x0, x1, x2⟩ := hX.c3
      go_region_held3 (fun w' => w'.cell? ⟨tb', 0, none⟩ = some (.int .i64 a1) ∧ w'.cell? ⟨tb', 1, none⟩ = some (.int .i64 a2) ∧ w'.cell? ⟨tb', 2, none⟩ = some (.bool a3)) (first | go_keep | (go_split_ands; exact ⟨by assumption, by assumption, by assumption⟩))
        (first | ((refine step_append_rw kindC (by rfl) (.tmp 32) (.tmp 34) (by rfl) w.heap.size (.slice A50 k c50) k (cvs9 N k) (by rfl) (own_below H5 (by repeat (first | exact Below.refl _ _ | refine Below.drew ?_ | refine bel_alloc ?_ _))) _ 1 1 [.complex .f64 x y] (by rfl) (by rfl) (rw_one (by simp)) (by simp) (by simp [Value.oneCell']) (by omega) (by omega) (size_of (a := wA) (by repeat (first | exact Below.refl _ _ | refine Below.drew ?_ | refine bel_alloc ?_ _)) hbdA.size) ?_; intro v5' w2 ho5' hg2 hgr2; have hk2 := Ks.of_grown (S := fun i => (Value.slice A50 k c50).ownBlock = some i) hg2 (fun k hk => hk); have hb2 := Ks.below (w0 := w) (B := w.heap.size) (hbdA.trans (Below.mono (by (repeat (first | exact Below.refl _ _ | refine Below.drew ?_ | refine bel_alloc ?_ _))) hbdA.size)) (Nat.le_refl _) hk2 (fun k hk => (World.ownsRow.lt H5 k hk).1); have H62 := own_ks (own_below H6 (by (repeat (first | exact Below.refl _ _ | refine Below.drew ?_ | refine bel_alloc ?_ _)))) hk2 (fun g hg e => own_ne_own H6 H5 (by decide) hg e); have KEEP := fun (b i : Nat) (u : Value) (hb : wA.heap.size ≤ b) => grown_cell (b := b) (i := i) (u := u) hg2 (ne_of_lt (fun g hg => (World.ownsRow.lt H5 g hg).2) hb); have hnt : (Value.slice A50 k c50).ownBlock ≠ some tb' := own_ne_blk H5 hX (by decide); have hX2 := grown_blk hg2 hnt (hX.below (by (repeat (first | exact Below.refl _ _ | refine Below.drew ?_ | refine bel_alloc ?_ _)))); have y0 := hX2.c3.1; have y1 := hX2.c3.2.1; have y2 := hX2.c3.2.2)) | ((refine step_append_rw kindT (by rfl) (.tmp 36) (.tmp 38) (by rfl) w.heap.size (.slice A60 k c60) k (tvs9 N k) (by rfl) (own_below H62 (by repeat (first | exact Below.refl _ _ | refine Below.drew ?_ | refine bel_alloc ?_ _))) _ 1 1 [.int .i64 a1, .int .i64 a2, .bool a3] (by rfl) (by rfl) (rw_three (by first | (simp; done) | (apply KEEP <;> simp)) (by first | (simp; done) | (apply KEEP <;> simp)) (by first | (simp; done) | (apply KEEP <;> simp))) (by simp) (by simp [Value.oneCell']) (by omega) (by omega) (size_of (a := w2) (by repeat (first | exact Below.refl _ _ | refine Below.drew ?_ | refine bel_alloc ?_ _)) hb2.size) ?_; intro v6' w3 ho6' hg3 hgr3; have hk3 := Ks.of_grown (S := fun i => (Value.slice A60 k c60).ownBlock = some i) hg3 (fun k hk => hk); have hb3 := Ks.below (w0 := w) (B := w.heap.size) (hb2.trans (Below.mono (by (repeat (first | exact Below.refl _ _ | refine Below.drew ?_ | refine bel_alloc ?_ _))) hb2.size)) (Nat.le_refl _) hk3 (fun k hk => (World.ownsRow.lt H62 k hk).1); have H53 := own_ks (own_below ho5' (by (repeat (first | exact Below.refl _ _ | refine Below.drew ?_ | refine bel_alloc ?_ _)))) hk3 (fun g hg e => own_ne_own ho5' H62 (by decide) hg e); have hnt3 : (Value.slice A60 k c60).ownBlock ≠ some tb' := (fun e => absurd (L6 tb' e) (Nat.lt_irrefl _)); have hX3 := grown_blk hg3 hnt3 (hX2.below (by (repeat (first | exact Below.refl _ _ | refine Below.drew ?_ | refine bel_alloc ?_ _)))); have z0 := hX3.c3.1; have z1 := hX3.c3.2.1; have z2 := hX3.c3.2.2)))
      all_goals
        have G1 := Lib.hid H53
        have G2 := Lib.hid ho6'
        have G3 := Lib.hid hb3
        clear H53 ho6' hb3 H5 H6 hX L6 x0 x1 x2 hbdA KEEP H62 hX2 hX3 y0 y1 y2 z0 z1 z2 hk2 hk3 hb2 ho5' hg2 hg3 hgr2 hgr3 hnt hnt3
        go_wp2
        go_roundw
        case rel => exact ⟨k + 1, hlt, by go_num, by rw [HCS.out]; exact G1.out, by rw [HTS.out]; exact G2.out, G3.out⟩
        case measure => simp [intOf]; omega
    · obtain rfl : k = n := by omega
      obtain ⟨A5, c5, rfl, _⟩ := own_slice ho5
      obtain ⟨A6, c6, rfl, _⟩ := own_slice ho6
      have HCR := Lib.hid (CR.of_rw (own_rw ho5 rfl).2.2.2 HNL.out)
      have HTR := Lib.hid (TR.of_rw (own_rw ho6 rfl).2.2.2 HNL.out)
      have HBW := Lib.hid hbw
      clear ho5 ho6 hbw
      obtain ⟨wq, hwq⟩ : ∃ wq, wq = wr := ⟨_, rfl⟩
      subst hwq
      obtain ⟨x, y, a, b, e1, e2, p1, p2, hr⟩ := both_sum N k
      have h1 := tsum_any A5 k c5 N wq HCR.out (by omega)
      have h2 := rsum_any A6 k c6 N wq HTR.out (by omega)
      have h3 := as_any p1 p2 a b false
      have e3 : asb a b a b false = true := by unfold asb; rw [hr]; simp
      rw [e1] at h1
      rw [e2] at h2
      rw [e3] at h3
      unfold tq at h2 h3
      have q0 := pt_self pt_zero
      clear e1 e2 e3 p1 p2 hr
      go_wp2_with fail
      refine h1.mono ?_
      rintro e w' ⟨rfl, rfl⟩
      go_wp2_with fail
      refine h2.mono ?_
      rintro e w2 ⟨rfl, hb2⟩
      go_wp2_with fail
      refine (h3 _).mono ?_
      rintro e w3 ⟨rfl, hb3⟩
      have HB3 := Lib.hid (hb2.trans (hb3.mono hb2.size))
      clear h1 h2 h3 hb2 hb3
      go_wp2
      go_loopw [10] (fun v10 wr => ∃ i : Nat, 1 ≤ i ∧ v10 = .int .i64 i ∧ Below wq.heap.size wq wr) (fun v10 _ => k - (intOf v10).toNat)
      case atStart => exact ⟨1, Nat.le_refl _, rfl, HB3.out⟩
      case round =>
        obtain ⟨i, hi1, rfl, hb⟩ := hrel
        by_cases hlt : i < k
        · obtain ⟨j, hj⟩ : ∃ j, i = j + 1 := ⟨i - 1, by omega⟩
          have hji : (j : Int) < k := by omega
          have hii : (i : Int) < k := by omega
          have e4 : IntKind.i64.wrap ((i : Int) - 1) = (j : Int) := by rw [hj, Int.natCast_add]; rw [show (j : Int) + ((1 : Nat) : Int) - 1 = j by omega]; exact IntWalk.i64_in _ (by omega)
          have hjk : j < k := by omega
          clear hj
          obtain ⟨g5, o5, x1, y1, rfl, cA1, pA1, pA2⟩ := HCR.out.2 j hjk
          obtain ⟨_, _, x2, y2, he, cB1, pB1, pB2⟩ := HCR.out.2 i hlt
          injection he with he
          injection he with he1 he2
          subst he1 he2
          obtain ⟨g6, o6, rfl, cA2, cA3, cA4⟩ := HTR.out.2 j hjk
          obtain ⟨_, _, he, cB2, cB3, cB4⟩ := HTR.out.2 i hlt
          injection he with he
          injection he with he1 he2
          subst he1 he2
          have C : ∀ w', Below wq.heap.size wq w' → w'.cell? ⟨g5, o5 + j, none⟩ = some (.complex .f64 x1 y1) ∧ w'.cell? ⟨g5, o5 + i, none⟩ = some (.complex .f64 x2 y2) ∧ w'.cell? ⟨g6, o6 + j * 3, none⟩ = some (.int .i64 (ta (N.getD j (0, 0)))) ∧ w'.cell? ⟨g6, o6 + j * 3 + 1, none⟩ = some (.int .i64 (tb (N.getD j (0, 0)))) ∧ w'.cell? ⟨g6, o6 + j * 3 + 2, none⟩ = some (.bool (!rt (N.getD j (0, 0)).1 (N.getD j (0, 0)).2)) ∧ w'.cell? ⟨g6, o6 + i * 3, none⟩ = some (.int .i64 (ta (N.getD i (0, 0)))) ∧ w'.cell? ⟨g6, o6 + i * 3 + 1, none⟩ = some (.int .i64 (tb (N.getD i (0, 0)))) ∧ w'.cell? ⟨g6, o6 + i * 3 + 2, none⟩ = some (.bool (!rt (N.getD i (0, 0)).1 (N.getD i (0, 0)).2)) := fun w' h => ⟨(h.cell (lt_of_cell cA1)).trans cA1, (h.cell (lt_of_cell cB1)).trans cB1, (h.cell (lt_of_cell cA2)).trans cA2, (h.cell (lt_of_cell cA3)).trans cA3, (h.cell (lt_of_cell cA4)).trans cA4, (h.cell (lt_of_cell cB2)).trans cB2, (h.cell (lt_of_cell cB3)).trans cB3, (h.cell (lt_of_cell cB4)).trans cB4⟩
          clear cA1 cB1 cA2 cA3 cA4 cB2 cB3 cB4
          have hwo := without_any pA1 pA2 pB1 pB2
          obtain ⟨s, hs1, hs2⟩ := both_share pA1 pA2 pB1 pB2
          obtain ⟨tx, ty, u, v, ht1, ht2, ht3⟩ := both_times pB1 pB2 tk tk1
          generalize N.getD j (0, 0) = p at *
          generalize N.getD i (0, 0) = q at *
          obtain ⟨pa, pb⟩ := p
          obtain ⟨qa, qb⟩ := q
          simp only at hwo C hs2 ht2
          clear pA1 pA2 pB1 pB2 hi1 hlt hjk
          cases hp : rt pa pb
          · simp only [hp, Bool.false_and, Bool.false_eq_true, if_false, Bool.not_false] at hwo C hs2
            clear hp
            go_wp2
            have hS := hb.drew
            clear hb
            refine Seq.wp_region_seq (fun w' => Below wq.heap.size wq w') (by kernel_rfl) (by kernel_rfl) hS ?_
            generalize wr.drew = wd at *
            repeat (first | (refine Seq.Seq.skip (by rfl) ?_; (try simp only [Act.put, List.setIfInBounds_toArray, List.set_cons_zero, List.set_cons_succ])) | (refine Seq.Seq.det ?_ (by rfl) (fun w hS => ?_) ?_; rotate_left; ((try dsimp only at hS); go_simp; (try rw [if_pos (by omega)]); with_reducible rfl); (try simp only [Act.put, List.setIfInBounds_toArray, List.set_cons_zero, List.set_cons_succ])))
            refine Seq.Seq.make (by rfl) (by rfl) (fun K Q' hK => ?_)
            go_simp
            go_at_call 18
            with_reducible refine (hwo _).mono ?_
            rintro e w' ⟨rfl, rfl⟩
            refine hK.out _ _ (hS) ?_
            clear hK K
            try simp only [Act.put, List.setIfInBounds_toArray, List.set_cons_zero, List.set_cons_succ]
            repeat (first | (refine Seq.Seq.skip (by rfl) ?_; (try simp only [Act.put, List.setIfInBounds_toArray, List.set_cons_zero, List.set_cons_succ])) | (refine Seq.Seq.det ?_ (by rfl) (fun w hS => ?_) ?_; rotate_left; ((try dsimp only at hS); go_simp; (try rw [if_pos (by omega)]); with_reducible rfl); (try simp only [Act.put, List.setIfInBounds_toArray, List.set_cons_zero, List.set_cons_succ])))
            refine Seq.Seq.nil ?_
            go_wp2
            replace hS := hS.drew
            refine Seq.wp_region_seq (fun w' => Below wq.heap.size wq w') (by kernel_rfl) (by kernel_rfl) hS ?_
            generalize wd.drew = we at *
            repeat (first | (refine Seq.Seq.skip (by rfl) ?_; (try simp only [Act.put, List.setIfInBounds_toArray, List.set_cons_zero, List.set_cons_succ])) | (refine Seq.Seq.det ?_ (by rfl) (fun w hS => ?_) ?_; rotate_left; ((try dsimp only at hS); go_simp; (try rw [if_pos (by omega)]); with_reducible rfl); (try simp only [Act.put, List.setIfInBounds_toArray, List.set_cons_zero, List.set_cons_succ])))
            refine Seq.Seq.nil ?_
            go_wp2
            replace hS := hS.drew
            refine Seq.wp_region_seq (fun w' => Below wq.heap.size wq w') (by kernel_rfl) (by kernel_rfl) hS ?_
            generalize we.drew = wg at *
            repeat (first | (refine Seq.Seq.skip (by rfl) ?_; (try simp only [Act.put, List.setIfInBounds_toArray, List.set_cons_zero, List.set_cons_succ])) | (refine Seq.Seq.det ?_ (by rfl) (fun w hS => ?_) ?_; rotate_left; ((try dsimp only at hS); go_simp; (try rw [if_pos (by omega)]); with_reducible rfl); (try simp only [Act.put, List.setIfInBounds_toArray, List.set_cons_zero, List.set_cons_succ])))
            refine Seq.Seq.make (by rfl) (by rfl) (fun K Q' hK => ?_)
            go_simp
            go_at_call 20
            with_reducible refine (hs1 _).mono ?_
            rintro e w' ⟨rfl, rfl⟩
            refine hK.out _ _ (hS) ?_
            clear hK K
            try simp only [Act.put, List.setIfInBounds_toArray, List.set_cons_zero, List.set_cons_succ]
            repeat (first | (refine Seq.Seq.skip (by rfl) ?_; (try simp only [Act.put, List.setIfInBounds_toArray, List.set_cons_zero, List.set_cons_succ])) | (refine Seq.Seq.det ?_ (by rfl) (fun w hS => ?_) ?_; rotate_left; ((try dsimp only at hS); go_simp; (try rw [if_pos (by omega)]); with_reducible rfl); (try simp only [Act.put, List.setIfInBounds_toArray, List.set_cons_zero, List.set_cons_succ])))
            refine Seq.Seq.make (by rfl) (by rfl) (fun K Q' hK => ?_)
            go_simp
            go_at_call 21
            with_reducible refine (hs2 _).mono ?_
            rintro e w5 ⟨rfl, hb5⟩
            have hS5 := hS.trans (hb5.mono hS.size)
            refine hK.out _ _ (hS5) ?_
            clear hK K
            try simp only [Act.put, List.setIfInBounds_toArray, List.set_cons_zero, List.set_cons_succ]
            repeat (first | (refine Seq.Seq.skip (by rfl) ?_; (try simp only [Act.put, List.setIfInBounds_toArray, List.set_cons_zero, List.set_cons_succ])) | (refine Seq.Seq.det ?_ (by rfl) (fun w hS => ?_) ?_; rotate_left; ((try dsimp only at hS); go_simp; (try rw [if_pos (by omega)]); with_reducible rfl); (try simp only [Act.put, List.setIfInBounds_toArray, List.set_cons_zero, List.set_cons_succ])))
            refine Seq.Seq.nil ?_
            clear hS hb5
            go_wp2
            have hS := hS5.drew
            clear hS5
            refine Seq.wp_region_seq (fun w' => Below wq.heap.size wq w') (by kernel_rfl) (by kernel_rfl) hS ?_
            generalize w5.drew = wf at *
            repeat (first | (refine Seq.Seq.skip (by rfl) ?_; (try simp only [Act.put, List.setIfInBounds_toArray, List.set_cons_zero, List.set_cons_succ])) | (refine Seq.Seq.det ?_ (by rfl) (fun w hS => ?_) ?_; rotate_left; ((try dsimp only at hS); go_simp; (try rw [if_pos (by omega)]); with_reducible rfl); (try simp only [Act.put, List.setIfInBounds_toArray, List.set_cons_zero, List.set_cons_succ])))
            refine Seq.Seq.make (by rfl) (by rfl) (fun K Q' hK => ?_)
            go_simp
            go_at_call 22
            with_reducible refine (ht1 _).mono ?_
            rintro e w' ⟨rfl, rfl⟩
            refine hK.out _ _ (hS) ?_
            clear hK K
            try simp only [Act.put, List.setIfInBounds_toArray, List.set_cons_zero, List.set_cons_succ]
            repeat (first | (refine Seq.Seq.skip (by rfl) ?_; (try simp only [Act.put, List.setIfInBounds_toArray, List.set_cons_zero, List.set_cons_succ])) | (refine Seq.Seq.det ?_ (by rfl) (fun w hS => ?_) ?_; rotate_left; ((try dsimp only at hS); go_simp; (try rw [if_pos (by omega)]); with_reducible rfl); (try simp only [Act.put, List.setIfInBounds_toArray, List.set_cons_zero, List.set_cons_succ])))
            refine Seq.Seq.make (by rfl) (by rfl) (fun K Q' hK => ?_)
            go_simp
            go_at_call 23
            with_reducible refine (ht2 _).mono ?_
            rintro e w6 ⟨rfl, hb6⟩
            have hS6 := hS.trans (hb6.mono hS.size)
            refine hK.out _ _ (hS6) ?_
            clear hK K
            try simp only [Act.put, List.setIfInBounds_toArray, List.set_cons_zero, List.set_cons_succ]
            repeat (first | (refine Seq.Seq.skip (by rfl) ?_; (try simp only [Act.put, List.setIfInBounds_toArray, List.set_cons_zero, List.set_cons_succ])) | (refine Seq.Seq.det ?_ (by rfl) (fun w hS => ?_) ?_; rotate_left; ((try dsimp only at hS); go_simp; (try rw [if_pos (by omega)]); with_reducible rfl); (try simp only [Act.put, List.setIfInBounds_toArray, List.set_cons_zero, List.set_cons_succ])))
            refine Seq.Seq.make (by rfl) (by rfl) (fun K Q' hK => ?_)
            go_simp
            go_at_call 9
            with_reducible refine (ht3 _).mono ?_
            rintro e w7 ⟨rfl, hb7⟩
            have hS7 := hS6.trans (hb7.mono hS6.size)
            refine hK.out _ _ (hS7) ?_
            clear hK K
            try simp only [Act.put, List.setIfInBounds_toArray, List.set_cons_zero, List.set_cons_succ]
            repeat (first | (refine Seq.Seq.skip (by rfl) ?_; (try simp only [Act.put, List.setIfInBounds_toArray, List.set_cons_zero, List.set_cons_succ])) | (refine Seq.Seq.det ?_ (by rfl) (fun w hS => ?_) ?_; rotate_left; ((try dsimp only at hS); go_simp; (try rw [if_pos (by omega)]); with_reducible rfl); (try simp only [Act.put, List.setIfInBounds_toArray, List.set_cons_zero, List.set_cons_succ])))
            refine Seq.Seq.nil ?_
            have HS7 := Lib.hid hS7
            clear hS hS6 hS7 hb6 hb7 C
            go_wp2
            go_roundw
            case rel => exact ⟨i + 1, by omega, by go_num, HS7.out⟩
            case measure => simp [intOf]; omega
          · cases hq : rt qa qb
            · simp only [hp, hq, Bool.true_and, Bool.false_eq_true, if_false, Bool.not_false, Bool.not_true] at hwo C hs2 ht2
              clear hp hq
              go_wp2
              have hS := hb.drew
              clear hb
              refine Seq.wp_region_seq (fun w' => Below wq.heap.size wq w') (by kernel_rfl) (by kernel_rfl) hS ?_
              generalize wr.drew = wd at *
              repeat (first | (refine Seq.Seq.skip (by rfl) ?_; (try simp only [Act.put, List.setIfInBounds_toArray, List.set_cons_zero, List.set_cons_succ])) | (refine Seq.Seq.det ?_ (by rfl) (fun w hS => ?_) ?_; rotate_left; ((try dsimp only at hS); go_simp; (try rw [if_pos (by omega)]); with_reducible rfl); (try simp only [Act.put, List.setIfInBounds_toArray, List.set_cons_zero, List.set_cons_succ])))
              refine Seq.Seq.make (by rfl) (by rfl) (fun K Q' hK => ?_)
              go_simp
              go_at_call 18
              with_reducible refine (hwo _).mono ?_
              rintro e w' ⟨rfl, rfl⟩
              refine hK.out _ _ (hS) ?_
              clear hK K
              try simp only [Act.put, List.setIfInBounds_toArray, List.set_cons_zero, List.set_cons_succ]
              repeat (first | (refine Seq.Seq.skip (by rfl) ?_; (try simp only [Act.put, List.setIfInBounds_toArray, List.set_cons_zero, List.set_cons_succ])) | (refine Seq.Seq.det ?_ (by rfl) (fun w hS => ?_) ?_; rotate_left; ((try dsimp only at hS); go_simp; (try rw [if_pos (by omega)]); with_reducible rfl); (try simp only [Act.put, List.setIfInBounds_toArray, List.set_cons_zero, List.set_cons_succ])))
              refine Seq.Seq.nil ?_
              go_wp2
              replace hS := hS.drew
              refine Seq.wp_region_seq (fun w' => Below wq.heap.size wq w') (by kernel_rfl) (by kernel_rfl) hS ?_
              generalize wd.drew = we at *
              repeat (first | (refine Seq.Seq.skip (by rfl) ?_; (try simp only [Act.put, List.setIfInBounds_toArray, List.set_cons_zero, List.set_cons_succ])) | (refine Seq.Seq.det ?_ (by rfl) (fun w hS => ?_) ?_; rotate_left; ((try dsimp only at hS); go_simp; (try rw [if_pos (by omega)]); with_reducible rfl); (try simp only [Act.put, List.setIfInBounds_toArray, List.set_cons_zero, List.set_cons_succ])))
              refine Seq.Seq.nil ?_
              go_wp2
              replace hS := hS.drew
              refine Seq.wp_region_seq (fun w' => Below wq.heap.size wq w') (by kernel_rfl) (by kernel_rfl) hS ?_
              generalize we.drew = wg at *
              repeat (first | (refine Seq.Seq.skip (by rfl) ?_; (try simp only [Act.put, List.setIfInBounds_toArray, List.set_cons_zero, List.set_cons_succ])) | (refine Seq.Seq.det ?_ (by rfl) (fun w hS => ?_) ?_; rotate_left; ((try dsimp only at hS); go_simp; (try rw [if_pos (by omega)]); with_reducible rfl); (try simp only [Act.put, List.setIfInBounds_toArray, List.set_cons_zero, List.set_cons_succ])))
              refine Seq.Seq.make (by rfl) (by rfl) (fun K Q' hK => ?_)
              go_simp
              go_at_call 20
              with_reducible refine (hs1 _).mono ?_
              rintro e w' ⟨rfl, rfl⟩
              refine hK.out _ _ (hS) ?_
              clear hK K
              try simp only [Act.put, List.setIfInBounds_toArray, List.set_cons_zero, List.set_cons_succ]
              repeat (first | (refine Seq.Seq.skip (by rfl) ?_; (try simp only [Act.put, List.setIfInBounds_toArray, List.set_cons_zero, List.set_cons_succ])) | (refine Seq.Seq.det ?_ (by rfl) (fun w hS => ?_) ?_; rotate_left; ((try dsimp only at hS); go_simp; (try rw [if_pos (by omega)]); with_reducible rfl); (try simp only [Act.put, List.setIfInBounds_toArray, List.set_cons_zero, List.set_cons_succ])))
              refine Seq.Seq.make (by rfl) (by rfl) (fun K Q' hK => ?_)
              go_simp
              go_at_call 21
              with_reducible refine (hs2 _).mono ?_
              rintro e w5 ⟨rfl, hb5⟩
              have hS5 := hS.trans (hb5.mono hS.size)
              refine hK.out _ _ (hS5) ?_
              clear hK K
              try simp only [Act.put, List.setIfInBounds_toArray, List.set_cons_zero, List.set_cons_succ]
              repeat (first | (refine Seq.Seq.skip (by rfl) ?_; (try simp only [Act.put, List.setIfInBounds_toArray, List.set_cons_zero, List.set_cons_succ])) | (refine Seq.Seq.det ?_ (by rfl) (fun w hS => ?_) ?_; rotate_left; ((try dsimp only at hS); go_simp; (try rw [if_pos (by omega)]); with_reducible rfl); (try simp only [Act.put, List.setIfInBounds_toArray, List.set_cons_zero, List.set_cons_succ])))
              refine Seq.Seq.nil ?_
              clear hS hb5
              go_wp2
              have hS := hS5.drew
              clear hS5
              refine Seq.wp_region_seq (fun w' => Below wq.heap.size wq w') (by kernel_rfl) (by kernel_rfl) hS ?_
              generalize w5.drew = wf at *
              repeat (first | (refine Seq.Seq.skip (by rfl) ?_; (try simp only [Act.put, List.setIfInBounds_toArray, List.set_cons_zero, List.set_cons_succ])) | (refine Seq.Seq.det ?_ (by rfl) (fun w hS => ?_) ?_; rotate_left; ((try dsimp only at hS); go_simp; (try rw [if_pos (by omega)]); with_reducible rfl); (try simp only [Act.put, List.setIfInBounds_toArray, List.set_cons_zero, List.set_cons_succ])))
              refine Seq.Seq.make (by rfl) (by rfl) (fun K Q' hK => ?_)
              go_simp
              go_at_call 22
              with_reducible refine (ht1 _).mono ?_
              rintro e w' ⟨rfl, rfl⟩
              refine hK.out _ _ (hS) ?_
              clear hK K
              try simp only [Act.put, List.setIfInBounds_toArray, List.set_cons_zero, List.set_cons_succ]
              repeat (first | (refine Seq.Seq.skip (by rfl) ?_; (try simp only [Act.put, List.setIfInBounds_toArray, List.set_cons_zero, List.set_cons_succ])) | (refine Seq.Seq.det ?_ (by rfl) (fun w hS => ?_) ?_; rotate_left; ((try dsimp only at hS); go_simp; (try rw [if_pos (by omega)]); with_reducible rfl); (try simp only [Act.put, List.setIfInBounds_toArray, List.set_cons_zero, List.set_cons_succ])))
              refine Seq.Seq.make (by rfl) (by rfl) (fun K Q' hK => ?_)
              go_simp
              go_at_call 23
              with_reducible refine (ht2 _).mono ?_
              rintro e w6 ⟨rfl, hb6⟩
              have hS6 := hS.trans (hb6.mono hS.size)
              refine hK.out _ _ (hS6) ?_
              clear hK K
              try simp only [Act.put, List.setIfInBounds_toArray, List.set_cons_zero, List.set_cons_succ]
              repeat (first | (refine Seq.Seq.skip (by rfl) ?_; (try simp only [Act.put, List.setIfInBounds_toArray, List.set_cons_zero, List.set_cons_succ])) | (refine Seq.Seq.det ?_ (by rfl) (fun w hS => ?_) ?_; rotate_left; ((try dsimp only at hS); go_simp; (try rw [if_pos (by omega)]); with_reducible rfl); (try simp only [Act.put, List.setIfInBounds_toArray, List.set_cons_zero, List.set_cons_succ])))
              refine Seq.Seq.make (by rfl) (by rfl) (fun K Q' hK => ?_)
              go_simp
              go_at_call 9
              with_reducible refine (ht3 _).mono ?_
              rintro e w7 ⟨rfl, hb7⟩
              have hS7 := hS6.trans (hb7.mono hS6.size)
              refine hK.out _ _ (hS7) ?_
              clear hK K
              try simp only [Act.put, List.setIfInBounds_toArray, List.set_cons_zero, List.set_cons_succ]
              repeat (first | (refine Seq.Seq.skip (by rfl) ?_; (try simp only [Act.put, List.setIfInBounds_toArray, List.set_cons_zero, List.set_cons_succ])) | (refine Seq.Seq.det ?_ (by rfl) (fun w hS => ?_) ?_; rotate_left; ((try dsimp only at hS); go_simp; (try rw [if_pos (by omega)]); with_reducible rfl); (try simp only [Act.put, List.setIfInBounds_toArray, List.set_cons_zero, List.set_cons_succ])))
              refine Seq.Seq.nil ?_
              have HS7 := Lib.hid hS7
              clear hS hS6 hS7 hb6 hb7 C
              go_wp2
              go_roundw
              case rel => exact ⟨i + 1, by omega, by go_num, HS7.out⟩
              case measure => simp [intOf]; omega
            · have ea : ta (pa, pb) = pa := by show (if rt pa pb = true then pa else 0) = pa; rw [hp]; rfl
              have eb : tb (pa, pb) = pb := by show (if rt pa pb = true then pb else 0) = pb; rw [hp]; rfl
              have ec : ta (qa, qb) = qa := by show (if rt qa qb = true then qa else 0) = qa; rw [hq]; rfl
              have ed : tb (qa, qb) = qb := by show (if rt qa qb = true then qb else 0) = qb; rw [hq]; rfl
              have hbp := rt_bd hp
              have hbq := rt_bd hq
              have e5 : IntKind.i64.wrap (pa - qa) = pa - qa := IntWalk.i64_in _ (by omega)
              have e6 : IntKind.i64.wrap (pb - qb) = pb - qb := IntWalk.i64_in _ (by omega)
              simp only [hp, hq, ea, eb, ec, ed, Bool.and_self, if_true, Bool.not_true] at hwo C hs2 ht2
              have hri := rright_any (pa - qa) (pb - qb)
              have hof := rof_any (pa - qa) (pb - qb)
              obtain ⟨da, hda⟩ : ∃ x, pa - qa = x := ⟨_, rfl⟩
              obtain ⟨db, hdb⟩ : ∃ x, pb - qb = x := ⟨_, rfl⟩
              rw [hda, hdb] at hri hof hwo
              replace e5 : IntKind.i64.wrap (pa - qa) = da := e5.trans hda
              replace e6 : IntKind.i64.wrap (pb - qb) = db := e6.trans hdb
              clear ea eb ec ed hbp hbq hp hq hda hdb
              cases hd : rt da db
              · rw [nz_not hd] at hwo
                rw [hd] at hwo hri
                rw [if_neg (by decide)] at hwo
                clear hd hof
                go_wp2
                have hS := hb.drew
                clear hb
                refine Seq.wp_region_seq (fun w' => Below wq.heap.size wq w') (by kernel_rfl) (by kernel_rfl) hS ?_
                generalize wr.drew = wd at *
                repeat (first | (refine Seq.Seq.skip (by rfl) ?_; (try simp only [Act.put, List.setIfInBounds_toArray, List.set_cons_zero, List.set_cons_succ])) | (refine Seq.Seq.det ?_ (by rfl) (fun w hS => ?_) ?_; rotate_left; ((try dsimp only at hS); go_simp; (try rw [if_pos (by omega)]); with_reducible rfl); (try simp only [Act.put, List.setIfInBounds_toArray, List.set_cons_zero, List.set_cons_succ])))
                refine Seq.Seq.make (by rfl) (by rfl) (fun K Q' hK => ?_)
                go_simp
                go_at_call 18
                with_reducible refine (hwo _).mono ?_
                rintro e w' ⟨rfl, rfl⟩
                refine hK.out _ _ (hS) ?_
                clear hK K
                try simp only [Act.put, List.setIfInBounds_toArray, List.set_cons_zero, List.set_cons_succ]
                repeat (first | (refine Seq.Seq.skip (by rfl) ?_; (try simp only [Act.put, List.setIfInBounds_toArray, List.set_cons_zero, List.set_cons_succ])) | (refine Seq.Seq.det ?_ (by rfl) (fun w hS => ?_) ?_; rotate_left; ((try dsimp only at hS); go_simp; (try rw [if_pos (by omega)]); with_reducible rfl); (try simp only [Act.put, List.setIfInBounds_toArray, List.set_cons_zero, List.set_cons_succ])))
                refine Seq.Seq.nil ?_
                go_wp2
                replace hS := hS.drew
                refine Seq.wp_region_seq (fun w' => Below wq.heap.size wq w') (by kernel_rfl) (by kernel_rfl) hS ?_
                generalize wd.drew = we at *
                repeat (first | (refine Seq.Seq.skip (by rfl) ?_; (try simp only [Act.put, List.setIfInBounds_toArray, List.set_cons_zero, List.set_cons_succ])) | (refine Seq.Seq.det ?_ (by rfl) (fun w hS => ?_) ?_; rotate_left; ((try dsimp only at hS); go_simp; (try rw [if_pos (by omega)]); with_reducible rfl); (try simp only [Act.put, List.setIfInBounds_toArray, List.set_cons_zero, List.set_cons_succ])))
                refine Seq.Seq.make (by rfl) (by rfl) (fun K Q' hK => ?_)
                go_simp
                go_at_call 19
                with_reducible refine (hri _).mono ?_
                rintro e w' ⟨rfl, rfl⟩
                refine hK.out _ _ (hS) ?_
                clear hK K
                try simp only [Act.put, List.setIfInBounds_toArray, List.set_cons_zero, List.set_cons_succ]
                repeat (first | (refine Seq.Seq.skip (by rfl) ?_; (try simp only [Act.put, List.setIfInBounds_toArray, List.set_cons_zero, List.set_cons_succ])) | (refine Seq.Seq.det ?_ (by rfl) (fun w hS => ?_) ?_; rotate_left; ((try dsimp only at hS); go_simp; (try rw [if_pos (by omega)]); with_reducible rfl); (try simp only [Act.put, List.setIfInBounds_toArray, List.set_cons_zero, List.set_cons_succ])))
                refine Seq.Seq.nil ?_
                go_wp2
                replace hS := hS.drew
                refine Seq.wp_region_seq (fun w' => Below wq.heap.size wq w') (by kernel_rfl) (by kernel_rfl) hS ?_
                generalize we.drew = wg at *
                repeat (first | (refine Seq.Seq.skip (by rfl) ?_; (try simp only [Act.put, List.setIfInBounds_toArray, List.set_cons_zero, List.set_cons_succ])) | (refine Seq.Seq.det ?_ (by rfl) (fun w hS => ?_) ?_; rotate_left; ((try dsimp only at hS); go_simp; (try rw [if_pos (by omega)]); with_reducible rfl); (try simp only [Act.put, List.setIfInBounds_toArray, List.set_cons_zero, List.set_cons_succ])))
                refine Seq.Seq.make (by rfl) (by rfl) (fun K Q' hK => ?_)
                go_simp
                go_at_call 20
                with_reducible refine (hs1 _).mono ?_
                rintro e w' ⟨rfl, rfl⟩
                refine hK.out _ _ (hS) ?_
                clear hK K
                try simp only [Act.put, List.setIfInBounds_toArray, List.set_cons_zero, List.set_cons_succ]
                repeat (first | (refine Seq.Seq.skip (by rfl) ?_; (try simp only [Act.put, List.setIfInBounds_toArray, List.set_cons_zero, List.set_cons_succ])) | (refine Seq.Seq.det ?_ (by rfl) (fun w hS => ?_) ?_; rotate_left; ((try dsimp only at hS); go_simp; (try rw [if_pos (by omega)]); with_reducible rfl); (try simp only [Act.put, List.setIfInBounds_toArray, List.set_cons_zero, List.set_cons_succ])))
                refine Seq.Seq.make (by rfl) (by rfl) (fun K Q' hK => ?_)
                go_simp
                go_at_call 21
                with_reducible refine (hs2 _).mono ?_
                rintro e w5 ⟨rfl, hb5⟩
                have hS5 := hS.trans (hb5.mono hS.size)
                refine hK.out _ _ (hS5) ?_
                clear hK K
                try simp only [Act.put, List.setIfInBounds_toArray, List.set_cons_zero, List.set_cons_succ]
                repeat (first | (refine Seq.Seq.skip (by rfl) ?_; (try simp only [Act.put, List.setIfInBounds_toArray, List.set_cons_zero, List.set_cons_succ])) | (refine Seq.Seq.det ?_ (by rfl) (fun w hS => ?_) ?_; rotate_left; ((try dsimp only at hS); go_simp; (try rw [if_pos (by omega)]); with_reducible rfl); (try simp only [Act.put, List.setIfInBounds_toArray, List.set_cons_zero, List.set_cons_succ])))
                refine Seq.Seq.nil ?_
                clear hS hb5
                go_wp2
                have hS := hS5.drew
                clear hS5
                refine Seq.wp_region_seq (fun w' => Below wq.heap.size wq w') (by kernel_rfl) (by kernel_rfl) hS ?_
                generalize w5.drew = wf at *
                repeat (first | (refine Seq.Seq.skip (by rfl) ?_; (try simp only [Act.put, List.setIfInBounds_toArray, List.set_cons_zero, List.set_cons_succ])) | (refine Seq.Seq.det ?_ (by rfl) (fun w hS => ?_) ?_; rotate_left; ((try dsimp only at hS); go_simp; (try rw [if_pos (by omega)]); with_reducible rfl); (try simp only [Act.put, List.setIfInBounds_toArray, List.set_cons_zero, List.set_cons_succ])))
                refine Seq.Seq.make (by rfl) (by rfl) (fun K Q' hK => ?_)
                go_simp
                go_at_call 22
                with_reducible refine (ht1 _).mono ?_
                rintro e w' ⟨rfl, rfl⟩
                refine hK.out _ _ (hS) ?_
                clear hK K
                try simp only [Act.put, List.setIfInBounds_toArray, List.set_cons_zero, List.set_cons_succ]
                repeat (first | (refine Seq.Seq.skip (by rfl) ?_; (try simp only [Act.put, List.setIfInBounds_toArray, List.set_cons_zero, List.set_cons_succ])) | (refine Seq.Seq.det ?_ (by rfl) (fun w hS => ?_) ?_; rotate_left; ((try dsimp only at hS); go_simp; (try rw [if_pos (by omega)]); with_reducible rfl); (try simp only [Act.put, List.setIfInBounds_toArray, List.set_cons_zero, List.set_cons_succ])))
                refine Seq.Seq.make (by rfl) (by rfl) (fun K Q' hK => ?_)
                go_simp
                go_at_call 23
                with_reducible refine (ht2 _).mono ?_
                rintro e w6 ⟨rfl, hb6⟩
                have hS6 := hS.trans (hb6.mono hS.size)
                refine hK.out _ _ (hS6) ?_
                clear hK K
                try simp only [Act.put, List.setIfInBounds_toArray, List.set_cons_zero, List.set_cons_succ]
                repeat (first | (refine Seq.Seq.skip (by rfl) ?_; (try simp only [Act.put, List.setIfInBounds_toArray, List.set_cons_zero, List.set_cons_succ])) | (refine Seq.Seq.det ?_ (by rfl) (fun w hS => ?_) ?_; rotate_left; ((try dsimp only at hS); go_simp; (try rw [if_pos (by omega)]); with_reducible rfl); (try simp only [Act.put, List.setIfInBounds_toArray, List.set_cons_zero, List.set_cons_succ])))
                refine Seq.Seq.make (by rfl) (by rfl) (fun K Q' hK => ?_)
                go_simp
                go_at_call 9
                with_reducible refine (ht3 _).mono ?_
                rintro e w7 ⟨rfl, hb7⟩
                have hS7 := hS6.trans (hb7.mono hS6.size)
                refine hK.out _ _ (hS7) ?_
                clear hK K
                try simp only [Act.put, List.setIfInBounds_toArray, List.set_cons_zero, List.set_cons_succ]
                repeat (first | (refine Seq.Seq.skip (by rfl) ?_; (try simp only [Act.put, List.setIfInBounds_toArray, List.set_cons_zero, List.set_cons_succ])) | (refine Seq.Seq.det ?_ (by rfl) (fun w hS => ?_) ?_; rotate_left; ((try dsimp only at hS); go_simp; (try rw [if_pos (by omega)]); with_reducible rfl); (try simp only [Act.put, List.setIfInBounds_toArray, List.set_cons_zero, List.set_cons_succ])))
                refine Seq.Seq.nil ?_
                have HS7 := Lib.hid hS7
                clear hS hS6 hS7 hb6 hb7 C
                go_wp2
                go_roundw
                case rel => exact ⟨i + 1, by omega, by go_num, HS7.out⟩
                case measure => simp [intOf]; omega
              · obtain ⟨ez, z1, z2⟩ := nzw hd rfl rfl
                have has := as_any z1 z2 da db false
                have e7 : asb da db da db false = true := by unfold asb; rw [hd]; simp
                rw [e7] at has
                unfold tq at has
                have e8 : tof da db = .agg #[.int .i64 da, .int .i64 db, .bool false] := by unfold tof; rw [hd]; rfl
                rw [e8] at hof
                rw [hd, ez, if_pos rfl] at hwo
                rw [hd] at hri
                clear hd e7 e8 z1 z2 ez
                generalize rung da.toNat = dx at *
                generalize rung db.toNat = dy at *
                go_wp2
                have hS := hb.drew
                clear hb
                refine Seq.wp_region_seq (fun w' => Below wq.heap.size wq w') (by kernel_rfl) (by kernel_rfl) hS ?_
                generalize wr.drew = wd at *
                repeat (first | (refine Seq.Seq.skip (by rfl) ?_; (try simp only [Act.put, List.setIfInBounds_toArray, List.set_cons_zero, List.set_cons_succ])) | (refine Seq.Seq.det ?_ (by rfl) (fun w hS => ?_) ?_; rotate_left; ((try dsimp only at hS); go_simp; (try rw [if_pos (by omega)]); with_reducible rfl); (try simp only [Act.put, List.setIfInBounds_toArray, List.set_cons_zero, List.set_cons_succ])))
                refine Seq.Seq.make (by rfl) (by rfl) (fun K Q' hK => ?_)
                go_simp
                go_at_call 18
                with_reducible refine (hwo _).mono ?_
                rintro e w' ⟨rfl, rfl⟩
                refine hK.out _ _ (hS) ?_
                clear hK K
                try simp only [Act.put, List.setIfInBounds_toArray, List.set_cons_zero, List.set_cons_succ]
                repeat (first | (refine Seq.Seq.skip (by rfl) ?_; (try simp only [Act.put, List.setIfInBounds_toArray, List.set_cons_zero, List.set_cons_succ])) | (refine Seq.Seq.det ?_ (by rfl) (fun w hS => ?_) ?_; rotate_left; ((try dsimp only at hS); go_simp; (try rw [if_pos (by omega)]); with_reducible rfl); (try simp only [Act.put, List.setIfInBounds_toArray, List.set_cons_zero, List.set_cons_succ])))
                refine Seq.Seq.nil ?_
                go_wp2
                replace hS := hS.drew
                refine Seq.wp_region_seq (fun w' => Below wq.heap.size wq w') (by kernel_rfl) (by kernel_rfl) hS ?_
                generalize wd.drew = we at *
                repeat (first | (refine Seq.Seq.skip (by rfl) ?_; (try simp only [Act.put, List.setIfInBounds_toArray, List.set_cons_zero, List.set_cons_succ])) | (refine Seq.Seq.det ?_ (by rfl) (fun w hS => ?_) ?_; rotate_left; ((try dsimp only at hS); go_simp; (try rw [if_pos (by omega)]); with_reducible rfl); (try simp only [Act.put, List.setIfInBounds_toArray, List.set_cons_zero, List.set_cons_succ])))
                refine Seq.Seq.make (by rfl) (by rfl) (fun K Q' hK => ?_)
                go_simp
                go_at_call 19
                with_reducible refine (hri _).mono ?_
                rintro e w' ⟨rfl, rfl⟩
                refine hK.out _ _ (hS) ?_
                clear hK K
                try simp only [Act.put, List.setIfInBounds_toArray, List.set_cons_zero, List.set_cons_succ]
                repeat (first | (refine Seq.Seq.skip (by rfl) ?_; (try simp only [Act.put, List.setIfInBounds_toArray, List.set_cons_zero, List.set_cons_succ])) | (refine Seq.Seq.det ?_ (by rfl) (fun w hS => ?_) ?_; rotate_left; ((try dsimp only at hS); go_simp; (try rw [if_pos (by omega)]); with_reducible rfl); (try simp only [Act.put, List.setIfInBounds_toArray, List.set_cons_zero, List.set_cons_succ])))
                refine Seq.Seq.nil ?_
                go_wp2
                replace hS := hS.drew
                refine Seq.wp_region_seq (fun w' => Below wq.heap.size wq w') (by kernel_rfl) (by kernel_rfl) hS ?_
                generalize we.drew = wg at *
                repeat (first | (refine Seq.Seq.skip (by rfl) ?_; (try simp only [Act.put, List.setIfInBounds_toArray, List.set_cons_zero, List.set_cons_succ])) | (refine Seq.Seq.det ?_ (by rfl) (fun w hS => ?_) ?_; rotate_left; ((try dsimp only at hS); go_simp; (try rw [if_pos (by omega)]); with_reducible rfl); (try simp only [Act.put, List.setIfInBounds_toArray, List.set_cons_zero, List.set_cons_succ])))
                refine Seq.Seq.make (by rfl) (by rfl) (fun K Q' hK => ?_)
                go_simp
                go_at_call 8
                with_reducible refine (hof _).mono ?_
                rintro e w3 ⟨rfl, hb3⟩
                have hS3 := hS.trans (hb3.mono hS.size)
                refine hK.out _ _ (hS3) ?_
                clear hK K
                try simp only [Act.put, List.setIfInBounds_toArray, List.set_cons_zero, List.set_cons_succ]
                clear hS hb3
                repeat (first | (refine Seq.Seq.skip (by rfl) ?_; (try simp only [Act.put, List.setIfInBounds_toArray, List.set_cons_zero, List.set_cons_succ])) | (refine Seq.Seq.det ?_ (by rfl) (fun w hS => ?_) ?_; rotate_left; ((try dsimp only at hS); go_simp; (try rw [if_pos (by omega)]); with_reducible rfl); (try simp only [Act.put, List.setIfInBounds_toArray, List.set_cons_zero, List.set_cons_succ])))
                refine Seq.Seq.make (by rfl) (by rfl) (fun K Q' hK => ?_)
                go_simp
                go_at_call 9
                with_reducible refine (has _).mono ?_
                rintro e w4 ⟨rfl, hb4⟩
                have hS4 := hS3.trans (hb4.mono hS3.size)
                refine hK.out _ _ (hS4) ?_
                clear hK K
                try simp only [Act.put, List.setIfInBounds_toArray, List.set_cons_zero, List.set_cons_succ]
                clear hS3 hb4
                have hS := hS4
                clear hS4
                repeat (first | (refine Seq.Seq.skip (by rfl) ?_; (try simp only [Act.put, List.setIfInBounds_toArray, List.set_cons_zero, List.set_cons_succ])) | (refine Seq.Seq.det ?_ (by rfl) (fun w hS => ?_) ?_; rotate_left; ((try dsimp only at hS); go_simp; (try rw [if_pos (by omega)]); with_reducible rfl); (try simp only [Act.put, List.setIfInBounds_toArray, List.set_cons_zero, List.set_cons_succ])))
                refine Seq.Seq.make (by rfl) (by rfl) (fun K Q' hK => ?_)
                go_simp
                go_at_call 20
                with_reducible refine (hs1 _).mono ?_
                rintro e w' ⟨rfl, rfl⟩
                refine hK.out _ _ (hS) ?_
                clear hK K
                try simp only [Act.put, List.setIfInBounds_toArray, List.set_cons_zero, List.set_cons_succ]
                repeat (first | (refine Seq.Seq.skip (by rfl) ?_; (try simp only [Act.put, List.setIfInBounds_toArray, List.set_cons_zero, List.set_cons_succ])) | (refine Seq.Seq.det ?_ (by rfl) (fun w hS => ?_) ?_; rotate_left; ((try dsimp only at hS); go_simp; (try rw [if_pos (by omega)]); with_reducible rfl); (try simp only [Act.put, List.setIfInBounds_toArray, List.set_cons_zero, List.set_cons_succ])))
                refine Seq.Seq.make (by rfl) (by rfl) (fun K Q' hK => ?_)
                go_simp
                go_at_call 21
                with_reducible refine (hs2 _).mono ?_
                rintro e w5 ⟨rfl, hb5⟩
                have hS5 := hS.trans (hb5.mono hS.size)
                refine hK.out _ _ (hS5) ?_
                clear hK K
                try simp only [Act.put, List.setIfInBounds_toArray, List.set_cons_zero, List.set_cons_succ]
                repeat (first | (refine Seq.Seq.skip (by rfl) ?_; (try simp only [Act.put, List.setIfInBounds_toArray, List.set_cons_zero, List.set_cons_succ])) | (refine Seq.Seq.det ?_ (by rfl) (fun w hS => ?_) ?_; rotate_left; ((try dsimp only at hS); go_simp; (try rw [if_pos (by omega)]); with_reducible rfl); (try simp only [Act.put, List.setIfInBounds_toArray, List.set_cons_zero, List.set_cons_succ])))
                refine Seq.Seq.nil ?_
                clear hS hb5
                go_wp2
                have hS := hS5.drew
                clear hS5
                refine Seq.wp_region_seq (fun w' => Below wq.heap.size wq w') (by kernel_rfl) (by kernel_rfl) hS ?_
                generalize w5.drew = wf at *
                repeat (first | (refine Seq.Seq.skip (by rfl) ?_; (try simp only [Act.put, List.setIfInBounds_toArray, List.set_cons_zero, List.set_cons_succ])) | (refine Seq.Seq.det ?_ (by rfl) (fun w hS => ?_) ?_; rotate_left; ((try dsimp only at hS); go_simp; (try rw [if_pos (by omega)]); with_reducible rfl); (try simp only [Act.put, List.setIfInBounds_toArray, List.set_cons_zero, List.set_cons_succ])))
                refine Seq.Seq.make (by rfl) (by rfl) (fun K Q' hK => ?_)
                go_simp
                go_at_call 22
                with_reducible refine (ht1 _).mono ?_
                rintro e w' ⟨rfl, rfl⟩
                refine hK.out _ _ (hS) ?_
                clear hK K
                try simp only [Act.put, List.setIfInBounds_toArray, List.set_cons_zero, List.set_cons_succ]
                repeat (first | (refine Seq.Seq.skip (by rfl) ?_; (try simp only [Act.put, List.setIfInBounds_toArray, List.set_cons_zero, List.set_cons_succ])) | (refine Seq.Seq.det ?_ (by rfl) (fun w hS => ?_) ?_; rotate_left; ((try dsimp only at hS); go_simp; (try rw [if_pos (by omega)]); with_reducible rfl); (try simp only [Act.put, List.setIfInBounds_toArray, List.set_cons_zero, List.set_cons_succ])))
                refine Seq.Seq.make (by rfl) (by rfl) (fun K Q' hK => ?_)
                go_simp
                go_at_call 23
                with_reducible refine (ht2 _).mono ?_
                rintro e w6 ⟨rfl, hb6⟩
                have hS6 := hS.trans (hb6.mono hS.size)
                refine hK.out _ _ (hS6) ?_
                clear hK K
                try simp only [Act.put, List.setIfInBounds_toArray, List.set_cons_zero, List.set_cons_succ]
                repeat (first | (refine Seq.Seq.skip (by rfl) ?_; (try simp only [Act.put, List.setIfInBounds_toArray, List.set_cons_zero, List.set_cons_succ])) | (refine Seq.Seq.det ?_ (by rfl) (fun w hS => ?_) ?_; rotate_left; ((try dsimp only at hS); go_simp; (try rw [if_pos (by omega)]); with_reducible rfl); (try simp only [Act.put, List.setIfInBounds_toArray, List.set_cons_zero, List.set_cons_succ])))
                refine Seq.Seq.make (by rfl) (by rfl) (fun K Q' hK => ?_)
                go_simp
                go_at_call 9
                with_reducible refine (ht3 _).mono ?_
                rintro e w7 ⟨rfl, hb7⟩
                have hS7 := hS6.trans (hb7.mono hS6.size)
                refine hK.out _ _ (hS7) ?_
                clear hK K
                try simp only [Act.put, List.setIfInBounds_toArray, List.set_cons_zero, List.set_cons_succ]
                repeat (first | (refine Seq.Seq.skip (by rfl) ?_; (try simp only [Act.put, List.setIfInBounds_toArray, List.set_cons_zero, List.set_cons_succ])) | (refine Seq.Seq.det ?_ (by rfl) (fun w hS => ?_) ?_; rotate_left; ((try dsimp only at hS); go_simp; (try rw [if_pos (by omega)]); with_reducible rfl); (try simp only [Act.put, List.setIfInBounds_toArray, List.set_cons_zero, List.set_cons_succ])))
                refine Seq.Seq.nil ?_
                have HS7 := Lib.hid hS7
                clear hS hS6 hS7 hb6 hb7 C
                go_wp2
                go_roundw
                case rel => exact ⟨i + 1, by omega, by go_num, HS7.out⟩
                case measure => simp [intOf]; omega
        · clear tk0 tk1
          have hbx := HBW.out.trans (hb.mono HBW.out.size)
          have hni : ¬ (i : Int) < k := by omega
          clear hb
          go_wp2_with fail
          refine (live9_any _).mono ?_
          rintro e w9 ⟨rfl, hb9⟩
          have HB9 := Lib.hid (hbx.trans (hb9.mono hbx.size))
          go_wp2
          go_ret
          exact ⟨rfl, HB9.out⟩

set_option maxRecDepth 100000 in
theorem lifted (os : Os) (started : os.Started) (H : Type) (enc : TypeId × Value → H) :
    ReturnsInHanded {} Try.checked os 4 .any (Rows.tallySumsSpec.pre6 enc Try.prog Try.f4 Rows.tallySumsRow.domain false) (Rows.tallySumsSpec.post enc Try.prog Try.f4 false true false false) := by
  refine returnsInHanded_of_change (C := Try.checked) own started (by kernel_rfl) Try.func4
    (ChangeSpec.witness6 (enc := enc) (C := Try.checked) false ⟨#[], #[.slice none 0 0, .int .i64 0], []⟩ 8 (by kernel_rfl) (by kernel_rfl) (by kernel_rfl) (by kernel_rfl)) ?_
  intro W base args ds gs before hval0 hW hcnd _
  have hval : ∀ (j : Nat) t v, Try.f4.params[j]? = some t → args[j]? = some v → Value.okWide Try.prog W .any base t v := hval0
  have hW' := hW
  obtain ⟨p, q, hA0, hV, rfl, hfz, hnd⟩ := hW
  have hA : DataW.TrodAll enc Try.prog W 0 (fun _ => true) true Try.f4.params.toList args.toList ds p := hA0
  rw [Try.params4] at hA hval
  obtain ⟨v0, vs0, d0, ds0, p0, q0, hargs, rfl, rfl, h0, r0⟩ := trodAll_cons hA
  obtain ⟨v1, vs1, d1, ds1, p1, q1, rfl, rfl, rfl, h1, r1⟩ := trodAll_cons r0
  obtain ⟨rfl, rfl, rfl⟩ := trodAll_nil r1
  obtain rfl : args = #[v0, v1] := by cases args; simp_all
  obtain ⟨rfl, rfl⟩ := trodVars_none hV
  have lt0 : ∀ x ∈ p0, x.block < W.heap.size := by obtain ⟨m, hm⟩ := h0; exact DataW.trod_lt m _ _ _ hm
  have lt1 : ∀ x ∈ p1, x.block < W.heap.size := by obtain ⟨m, hm⟩ := h1; exact DataW.trod_lt m _ _ _ hm
  clear hA0 hval0
  refine (walk enc W base v0 d0 p0 (hval 0 38 v0 rfl rfl) h0 v1 d1 p1 (hval 1 3 v1 rfl rfl) h1).mono fun e W' ⟨he, bel⟩ => ?_
  subst he
  exact ⟨_, rfl, _, _, _, [], _, [], hW', trodAll_mk1 (shut_bool Try.underlying4 _), (trodAll_cons_mk (Below.trod laidOut (by kernel_rfl) (of_decide_eq_true (by kernel_rfl)) h0 bel lt0) (trodAll_cons_mk (Below.trod laidOut (by kernel_rfl) (of_decide_eq_true (by kernel_rfl)) h1 bel lt1) trodAll_mk0)), rfl, bel.frame _, fun h => by cases h⟩

theorem over : Rows.tallySumsRow.holds Try.pinned (OpenSpec.ofChange Rows.tallySumsSpec) :=
  OpenClaim.holds_of_wide 4 Try.f4 rfl rfl rfl rfl rfl rfl rfl ⟨rfl, rfl, rfl, rfl, rfl⟩ rfl rfl rfl rfl rfl (by kernel_rfl) Try.func4 (by kernel_rfl)
    (of_decide_eq_true (by kernel_rfl)) (by unfold Func.isWrapper; first | (rw [if_pos (by decide +kernel)]; kernel_rfl) | (rw [if_neg (by decide +kernel)]; exact ⟨rfl, rfl⟩))
    (fun os started H enc _ => lifted os started H enc)

/-- THE STATEMENT. -/
theorem proved : Rows.TallySumsSaid := over
#print axioms proved
end Go.Proofs.Ytepebneigehboaa.tallySums
