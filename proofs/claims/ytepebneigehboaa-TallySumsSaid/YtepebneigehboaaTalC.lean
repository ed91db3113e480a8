/- The contracts of the document's package of tallies: Right, Of, Times, Share; and the program's Share. -/
import Derived.Test.YtepebneigehboaaTalB
import Derived.Test.YtepebneigehboaaK1
import Derived.Deep.CutRange
namespace Go.Proofs.Ytepebneigehboaa.Cur
open Go.RowKit Mem Flt
set_option linter.unusedVariables false
set_option maxRecDepth 100000


theorem rright_any (n m : Int) (w : World) :
    Calls Try.prog 19 #[.int .i64 n, .int .i64 m] w fun e w' => e = .returned (.bool (rt n m)) ∧ w = w' := by
  by_cases h0 : 0 ≤ n
  · by_cases h1 : n ≤ 1125899906842624
    · by_cases h2 : 0 ≤ m
      · by_cases h3 : m ≤ 1125899906842624
        · by_cases h4 : 0 < n
          · have e : rt n m = true := decide_eq_true (by omega)
            rw [e]
            go_enter Try.func19, Try.ntmps19
            go_wp2
            go_ret
            exact ⟨rfl, rfl⟩
          · have e : rt n m = decide (m = 0) := decide_eq_decide.2 (by omega)
            rw [e]
            go_enter Try.func19, Try.ntmps19
            go_wp2
            go_ret
            exact ⟨rfl, rfl⟩
        · have e : rt n m = false := decide_eq_false (by omega)
          rw [e]
          go_enter Try.func19, Try.ntmps19
          go_wp2
          go_ret
          exact ⟨rfl, rfl⟩
      · have e : rt n m = false := decide_eq_false (by omega)
        rw [e]
        go_enter Try.func19, Try.ntmps19
        go_wp2
        go_ret
        exact ⟨rfl, rfl⟩
    · have e : rt n m = false := decide_eq_false (by omega)
      rw [e]
      go_enter Try.func19, Try.ntmps19
      go_wp2
      go_ret
      exact ⟨rfl, rfl⟩
  · have e : rt n m = false := decide_eq_false (by omega)
    rw [e]
    go_enter Try.func19, Try.ntmps19
    go_wp2
    go_ret
    exact ⟨rfl, rfl⟩

/-- The document's tally. -/
def tq (n m : Int) (b : Bool) : Value := .agg #[.int .i64 n, .int .i64 m, .bool b]
def tof (n m : Int) : Value := if rt n m then tq n m false else tq 0 0 true
def TPost (v : Value) (w : World) (e : Ending) (w' : World) : Prop := e = .returned v ∧ Below w.heap.size w w'

theorem rof_any (n m : Int) (w : World) : Calls Try.prog 8 #[.int .i64 n, .int .i64 m] w (TPost (tof n m) w) := by
  have hr := rright_any n m
  cases hb : rt n m
  · have e : tof n m = tq 0 0 true := by unfold tof; rw [hb]; rfl
    rw [e]
    rw [hb] at hr
    clear e hb
    go_enter Try.func8, Try.ntmps8
    go_wp2_with fail
    refine (hr _).mono ?_
    rintro e w' ⟨rfl, rfl⟩
    go_wp2
    refine bodyPost_ret (v := tq 0 0 true) (by simp [results, Try.results8, go_sem, tq]) rfl ⟨rfl, ?_⟩
    exact (Below.refl _ _).alloc (Nat.le_refl _) _
  · have e : tof n m = tq n m false := by unfold tof; rw [hb]; rfl
    rw [e]
    rw [hb] at hr
    clear e hb
    go_enter Try.func8, Try.ntmps8
    go_wp2_with fail
    refine (hr _).mono ?_
    rintro e w' ⟨rfl, rfl⟩
    go_wp2
    refine bodyPost_ret (v := tq n m false) (by simp [results, Try.results8, go_sem, tq]) rfl ⟨rfl, ?_⟩
    exact (Below.refl _ _).alloc (Nat.le_refl _) _

theorem times_le {n k : Int} (h0 : 0 ≤ n) (hk : 1 ≤ k) : (n ≤ 1125899906842624 / k) ↔ n * k ≤ 1125899906842624 := Int.le_ediv_iff_mul_le (by omega)

/-- So often. -/
def rtm (n m k : Int) (b : Bool) : Value := if !b && decide (1 ≤ k) && decide (n * k ≤ 1125899906842624) && decide (m * k ≤ 1125899906842624) then tq (n * k) (m * k) false else tq 0 0 false


theorem below_drewT {B : Nat} {a w : World} (h : Below B a w) (k : Nat) : Below B a (w.drewN k) := ⟨h.os, h.tape, h.output, h.size, h.block⟩
theorem set3_below {w wr : World} {B g : Nat} (h : Below B w wr) (hg : B ≤ g) (u0 u1 u2 : Value) : Below B w (((wr.setCell ⟨g, 0, none⟩ u0).setCell ⟨g, 1, none⟩ u1).setCell ⟨g, 2, none⟩ u2) :=
  ((h.setCell (p := ⟨g, 0, none⟩) hg u0).setCell (p := ⟨g, 1, none⟩) hg u1).setCell (p := ⟨g, 2, none⟩) hg u2

theorem rtimes_any (n m k : Int) (b : Bool) (w : World) (hb : b = false → rt n m = true) (hk : k ≤ 9223372036854775807) :
    Calls Try.prog 23 #[tq n m b, .int .i64 k] w (TPost (rtm n m k b) w) := by
  cases b
  · obtain ⟨n0, n1, m0, m1, nm⟩ := rt_bd (hb rfl)
    clear hb
    by_cases k1 : 1 ≤ k
    · by_cases hn : n = 0
      · have hm : m = 0 := by omega
        subst hn
        subst hm
        have e : rtm 0 0 k false = tq 0 0 false := by unfold rtm; simp
        rw [e]
        clear e n0 n1 m0 m1 nm
        unfold tq
        go_enter Try.func23, Try.ntmps23
        go_wp2
        refine bodyPost_ret (v := (tq 0 0 false)) (by simp [results, Try.results23, go_sem, tq]) rfl ⟨rfl, ?_⟩
        exact below_two _ _ _
      · have hn' := (times_le n0 k1)
        have hm' := (times_le m0 k1)
        have eq : IntKind.i64.wrap (Int.tdiv 1125899906842624 k) = 1125899906842624 / k := by
          rw [Int.tdiv_eq_ediv_of_nonneg (by omega)]
          have h1 : 0 ≤ 1125899906842624 / k := Int.ediv_nonneg (by omega) (by omega)
          have h2 : 1125899906842624 / k ≤ 1125899906842624 := Int.ediv_le_self _ (by omega)
          exact IntWalk.i64_in _ (by omega)
        have k0 : k ≠ 0 := by omega
        have k2 : decide (k < 1) = false := decide_eq_false (by omega)
        have hn0 : (n == 0) = false := by simpa using hn
        have K1 := Lib.hid k1
        clear hn k1
        generalize 1125899906842624 / k = q at *
        by_cases hq : n ≤ q
        · by_cases hr : m ≤ q
          · have e : rtm n m k false = tq (n * k) (m * k) false := by
              unfold rtm; rw [decide_eq_true K1.out, decide_eq_true (hn'.1 hq), decide_eq_true (hm'.1 hr)]; rfl
            rw [e]
            clear e
            have w1 : IntKind.i64.wrap (n * k) = n * k := IntWalk.i64_in _ (by have := Int.mul_nonneg n0 (show 0 ≤ k by have := K1.out; omega); have := hn'.1 hq; omega)
            have w2 : IntKind.i64.wrap (m * k) = m * k := IntWalk.i64_in _ (by have := Int.mul_nonneg m0 (show 0 ≤ k by have := K1.out; omega); have := hm'.1 hr; omega)
            clear hn' hm' n1 m1 nm hk
            have d1 : decide (q < n) = false := decide_eq_false (by omega)
            have d2 : decide (q < m) = false := decide_eq_false (by omega)
            unfold tq
            go_enter Try.func23, Try.ntmps23
            go_wp2
            go_quiet (fail)
            go_wp2
            refine bodyPost_ret (v := (tq (n * k) (m * k) false)) (by simp [results, Try.results23, go_sem, tq]) rfl ⟨rfl, ?_⟩
            exact set3_below (below_drewT (below_two _ _ _) _) (by omega) _ _ _
          · have e : rtm n m k false = tq 0 0 false := by
              unfold rtm; rw [decide_eq_false (fun h => hr (hm'.2 h)), Bool.and_false]; rfl
            rw [e]
            clear e hn' hm' n1 m1 nm hk
            have d1 : decide (q < n) = false := decide_eq_false (by omega)
            have d2 : decide (q < m) = true := decide_eq_true (by omega)
            unfold tq
            go_enter Try.func23, Try.ntmps23
            go_wp2
            go_quiet (fail)
            go_wp2
            refine bodyPost_ret (v := (tq 0 0 false)) (by simp [results, Try.results23, go_sem, tq]) rfl ⟨rfl, ?_⟩
            exact set3_below (below_drewT (below_two _ _ _) _) (by omega) _ _ _
        · have e : rtm n m k false = tq 0 0 false := by
            unfold rtm; rw [decide_eq_false (fun h => hq (hn'.2 h)), Bool.and_false, Bool.false_and]; rfl
          rw [e]
          clear e hn' hm' n1 m1 nm hk
          have d1 : decide (q < n) = true := decide_eq_true (by omega)
          unfold tq
          go_enter Try.func23, Try.ntmps23
          go_wp2
          go_quiet (fail)
          go_wp2
          refine bodyPost_ret (v := (tq 0 0 false)) (by simp [results, Try.results23, go_sem, tq]) rfl ⟨rfl, ?_⟩
          exact set3_below (below_drewT (below_two _ _ _) _) (by omega) _ _ _
    · have e : rtm n m k false = tq 0 0 false := by
        unfold rtm; rw [decide_eq_false k1]; rfl
      rw [e]
      clear e n0 n1 m0 m1 nm hk
      unfold tq
      go_enter Try.func23, Try.ntmps23
      go_wp2
      refine bodyPost_ret (v := (tq 0 0 false)) (by simp [results, Try.results23, go_sem, tq]) rfl ⟨rfl, ?_⟩
      exact below_two _ _ _
  · have e : rtm n m k true = tq 0 0 false := rfl
    rw [e]
    clear e hb hk
    unfold tq
    go_enter Try.func23, Try.ntmps23
    go_wp2
    refine bodyPost_ret (v := (tq 0 0 false)) (by simp [results, Try.results23, go_sem, tq]) rfl ⟨rfl, ?_⟩
    exact below_two _ _ _

/-- Of a thousand. -/
def sh (m m' : Int) : Int := if m = 0 ∨ m < m' then 0 else 1000 * m' / m

theorem share_any {x y x' y' : Nat} {n m n' m' : Int} (h1 : Pt x n) (h2 : Pt y m) (h3 : Pt x' n') (h4 : Pt y' m') (w : World) :
    Calls Try.prog 20 #[.complex .f64 x y, .complex .f64 x' y'] w fun e w' => e = .returned (.int .i64 (sh (if rt n m then m else 0) (if rt n' m' then m' else 0))) ∧ w = w' := by
  have r1 := bytesT_any h1 h2
  have r2 := bytesT_any h3 h4
  have ha : 0 ≤ (if rt n m then m else 0) ∧ (if rt n m then m else 0) ≤ 1125899906842624 := by
    cases hb : rt n m
    · simp
    · have := rt_bd hb; simp; omega
  have hb : 0 ≤ (if rt n' m' then m' else 0) ∧ (if rt n' m' then m' else 0) ≤ 1125899906842624 := by
    cases hb : rt n' m'
    · simp
    · have := rt_bd hb; simp; omega
  clear h1 h2 h3 h4
  generalize (if rt n m then m else 0) = a at *
  generalize (if rt n' m' then m' else 0) = b at *
  by_cases h0 : a = 0
  · have e : sh a b = 0 := if_pos (Or.inl h0)
    rw [e]
    subst h0
    clear ha hb
    go_enter Try.func20, Try.ntmps20
    go_wp2_with fail
    refine (r1 _).mono ?_
    rintro e w' ⟨rfl, rfl⟩
    go_wp2_with fail
    refine (r2 _).mono ?_
    rintro e w' ⟨rfl, rfl⟩
    go_wp2
    go_ret
    exact ⟨rfl, rfl⟩
  · have d0 : (a == 0) = false := by simpa using h0
    by_cases h1 : a < b
    · have e : sh a b = 0 := if_pos (Or.inr h1)
      rw [e]
      have d1 : decide (a < b) = true := decide_eq_true h1
      clear ha hb h0
      go_enter Try.func20, Try.ntmps20
      go_wp2_with fail
      refine (r1 _).mono ?_
      rintro e w' ⟨rfl, rfl⟩
      go_wp2_with fail
      refine (r2 _).mono ?_
      rintro e w' ⟨rfl, rfl⟩
      go_wp2
      go_ret
      exact ⟨rfl, rfl⟩
    · have e : sh a b = 1000 * b / a := if_neg (by omega)
      rw [e]
      have d1 : decide (a < b) = false := decide_eq_false h1
      have e1 : IntKind.i64.wrap (1000 * b) = 1000 * b := IntWalk.i64_in _ (by omega)
      have e2 : IntKind.i64.wrap ((1000 * b).tdiv a) = 1000 * b / a := by
        rw [Int.tdiv_eq_ediv_of_nonneg (by omega)]
        have h1 : 0 ≤ 1000 * b / a := Int.ediv_nonneg (by omega) (by omega)
        have h2 : 1000 * b / a ≤ 1000 * b := Int.ediv_le_self _ (by omega)
        exact IntWalk.i64_in _ (by omega)
      clear ha hb h1
      generalize 1000 * b / a = q at *
      go_enter Try.func20, Try.ntmps20
      go_wp2_with fail
      refine (r1 _).mono ?_
      rintro e w' ⟨rfl, rfl⟩
      go_wp2_with fail
      refine (r2 _).mono ?_
      rintro e w' ⟨rfl, rfl⟩
      go_wp2
      go_ret
      exact ⟨rfl, rfl⟩

theorem rshare_any (n m n' m' : Int) (b b' : Bool) (w : World) (h : b = false → rt n m = true) (h' : b' = false → rt n' m' = true) :
    Calls Try.prog 21 #[tq n m b, tq n' m' b'] w (TPost (.int .i64 (if b || b' then 0 else sh m m')) w) := by
  unfold tq
  cases b
  · cases b'
    · obtain ⟨n0, n1, m0, m1, nm⟩ := rt_bd (h rfl)
      obtain ⟨n0', n1', m0', m1', nm'⟩ := rt_bd (h' rfl)
      rw [show (false || false) = false from rfl]
      clear h h' n0 n1 nm n0' n1' nm'
      by_cases h0 : m = 0
      · have e : sh m m' = 0 := if_pos (Or.inl h0)
        rw [e]
        subst h0
        clear m0 m1 m0' m1' e
        go_enter Try.func21, Try.ntmps21
        go_wp2
        go_ret
        exact ⟨rfl, below_two _ _ _⟩
      · have d0 : (m == 0) = false := by simpa using h0
        by_cases h1 : m < m'
        · have e : sh m m' = 0 := if_pos (Or.inr h1)
          rw [e]
          have d1 : decide (m < m') = true := decide_eq_true h1
          clear m0 m1 m0' m1' e h0
          go_enter Try.func21, Try.ntmps21
          go_wp2
          go_ret
          exact ⟨rfl, below_two _ _ _⟩
        · have e : sh m m' = 1000 * m' / m := if_neg (by omega)
          rw [e]
          have d1 : decide (m < m') = false := decide_eq_false h1
          have e1 : IntKind.i64.wrap (1000 * m') = 1000 * m' := IntWalk.i64_in _ (by omega)
          have e2 : IntKind.i64.wrap ((1000 * m').tdiv m) = 1000 * m' / m := by
            rw [Int.tdiv_eq_ediv_of_nonneg (by omega)]
            have h1 : 0 ≤ 1000 * m' / m := Int.ediv_nonneg (by omega) (by omega)
            have h2 : 1000 * m' / m ≤ 1000 * m' := Int.ediv_le_self _ (by omega)
            exact IntWalk.i64_in _ (by omega)
          clear m0 m1 m0' m1' h1 e
          generalize 1000 * m' / m = q at *
          go_enter Try.func21, Try.ntmps21
          go_wp2
          go_ret
          exact ⟨rfl, below_two _ _ _⟩
    · rw [show (false || true) = true from rfl]
      clear h h'
      go_enter Try.func21, Try.ntmps21
      go_wp2
      go_ret
      exact ⟨rfl, below_two _ _ _⟩
  · rw [show (true || b') = true from rfl]
    clear h h'
    go_enter Try.func21, Try.ntmps21
    go_wp2
    go_ret
    exact ⟨rfl, below_two _ _ _⟩
end Go.Proofs.Ytepebneigehboaa.Cur
