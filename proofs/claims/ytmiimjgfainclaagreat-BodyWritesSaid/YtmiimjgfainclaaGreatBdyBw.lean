/- As the seat's text, without what nothing here names. -/
import Derived.Test.YtmiimjgfainclaaGreatBdyAw
import Derived.Test.YtmiimjgfainclaaGreatK26w
import Derived.Test.YtmiimjgfainclaaGreatSeqIw
import Derived.Test.YtmiimjgfainclaaGreatBdySw
import Derived.Deep.Cut
import Derived.BigFrame
namespace Go.Proofs.YtmiimjgfainclaaGreat.Cur
open Go.RowKit Mem
set_option linter.unusedVariables false
set_option linter.unusedSimpArgs false
set_option maxRecDepth 100000
theorem mostst_any (k : Int) (w : World) : Calls Tryz.prog 51 #[.int .i64 k] w (BPost (.int .i64 (bmost k)) w) := by
  unfold BPost
  by_cases h : k = 14
  · subst h
    go_enter Tryz.func51, Tryz.ntmps51
    go_wp2
    go_ret
    exact ⟨rfl, Below.refl _ _⟩
  · have e1 : (k == 14) = false := by simpa using h
    have HM : Hid (bmost k = 4) := Lib.hid (if_neg h)
    clear h
    go_enter Tryz.func51, Tryz.ntmps51
    go_wp2
    go_ret
    exact ⟨by rw [HM.out]; rfl, Below.refl _ _⟩
set_option maxHeartbeats 1000000 in
theorem bears_any (M : Ms) (a : Ma) (w : World) : Calls Tryz.prog 54 #[msagg M a] w (BPost (.bool (bears M)) w) := by
  have hX := Blk.new w (msc M a) 32
  have hb := below_one w (.cells (msc M a) 32)
  obtain ⟨⟨x0, x1, x2, x3, x4, x5, x6⟩, x7, x8, x9, x10, x11, x12, x13⟩ := ms_cells hX
  unfold BPost
  by_cases h : M.k = 9
  · have e1 : (M.k != 9) = false := by simpa using h
    have HM : Hid (bears M = (M.t == 1)) := Lib.hid (by unfold bears; rw [Bool.eq_iff_iff]; simp [h])
    clear h hX
    go_enter Tryz.func54, Tryz.ntmps54
    go_wp2
    go_ret
    exact ⟨by rw [HM.out]; rfl, hb⟩
  · have e1 : (M.k != 9) = true := by simpa using h
    have HM : Hid (bears M = true) := Lib.hid (decide_eq_true (.inl h))
    clear h hX
    go_enter Tryz.func54, Tryz.ntmps54
    go_wp2
    go_ret
    exact ⟨by rw [HM.out]; rfl, hb⟩
def brow (M : Ms) : Array Value := #[.int .i64 1, .bool (bfr M 0).1, .bool (bfr M 0).2, .int .i64 2, .bool (bfr M 1).1, .bool (bfr M 1).2, .int .i64 4, .bool (bfr M 2).1, .bool (bfr M 2).2, .int .i64 8, .bool (bfr M 3).1, .bool (bfr M 3).2,
  .int .i64 16, .bool (bfr M 4).1, .bool (bfr M 4).2, .int .i64 32, .bool (bfr M 5).1, .bool (bfr M 5).2, .int .i64 64, .bool (bfr M 6).1, .bool (bfr M 6).2, .int .i64 128, .bool (bfr M 7).1, .bool (bfr M 7).2]
theorem brow_at (M : Ms) {i : Nat} (hi : i < 8) : (brow M)[i * 3]? = some (.int .i64 (pw2 i)) ∧ (brow M)[i * 3 + 1]? = some (.bool (bfr M i).1) ∧ (brow M)[i * 3 + 2]? = some (.bool (bfr M i).2) := by
  match i, hi with
  | 0, _ => exact ⟨rfl, rfl, rfl⟩
  | 1, _ => exact ⟨rfl, rfl, rfl⟩
  | 2, _ => exact ⟨rfl, rfl, rfl⟩
  | 3, _ => exact ⟨rfl, rfl, rfl⟩
  | 4, _ => exact ⟨rfl, rfl, rfl⟩
  | 5, _ => exact ⟨rfl, rfl, rfl⟩
  | 6, _ => exact ⟨rfl, rfl, rfl⟩
  | 7, _ => exact ⟨rfl, rfl, rfl⟩
theorem brow_is (M : Ms) {c1 c2 c3 c5 : Bool} (h1 : decide (1 ≤ M.c) = c1) (h2 : decide (1 ≤ M.t) = c2) (h3 : decide (M.S.length ≤ 16) = c3) (h5 : bears M = c5) (hD : M.D.length ≤ 1000000) :
    brow M = #[.int .i64 1, .bool (psk M.p), .bool (M.p == 0), .int .i64 2, .bool (c1 && decide (M.c ≤ 65536)), .bool (M.c == 0), .int .i64 4, .bool (c2 && decide (M.t ≤ bmost M.k)), .bool (M.t == 0), .int .i64 8, .bool (c3 && risesB M.S), .bool ((M.S.length : Int) == 0),
      .int .i64 16, .bool (lkok M.p M.L), .bool ((M.L.length : Int) == 0), .int .i64 32, .bool (c5 || ((M.D.length : Int) == 0)), .bool ((M.D.length : Int) == 0), .int .i64 64, .bool (slok M.s), .bool (decide (M.s.1 = 0) && (decide (M.s.2.1 = 0) && decide (M.s.2.2 = 0))), .int .i64 128, .bool (prok (M.u, M.P)), .bool (decide (M.u = 0) && decide (M.P = []))] := by
  subst h1 h2 h3 h5
  have e0 : (bfr M 0).2 = (M.p == 0) := by show decide (M.p = 0) = _; rw [Bool.eq_iff_iff]; simp
  have e1 : (bfr M 1).1 = (decide (1 ≤ M.c) && decide (M.c ≤ 65536)) := by show decide (1 ≤ M.c ∧ M.c ≤ 65536) = _; rw [Bool.eq_iff_iff]; simp
  have e2 : (bfr M 1).2 = (M.c == 0) := by show decide (M.c = 0) = _; rw [Bool.eq_iff_iff]; simp
  have e3 : (bfr M 2).1 = (decide (1 ≤ M.t) && decide (M.t ≤ bmost M.k)) := by show decide (1 ≤ M.t ∧ M.t ≤ bmost M.k) = _; rw [Bool.eq_iff_iff]; simp
  have e4 : (bfr M 2).2 = (M.t == 0) := by show decide (M.t = 0) = _; rw [Bool.eq_iff_iff]; simp
  have el : ∀ n : Nat, decide (n = 0) = ((n : Int) == 0) := fun n => by rw [Bool.eq_iff_iff]; simp
  have e5 : (bfr M 3).2 = ((M.S.length : Int) == 0) := el _
  have e6 : (bfr M 4).2 = ((M.L.length : Int) == 0) := el _
  have e7 : (bfr M 5).2 = ((M.D.length : Int) == 0) := el _
  have e8 : (bfr M 5).1 = (bears M || ((M.D.length : Int) == 0)) := by show (decide (M.D.length ≤ 1048576) && (bears M || decide (M.D.length = 0))) = _; rw [decide_eq_true (show M.D.length ≤ 1048576 by omega), Bool.true_and, el]
  have e9 : (bfr M 6).2 = (decide (M.s.1 = 0) && (decide (M.s.2.1 = 0) && decide (M.s.2.2 = 0))) := by
    show decide (M.s = (0, 0, 0)) = _
    rw [Bool.eq_iff_iff]
    obtain ⟨x, y, z⟩ := M.s
    simp
  have e10 : (bfr M 7).2 = (decide (M.u = 0) && decide (M.P = [])) := by show decide ((M.u, M.P) = ((0, []) : Prj)) = _; rw [Bool.eq_iff_iff]; simp
  unfold brow
  rw [e0, e1, e2, e3, e4, e5, e6, e7, e8, e9, e10]
  rfl
theorem pw2_bd : ∀ i, 0 ≤ pw2 i ∧ pw2 i < 9223372036854775808
  | 0 | 1 | 2 | 3 | 4 | 5 | 6 => by decide
  | n + 7 => by show (0 : Int) ≤ 128 ∧ (128 : Int) < 9223372036854775808; decide
def BrwI (w w' : World) (M : Ms) (a : Ma) (v : Value) : Prop := ∃ g tt, v = .slice (some ⟨g, 0, none⟩) 8 8 ∧ Blk w' g (brow M) tt ∧ Blk w' w.heap.size (msc M a) 32 ∧ Below w.heap.size w w'
def BlS (w w' : World) : Prop := Below w.heap.size w w'
theorem bfk_no {M : Ms} {j : Nat} (h : bfit M j = false) : ∀ i, j < i → bfk M i = false
  | i + 1, hi => by
    show (bfk M i && bfit M i) = false
    by_cases e : j = i
    · subst e; rw [h, Bool.and_false]
    · rw [bfk_no h i (by omega), Bool.false_and]
set_option maxHeartbeats 16000000 in
theorem bright28_any (Q : Nat → Prop) (M : Ms) (a : Ma) (w : World) (hm : MsIn w Q M a) (hS : M.S.length ≤ 1000000) (hD : M.D.length ≤ 1000000) (hP : M.P.length ≤ 1000000) (hpl : plen 1000000 M.P) :
    Calls Tryz.prog 14 #[msagg M a] w (BPost (.bool (bdk M)) w) := by
  have hX := Blk.new w (msc M a) 32
  have hb := below_one w (.cells (msc M a) 32)
  obtain ⟨⟨x0, x1, x2, x3, x4, x5, x6⟩, x7, x8, x9, x10, x11, x12, x13⟩ := ms_cells hX
  unfold BPost
  have HM := Lib.hid (hm.below hb)
  have HX := Lib.hid hX
  have HB := Lib.hid hb
  have HPL := Lib.hid hpl
  have HI := Lib.hid (And.intro hm.hp hm.hk)
  clear hm hX hb hpl
  go_enter Tryz.func14, Tryz.ntmps14
  go_upto_region 1 with (fail)
  generalize w.alloc (.cells (msc M a) 32) = w0 at *
  go_cut [99, 100, 101] from 3 (fun A B C wx => BrwI w wx M a A ∧ B = .int .i64 8 ∧ C = .int .i64 0)
  case first =>
    have hpp := fun w' => epos_any M.p w'
    have hd0 : ((M.D.length : Int) ≤ 1048576) := by omega
    have HN0 : Hid ((bfr M 0).2 = (M.p == 0)) := Lib.hid (by show decide (M.p = 0) = _; rw [Bool.eq_iff_iff]; simp)
    have HN1 : Hid ((bfr M 1).2 = (M.c == 0)) := Lib.hid (by show decide (M.c = 0) = _; rw [Bool.eq_iff_iff]; simp)
    have HN2 : Hid ((bfr M 2).2 = (M.t == 0)) := Lib.hid (by show decide (M.t = 0) = _; rw [Bool.eq_iff_iff]; simp)
    have HC2 := Lib.hid (fun w' (h : Below w0.heap.size w0 w') => mostst_any M.k w')
    have HC3 := Lib.hid (fun w' (h : Below w0.heap.size w0 w') => rises_any a.A1 M.S.length a.m1 M.S w' (HM.out.below h).us hS (HM.out.below h).sb)
    have HC4 := Lib.hid (fun w' (h : Below w0.heap.size w0 w') => lkright_any _ M.p a.A2 M.L.length a.m2 M.L w' (HM.out.below h).lks HM.out.hp.1 HM.out.hp.2)
    have HC5 := Lib.hid (fun w' (h : Below w0.heap.size w0 w') => bears_any M a w')
    have HC6 := Lib.hid (fun w' (h : Below w0.heap.size w0 w') => sright_any M.s w')
    have HC7 := Lib.hid (fun w' (h : Below w0.heap.size w0 w') => prright_any _ M.u a.A4 M.P.length a.m4 M.P w' (HM.out.below h).pts hP HPL.out)
    have HC8 := Lib.hid (fun w' (h : Below w0.heap.size w0 w') => prsame_any _ (fun _ => True) M.u a.A4 M.P.length a.m4 M.P 0 none 0 0 [] w' (HM.out.below h).pts ⟨rfl, Sq.nil _ _ _ _⟩ hP (by omega) HPL.out (show plen 1000000 [] from fun s hs => nomatch hs))
    have L1 : ∀ w', BlS w0 w' → ((w'.cell? ⟨w.heap.size, 0, none⟩ = some (.int .i64 M.k) ∧ w'.cell? ⟨w.heap.size, 1, none⟩ = some (.int .u64 M.e) ∧ w'.cell? ⟨w.heap.size, 2, none⟩ = some (.int .u64 M.q) ∧ w'.cell? ⟨w.heap.size, 3, none⟩ = some (.int .u64 M.p) ∧ w'.cell? ⟨w.heap.size, 4, none⟩ = some (.int .i64 M.c) ∧ w'.cell? ⟨w.heap.size, 5, none⟩ = some (.int .i64 M.t) ∧ w'.cell? ⟨w.heap.size, 6, none⟩ = some (.slice a.A1 M.S.length a.m1)) ∧
      w'.cell? ⟨w.heap.size, 7, none⟩ = some (.slice a.A2 M.L.length a.m2) ∧ w'.cell? ⟨w.heap.size, 8, none⟩ = some (.slice a.A3 M.D.length a.m3) ∧ w'.cell? ⟨w.heap.size, 9, none⟩ = some (.int .u64 M.s.1) ∧ w'.cell? ⟨w.heap.size, 10, none⟩ = some (.int .u64 M.s.2.1) ∧ w'.cell? ⟨w.heap.size, 11, none⟩ = some (.int .u64 M.s.2.2) ∧ w'.cell? ⟨w.heap.size, 12, none⟩ = some (.int .u64 M.u) ∧ w'.cell? ⟨w.heap.size, 13, none⟩ = some (.slice a.A4 M.P.length a.m4)) := fun w' h => ms_cells (HX.out.below h)
    have HC1 := Lib.hid (fun w' (h : Below w0.heap.size w0 w') => (epos_any M.p w').mono (R' := fun e w'' => e = .returned (.bool (psk M.p)) ∧ Below w'.heap.size w' w'') (fun e w'' h => ⟨h.1, by rw [← h.2]; exact Below.refl _ _⟩))
    unfold BPost at HC2 HC3 HC4 HC5 HC6 HC7 HC8
    clear x0 x1 x2 x3 x4 x5 x6 x7 x8 x9 x10 x11 x12 x13 hpp
    have hS : BlS w0 w0.drew := below_one' _
    refine Seq.wp_region_seq (BlS w0) (by kernel_rfl) (by kernel_rfl) hS ?_
    generalize w0.drew = wd at *
    repeat (first | (refine Seq.Seq.skip (by rfl) ?_; (try simp only [Act.put, List.setIfInBounds_toArray, List.set_cons_zero, List.set_cons_succ])) | (refine Seq.Seq.det ?_ (by rfl) (fun w hS => ?_) ?_; rotate_left; ((try dsimp only at hS); go_simp; (try rw [if_pos (by omega)]); with_reducible rfl); (try simp only [Act.put, List.setIfInBounds_toArray, List.set_cons_zero, List.set_cons_succ])))
    refine Seq.Seq.make (by rfl) (by rfl) (fun K Q' hK => ?_)
    go_simp
    go_at_call 50
    refine (HC1.out _ hS).mono ?_
    rintro e w1 ⟨rfl, hb1⟩
    refine hK.out _ _ ((show BlS _ _ from Below.trans hS (hb1.mono (Below.size hS)))) ?_
    clear hK K
    try simp only [Act.put, List.setIfInBounds_toArray, List.set_cons_zero, List.set_cons_succ]
    replace hS : BlS w0 w1 := Below.trans hS (hb1.mono (Below.size hS))
    clear hb1
    repeat (first | (refine Seq.Seq.skip (by rfl) ?_; (try simp only [Act.put, List.setIfInBounds_toArray, List.set_cons_zero, List.set_cons_succ])) | (refine Seq.Seq.det ?_ (by rfl) (fun w hS => ?_) ?_; rotate_left; ((try dsimp only at hS); go_simp; (try rw [if_pos (by omega)]); with_reducible rfl); (try simp only [Act.put, List.setIfInBounds_toArray, List.set_cons_zero, List.set_cons_succ])))
    obtain ⟨c1, hc1⟩ : ∃ c1, decide (1 ≤ M.c) = c1 := ⟨_, rfl⟩
    rw [hc1]
    refine Seq.Seq.may (c1) ?_ (Seq.wanted_t (by rfl) (by rfl)) (fun hc w hS => ?_) ?_
    rotate_left
    · have ho : ∀ v, Seq.opt true v = v := fun v => rfl
      (try dsimp only at hS)
      go_simp
      with_reducible rfl
    try simp only [Act.put, List.setIfInBounds_toArray, List.set_cons_zero, List.set_cons_succ]
    refine Seq.Seq.may (c1) ?_ (Seq.wanted_t (by rfl) (by rfl)) (fun hc w hS => ?_) ?_
    rotate_left
    · have ho : ∀ v, Seq.opt true v = v := fun v => rfl
      (try dsimp only at hS)
      go_simp
      with_reducible rfl
    try simp only [Act.put, List.setIfInBounds_toArray, List.set_cons_zero, List.set_cons_succ]
    refine Seq.Seq.may (c1) ?_ (Seq.wanted_t (by rfl) (by rfl)) (fun hc w hS => ?_) ?_
    rotate_left
    · have ho : ∀ v, Seq.opt true v = v := fun v => rfl
      (try dsimp only at hS)
      go_simp
      with_reducible rfl
    try simp only [Act.put, List.setIfInBounds_toArray, List.set_cons_zero, List.set_cons_succ]
    refine Seq.Seq.det (.bool (c1 && decide (M.c ≤ 65536))) (by rfl) (fun w hS => by cases c1 <;> rfl) ?_
    try simp only [Act.put, List.setIfInBounds_toArray, List.set_cons_zero, List.set_cons_succ]
    repeat (first | (refine Seq.Seq.skip (by rfl) ?_; (try simp only [Act.put, List.setIfInBounds_toArray, List.set_cons_zero, List.set_cons_succ])) | (refine Seq.Seq.det ?_ (by rfl) (fun w hS => ?_) ?_; rotate_left; ((try dsimp only at hS); go_simp; (try rw [if_pos (by omega)]); with_reducible rfl); (try simp only [Act.put, List.setIfInBounds_toArray, List.set_cons_zero, List.set_cons_succ])))
    obtain ⟨c2, hc2⟩ : ∃ c2, decide (1 ≤ M.t) = c2 := ⟨_, rfl⟩
    rw [hc2]
    refine Seq.Seq.may (c2) ?_ (Seq.wanted_t (by rfl) (by rfl)) (fun hc w hS => ?_) ?_
    rotate_left
    · have ho : ∀ v, Seq.opt true v = v := fun v => rfl
      (try dsimp only at hS)
      go_simp
      with_reducible rfl
    try simp only [Act.put, List.setIfInBounds_toArray, List.set_cons_zero, List.set_cons_succ]
    refine Seq.Seq.may (c2) ?_ (Seq.wanted_t (by rfl) (by rfl)) (fun hc w hS => ?_) ?_
    rotate_left
    · have ho : ∀ v, Seq.opt true v = v := fun v => rfl
      (try dsimp only at hS)
      go_simp
      with_reducible rfl
    try simp only [Act.put, List.setIfInBounds_toArray, List.set_cons_zero, List.set_cons_succ]
    refine Seq.Seq.may (c2) ?_ (Seq.wanted_t (by rfl) (by rfl)) (fun hc w hS => ?_) ?_
    rotate_left
    · have ho : ∀ v, Seq.opt true v = v := fun v => rfl
      (try dsimp only at hS)
      go_simp
      with_reducible rfl
    try simp only [Act.put, List.setIfInBounds_toArray, List.set_cons_zero, List.set_cons_succ]
    refine Seq.Seq.may (c2) ?_ (Seq.wanted_t (by rfl) (by rfl)) (fun hc w hS => ?_) ?_
    rotate_left
    · have ho : ∀ v, Seq.opt true v = v := fun v => rfl
      (try dsimp only at hS)
      go_simp
      with_reducible rfl
    try simp only [Act.put, List.setIfInBounds_toArray, List.set_cons_zero, List.set_cons_succ]
    refine Seq.Seq.maymk (c2) (.int .i64 (bmost M.k)) (by rfl) hS (Seq.wanted_t (by rfl) (by rfl)) (fun hc K Q' hK => ?_) (fun w1 hS1 => ?_)
    · subst hc
      have ho : ∀ v, Seq.opt true v = v := fun v => rfl
      go_simp
      go_at_call 51
      refine (HC2.out _ hS).mono ?_
      rintro e w1 ⟨rfl, hb1⟩
      exact hK.out _ (show BlS _ _ from Below.trans hS (hb1.mono (Below.size hS)))
    replace hS := hS1
    clear hS1
    try simp only [Act.put, List.setIfInBounds_toArray, List.set_cons_zero, List.set_cons_succ]
    refine Seq.Seq.may (c2) ?_ (Seq.wanted_t (by rfl) (by rfl)) (fun hc w hS => ?_) ?_
    rotate_left
    · have ho : ∀ v, Seq.opt true v = v := fun v => rfl
      (try dsimp only at hS)
      go_simp
      with_reducible rfl
    try simp only [Act.put, List.setIfInBounds_toArray, List.set_cons_zero, List.set_cons_succ]
    refine Seq.Seq.det (.bool (c2 && decide (M.t ≤ bmost M.k))) (by rfl) (fun w hS => by cases c2 <;> rfl) ?_
    try simp only [Act.put, List.setIfInBounds_toArray, List.set_cons_zero, List.set_cons_succ]
    repeat (first | (refine Seq.Seq.skip (by rfl) ?_; (try simp only [Act.put, List.setIfInBounds_toArray, List.set_cons_zero, List.set_cons_succ])) | (refine Seq.Seq.det ?_ (by rfl) (fun w hS => ?_) ?_; rotate_left; ((try dsimp only at hS); go_simp; (try rw [if_pos (by omega)]); with_reducible rfl); (try simp only [Act.put, List.setIfInBounds_toArray, List.set_cons_zero, List.set_cons_succ])))
    obtain ⟨c3, hc3⟩ : ∃ c3, decide (M.S.length ≤ 16) = c3 := ⟨_, rfl⟩
    have hc3' : decide ((M.S.length : Int) ≤ 16) = c3 := by rw [← hc3, decide_eq_decide]; omega
    first | rw [hc3] | rw [hc3']
    refine Seq.Seq.may (c3) ?_ (Seq.wanted_t (by rfl) (by rfl)) (fun hc w hS => ?_) ?_
    rotate_left
    · have ho : ∀ v, Seq.opt true v = v := fun v => rfl
      (try dsimp only at hS)
      go_simp
      with_reducible rfl
    try simp only [Act.put, List.setIfInBounds_toArray, List.set_cons_zero, List.set_cons_succ]
    refine Seq.Seq.may (c3) ?_ (Seq.wanted_t (by rfl) (by rfl)) (fun hc w hS => ?_) ?_
    rotate_left
    · have ho : ∀ v, Seq.opt true v = v := fun v => rfl
      (try dsimp only at hS)
      go_simp
      with_reducible rfl
    try simp only [Act.put, List.setIfInBounds_toArray, List.set_cons_zero, List.set_cons_succ]
    refine Seq.Seq.maymk (c3) (.bool (risesB M.S)) (by rfl) hS (Seq.wanted_t (by rfl) (by rfl)) (fun hc K Q' hK => ?_) (fun w1 hS1 => ?_)
    · subst hc
      have ho : ∀ v, Seq.opt true v = v := fun v => rfl
      go_simp
      go_at_call 52
      refine (HC3.out _ hS).mono ?_
      rintro e w1 ⟨rfl, hb1⟩
      exact hK.out _ (show BlS _ _ from Below.trans hS (hb1.mono (Below.size hS)))
    replace hS := hS1
    clear hS1
    try simp only [Act.put, List.setIfInBounds_toArray, List.set_cons_zero, List.set_cons_succ]
    refine Seq.Seq.det (.bool (c3 && risesB M.S)) (by rfl) (fun w hS => by cases c3 <;> rfl) ?_
    try simp only [Act.put, List.setIfInBounds_toArray, List.set_cons_zero, List.set_cons_succ]
    repeat (first | (refine Seq.Seq.skip (by rfl) ?_; (try simp only [Act.put, List.setIfInBounds_toArray, List.set_cons_zero, List.set_cons_succ])) | (refine Seq.Seq.det ?_ (by rfl) (fun w hS => ?_) ?_; rotate_left; ((try dsimp only at hS); go_simp; (try rw [if_pos (by omega)]); with_reducible rfl); (try simp only [Act.put, List.setIfInBounds_toArray, List.set_cons_zero, List.set_cons_succ])))
    refine Seq.Seq.make (by rfl) (by rfl) (fun K Q' hK => ?_)
    go_simp
    go_at_call 53
    refine (HC4.out _ hS).mono ?_
    rintro e w1 ⟨rfl, hb1⟩
    refine hK.out _ _ ((show BlS _ _ from Below.trans hS (hb1.mono (Below.size hS)))) ?_
    clear hK K
    try simp only [Act.put, List.setIfInBounds_toArray, List.set_cons_zero, List.set_cons_succ]
    replace hS : BlS w0 w1 := Below.trans hS (hb1.mono (Below.size hS))
    clear hb1
    repeat (first | (refine Seq.Seq.skip (by rfl) ?_; (try simp only [Act.put, List.setIfInBounds_toArray, List.set_cons_zero, List.set_cons_succ])) | (refine Seq.Seq.det ?_ (by rfl) (fun w hS => ?_) ?_; rotate_left; ((try dsimp only at hS); go_simp; (try rw [if_pos (by omega)]); with_reducible rfl); (try simp only [Act.put, List.setIfInBounds_toArray, List.set_cons_zero, List.set_cons_succ])))
    have hd1 : decide ((M.D.length : Int) ≤ 1048576) = true := decide_eq_true hd0
    have hd2 : decide (M.D.length ≤ 1048576) = true := decide_eq_true (by omega)
    (try rw [hd1])
    (try rw [hd2])
    repeat (first | (refine Seq.Seq.skip (by rfl) ?_; (try simp only [Act.put, List.setIfInBounds_toArray, List.set_cons_zero, List.set_cons_succ])) | (refine Seq.Seq.det ?_ (by rfl) (fun w hS => ?_) ?_; rotate_left; ((try dsimp only at hS); go_simp; (try rw [if_pos (by omega)]); with_reducible rfl); (try simp only [Act.put, List.setIfInBounds_toArray, List.set_cons_zero, List.set_cons_succ])))
    refine Seq.Seq.make (by rfl) (by rfl) (fun K Q' hK => ?_)
    go_simp
    go_at_call 54
    refine (HC5.out _ hS).mono ?_
    rintro e w1 ⟨rfl, hb1⟩
    refine hK.out _ _ ((show BlS _ _ from Below.trans hS (hb1.mono (Below.size hS)))) ?_
    clear hK K
    try simp only [Act.put, List.setIfInBounds_toArray, List.set_cons_zero, List.set_cons_succ]
    replace hS : BlS w0 w1 := Below.trans hS (hb1.mono (Below.size hS))
    clear hb1
    repeat (first | (refine Seq.Seq.skip (by rfl) ?_; (try simp only [Act.put, List.setIfInBounds_toArray, List.set_cons_zero, List.set_cons_succ])) | (refine Seq.Seq.det ?_ (by rfl) (fun w hS => ?_) ?_; rotate_left; ((try dsimp only at hS); go_simp; (try rw [if_pos (by omega)]); with_reducible rfl); (try simp only [Act.put, List.setIfInBounds_toArray, List.set_cons_zero, List.set_cons_succ])))
    obtain ⟨c5, hc5⟩ : ∃ c5, bears M = c5 := ⟨_, rfl⟩
    rw [hc5]
    refine Seq.Seq.may (!c5) ?_ (Seq.wanted_f (by rfl) (by rfl)) (fun hc w hS => ?_) ?_
    rotate_left
    · have ho : ∀ v, Seq.opt true v = v := fun v => rfl
      (try dsimp only at hS)
      go_simp
      with_reducible rfl
    try simp only [Act.put, List.setIfInBounds_toArray, List.set_cons_zero, List.set_cons_succ]
    refine Seq.Seq.may (!c5) ?_ (Seq.wanted_f (by rfl) (by rfl)) (fun hc w hS => ?_) ?_
    rotate_left
    · have ho : ∀ v, Seq.opt true v = v := fun v => rfl
      (try dsimp only at hS)
      go_simp
      with_reducible rfl
    try simp only [Act.put, List.setIfInBounds_toArray, List.set_cons_zero, List.set_cons_succ]
    refine Seq.Seq.may (!c5) ?_ (Seq.wanted_f (by rfl) (by rfl)) (fun hc w hS => ?_) ?_
    rotate_left
    · have ho : ∀ v, Seq.opt true v = v := fun v => rfl
      (try dsimp only at hS)
      go_simp
      with_reducible rfl
    try simp only [Act.put, List.setIfInBounds_toArray, List.set_cons_zero, List.set_cons_succ]
    refine Seq.Seq.may (!c5) ?_ (Seq.wanted_f (by rfl) (by rfl)) (fun hc w hS => ?_) ?_
    rotate_left
    · have ho : ∀ v, Seq.opt true v = v := fun v => rfl
      (try dsimp only at hS)
      go_simp
      with_reducible rfl
    try simp only [Act.put, List.setIfInBounds_toArray, List.set_cons_zero, List.set_cons_succ]
    refine Seq.Seq.det (.bool (c5 || ((M.D.length : Int) == 0))) (by rfl) (fun w hS => by cases c5 <;> rfl) ?_
    try simp only [Act.put, List.setIfInBounds_toArray, List.set_cons_zero, List.set_cons_succ]
    repeat (first | (refine Seq.Seq.skip (by rfl) ?_; (try simp only [Act.put, List.setIfInBounds_toArray, List.set_cons_zero, List.set_cons_succ])) | (refine Seq.Seq.det ?_ (by rfl) (fun w hS => ?_) ?_; rotate_left; ((try dsimp only at hS); go_simp; (try rw [if_pos (by omega)]); with_reducible rfl); (try simp only [Act.put, List.setIfInBounds_toArray, List.set_cons_zero, List.set_cons_succ])))
    refine Seq.Seq.make (by rfl) (by rfl) (fun K Q' hK => ?_)
    go_simp
    go_at_call 55
    refine (HC6.out _ hS).mono ?_
    rintro e w1 ⟨rfl, hb1⟩
    refine hK.out _ _ ((show BlS _ _ from Below.trans hS (hb1.mono (Below.size hS)))) ?_
    clear hK K
    try simp only [Act.put, List.setIfInBounds_toArray, List.set_cons_zero, List.set_cons_succ]
    replace hS : BlS w0 w1 := Below.trans hS (hb1.mono (Below.size hS))
    clear hb1
    repeat (first | (refine Seq.Seq.skip (by rfl) ?_; (try simp only [Act.put, List.setIfInBounds_toArray, List.set_cons_zero, List.set_cons_succ])) | (refine Seq.Seq.det ?_ (by rfl) (fun w hS => ?_) ?_; rotate_left; ((try dsimp only at hS); go_simp; (try rw [if_pos (by omega)]); with_reducible rfl); (try simp only [Act.put, List.setIfInBounds_toArray, List.set_cons_zero, List.set_cons_succ])))
    have hse := fun w' => seal_eqw M.s.1 M.s.2.1 M.s.2.2 0 0 0 w'
    repeat (first | (refine Seq.Seq.skip (by rfl) ?_; (try simp only [Act.put, List.setIfInBounds_toArray, List.set_cons_zero, List.set_cons_succ])) | (refine Seq.Seq.det ?_ (by rfl) (fun w hS => ?_) ?_; rotate_left; ((try dsimp only at hS); go_simp; (try rw [if_pos (by omega)]); with_reducible rfl); (try simp only [Act.put, List.setIfInBounds_toArray, List.set_cons_zero, List.set_cons_succ])))
    clear hse
    refine Seq.Seq.make (by rfl) (by rfl) (fun K Q' hK => ?_)
    go_simp
    go_at_call 56
    refine (HC7.out _ hS).mono ?_
    rintro e w1 ⟨rfl, hb1⟩
    refine hK.out _ _ ((show BlS _ _ from Below.trans hS (hb1.mono (Below.size hS)))) ?_
    clear hK K
    try simp only [Act.put, List.setIfInBounds_toArray, List.set_cons_zero, List.set_cons_succ]
    replace hS : BlS w0 w1 := Below.trans hS (hb1.mono (Below.size hS))
    clear hb1
    repeat (first | (refine Seq.Seq.skip (by rfl) ?_; (try simp only [Act.put, List.setIfInBounds_toArray, List.set_cons_zero, List.set_cons_succ])) | (refine Seq.Seq.det ?_ (by rfl) (fun w hS => ?_) ?_; rotate_left; ((try dsimp only at hS); go_simp; (try rw [if_pos (by omega)]); with_reducible rfl); (try simp only [Act.put, List.setIfInBounds_toArray, List.set_cons_zero, List.set_cons_succ])))
    refine Seq.Seq.make (by rfl) (by rfl) (fun K Q' hK => ?_)
    go_simp
    go_at_call 57
    refine (HC8.out _ hS).mono ?_
    rintro e w1 ⟨rfl, hb1⟩
    refine hK.out _ _ ((show BlS _ _ from Below.trans hS (hb1.mono (Below.size hS)))) ?_
    clear hK K
    try simp only [Act.put, List.setIfInBounds_toArray, List.set_cons_zero, List.set_cons_succ]
    replace hS : BlS w0 w1 := Below.trans hS (hb1.mono (Below.size hS))
    clear hb1
    repeat (first | (refine Seq.Seq.skip (by rfl) ?_; (try simp only [Act.put, List.setIfInBounds_toArray, List.set_cons_zero, List.set_cons_succ])) | (refine Seq.Seq.det ?_ (by rfl) (fun w hS => ?_) ?_; rotate_left; ((try dsimp only at hS); go_simp; (try rw [if_pos (by omega)]); with_reducible rfl); (try simp only [Act.put, List.setIfInBounds_toArray, List.set_cons_zero, List.set_cons_succ])))
    refine Seq.Seq.make (by rfl) (by rfl) (fun K Q' hK => ?_)
    go_simp
    have hrow := brow_is M hc1 hc2 hc3 hc5 hD
    rw [← hrow]
    have hbN := below_one w1 (.cells (brow M) 80)
    have hSN : BlS w0 (w1.alloc (.cells (brow M) 80)) := Below.trans hS (hbN.mono (Below.size hS))
    have hNB := Blk.new w1 (brow M) 80
    refine hK.out _ _ (hSN) ?_
    clear hK K
    try simp only [Act.put, List.setIfInBounds_toArray, List.set_cons_zero, List.set_cons_succ]
    clear hrow hc1 hc2 hc3 hc3' hc5
    repeat (first | (refine Seq.Seq.skip (by rfl) ?_; (try simp only [Act.put, List.setIfInBounds_toArray, List.set_cons_zero, List.set_cons_succ])) | (refine Seq.Seq.det ?_ (by rfl) (fun w hS => ?_) ?_; rotate_left; ((try dsimp only at hS); go_simp; (try rw [if_pos (by omega)]); with_reducible rfl); (try simp only [Act.put, List.setIfInBounds_toArray, List.set_cons_zero, List.set_cons_succ])))
    refine Seq.Seq.nil ?_
    go_wp2_with fail
    go_meet
    exact ⟨⟨_, _, rfl, hNB, HX.out.below hSN, HB.out.trans (Below.mono hSN HB.out.size)⟩, rfl, rfl⟩
  case rest =>
    obtain ⟨⟨g, tt, rfl, hG, hXr, hbr⟩, rfl, rfl⟩ := hcut
    have HG := Lib.hid hG
    have HXr := Lib.hid hXr
    have HBr := Lib.hid hbr
    clear hG hXr hbr x0 x1 x2 x3 x4 x5 x6 x7 x8 x9 x10 x11 x12 x13
    go_wp2
    go_loopw [101] (fun i wr => ∃ j : Nat, j ≤ 8 ∧ i = .int .i64 j ∧ Hid (bfk M j = true ∧ Below wc.heap.size wc wr)) (fun i _ => 8 - (intOf i).toNat)
    case atStart => exact ⟨0, by omega, rfl, Lib.hid ⟨rfl, Below.refl _ _⟩⟩
    case round =>
      obtain ⟨j, hj, rfl, HR⟩ := hrel
      obtain ⟨hk, hbw⟩ := HR.out
      by_cases hj8 : j < 8
      · have ej : (j : Int) < 8 := by omega
        have e3 : IntKind.i64.wrap ((j : Int) + 1) = ((j + 1 : Nat) : Int) := IntWalk.i64_in _ (by omega)
        obtain ⟨r0, r1, r2⟩ := brow_at M hj8
        have g0 := (HG.out.below hbw).cell _ r0
        have g1 := (HG.out.below hbw).cell _ r1
        have g2 := (HG.out.below hbw).cell _ r2
        obtain ⟨⟨x0, x1, x2, x3, x4, x5, x6⟩, x7, x8, x9, x10, x11, x12, x13⟩ := ms_cells (HXr.out.below hbw)
        obtain ⟨part, hpart⟩ : ∃ part, part = pw2 j := ⟨_, rfl⟩
        rw [← hpart] at g0
        have HPT := Lib.hid hpart
        have hpb : 0 ≤ part ∧ part < 9223372036854775808 := by rw [hpart]; exact pw2_bd j
        obtain ⟨rt, hrt⟩ : ∃ rt, rt = (bfr M j).1 := ⟨_, rfl⟩
        obtain ⟨nn, hnn⟩ : ∃ nn, nn = (bfr M j).2 := ⟨_, rfl⟩
        rw [← hrt] at g1
        rw [← hnn] at g2
        have HFT : Hid (bfit M j = if kh M.k part = true then rt else nn) := Lib.hid (by unfold bfit; rw [← hpart, ← hrt, ← hnn])
        have HKJ := Lib.hid hk
        have hbA := below_one wr (.cells #[.int .i64 part, .bool rt, .bool nn] 80)
        have HBW := Lib.hid hbw
        clear hpart hrt hnn hk hbw HR r0 r1 r2 x1 x2 x3 x4 x5 x6 x7 x8 x9 x10 x11 x12 x13
        have hNB := Blk.new wr #[.int .i64 part, .bool rt, .bool nn] 80
        have hbw2 := HBW.out.trans (hbA.mono HBW.out.size)
        have HBW2 := Lib.hid hbw2
        have HNB := Lib.hid hNB
        obtain ⟨b0, b1, b2⟩ := hNB.c3
        obtain ⟨⟨y0, _⟩, _⟩ := ms_cells (HXr.out.below hbw2)
        have hhas := khas_any M.k part (wr.alloc (.cells #[.int .i64 part, .bool rt, .bool nn] 80)) (by omega) hpb.2
        unfold BPost at hhas
        clear hNB hbw2 hbA
        go_upto_region 5 with (fail)
        generalize wr.alloc (.cells #[.int .i64 part, .bool rt, .bool nn] 80) = wb at *
        generalize wr.heap.size = bb at *
        clear x0 g0 g1 g2
        go_wp2_with fail
        refine hhas.mono ?_
        rintro en w5 ⟨rfl, hb5⟩
        obtain ⟨b0', b1', b2'⟩ := (HNB.out.below hb5).c3
        have HBW5 := Lib.hid (HBW2.out.trans (hb5.mono HBW2.out.size))
        clear hhas hb5 b0 b1 b2 y0
        obtain ⟨ft, hft⟩ : ∃ ft, bfit M j = ft := ⟨_, rfl⟩
        cases hkh : kh M.k part
        · have e : ft = nn := by rw [← hft, HFT.out, hkh]; rfl
          subst e
          have HFJ := Lib.hid hft
          clear hft hkh HFT
          cases ft
          · have HNO : Hid (bdk M = false) := Lib.hid (by unfold bdk; rw [bfk_no HFJ.out 8 hj8]; rfl)
            have HBF := Lib.hid (HBr.out.trans (HBW5.out.mono HBr.out.size))
            go_wp2
            go_ret
            exact ⟨by rw [HNO.out]; rfl, HBF.out⟩
          · have HNX : Hid (bfk M (j + 1) = true ∧ Below wc.heap.size wc w5) := Lib.hid ⟨by show (bfk M j && bfit M j) = true; rw [HKJ.out, HFJ.out]; rfl, HBW5.out⟩
            go_wp2
            go_roundw
            case rel => exact ⟨j + 1, by omega, by go_num, HNX⟩
            case measure => simp [intOf]; omega
        · have e : ft = rt := by rw [← hft, HFT.out, hkh]; rfl
          subst e
          have HFJ := Lib.hid hft
          clear hft hkh HFT
          cases ft
          · have HNO : Hid (bdk M = false) := Lib.hid (by unfold bdk; rw [bfk_no HFJ.out 8 hj8]; rfl)
            have HBF := Lib.hid (HBr.out.trans (HBW5.out.mono HBr.out.size))
            go_wp2
            go_ret
            exact ⟨by rw [HNO.out]; rfl, HBF.out⟩
          · have HNX : Hid (bfk M (j + 1) = true ∧ Below wc.heap.size wc w5) := Lib.hid ⟨by show (bfk M j && bfit M j) = true; rw [HKJ.out, HFJ.out]; rfl, HBW5.out⟩
            go_wp2
            go_roundw
            case rel => exact ⟨j + 1, by omega, by go_num, HNX⟩
            case measure => simp [intOf]; omega
      · have hj9 : j = 8 := by omega
        subst hj9
        have hj8' : ¬ ((8 : Int) < 8) := by omega
        obtain ⟨⟨y0, _⟩, _⟩ := ms_cells (HXr.out.below hbw)
        have HK8 : Hid (bdk M = kri M.k) := Lib.hid (by unfold bdk; rw [hk]; rfl)
        have HBF := Lib.hid (HBr.out.trans (hbw.mono HBr.out.size))
        clear hk hbw HR hj8
        go_wp2_with fail
        refine (kright_any M.k _).mono ?_
        rintro en w9 ⟨rfl, rfl⟩
        go_wp2
        go_ret
        exact ⟨by rw [HK8.out]; rfl, HBF.out⟩
end Go.Proofs.YtmiimjgfainclaaGreat.Cur
