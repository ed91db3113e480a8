/- The contracts of package tally, III: Sum, Rows; the law's own functions. -/
import Derived.Test.YtepebneigehboaaTalC
import Derived.Test.YtepebneigehboaaRowL
import Derived.WideKeyPair
namespace Go.Proofs.Ytepebneigehboaa.Cur
open Go.RowKit Mem Flt
set_option linter.unusedVariables false
set_option maxRecDepth 100000


/-- Of a list of pairs, the sums of the first k, and whether each of them is a tally. -/
def tn (N : List (Int × Int)) : Nat → Int
  | 0 => 0
  | k + 1 => tn N k + (N.getD k (0, 0)).1
def tm (N : List (Int × Int)) : Nat → Int
  | 0 => 0
  | k + 1 => tm N k + (N.getD k (0, 0)).2
def allr (N : List (Int × Int)) : Nat → Bool
  | 0 => true
  | k + 1 => allr N k && rt (N.getD k (0, 0)).1 (N.getD k (0, 0)).2
theorem allr_le {N : List (Int × Int)} {k j : Nat} (h : allr N k = true) (hj : j < k) : rt (N.getD j (0, 0)).1 (N.getD j (0, 0)).2 = true := by
  induction k with
  | zero => omega
  | succ k ih =>
    unfold allr at h
    rw [Bool.and_eq_true] at h
    rcases Nat.lt_or_ge j k with h1 | h1
    · exact ih h.1 h1
    · obtain rfl : j = k := by omega
      exact h.2
theorem allr_not {N : List (Int × Int)} {k j : Nat} (h : rt (N.getD j (0, 0)).1 (N.getD j (0, 0)).2 = false) (hj : j < k) : allr N k = false := by
  cases hb : allr N k
  · rfl
  · rw [allr_le hb hj] at h; cases h
theorem tn_ge {N : List (Int × Int)} {k : Nat} (h : allr N k = true) : 0 ≤ tn N k ∧ 0 ≤ tm N k ∧ (tn N k = 0 → tm N k = 0) := by
  induction k with
  | zero => exact ⟨Int.le_refl _, Int.le_refl _, fun _ => rfl⟩
  | succ k ih =>
    unfold allr at h
    rw [Bool.and_eq_true] at h
    have h1 := ih h.1
    have h2 := rt_bd h.2
    unfold tn tm
    omega

/-- At an address lie numbers that stand for these pairs. -/
def CR (w : World) (A : Option Addr) (n : Nat) (N : List (Int × Int)) : Prop :=
  N.length = n ∧ ∀ i, i < n → ∃ b o x y, A = some ⟨b, o, none⟩ ∧ w.cell? ⟨b, o + i, none⟩ = some (.complex .f64 x y) ∧ Pt x (N.getD i (0, 0)).1 ∧ Pt y (N.getD i (0, 0)).2
theorem CR.below {w w' : World} {A : Option Addr} {n : Nat} {N : List (Int × Int)} (h : CR w A n N) (hb : Below w.heap.size w w') : CR w' A n N :=
  ⟨h.1, fun i hi => by
    obtain ⟨b, o, x, y, e, hc, r⟩ := h.2 i hi
    exact ⟨b, o, x, y, e, (hb.cell (lt_of_cell hc)).trans hc, r⟩⟩

/-- What they come to. -/
def sv (N : List (Int × Int)) (n : Nat) : Value := if allr N n then nz (tn N n) (tm N n) else .complex .f64 0 0

set_option maxHeartbeats 400000 in
theorem tsum_any (A : Option Addr) (n m : Nat) (N : List (Int × Int)) (w : World) (h : CR w A n N) (hn : n ≤ 9000000) :
    Calls Try.prog 16 #[.slice A n m] w fun e w' => e = .returned (sv N n) ∧ w = w' := by
  have HR := Lib.hid h
  clear h
  go_enter Try.func16, Try.ntmps16
  go_wp2
  go_loop [3, 8] (fun v i => ∃ (k x y : Nat), k ≤ n ∧ i = .int .i64 k ∧ v = .complex .f64 x y ∧ Hid (Pt x (tn N k) ∧ Pt y (tm N k) ∧ allr N k = true)) (fun _ i => n - (intOf i).toNat)
  case atStart => exact ⟨0, 0, 0, by omega, rfl, rfl, Lib.hid ⟨pt_zero, pt_zero, rfl⟩⟩
  case round =>
    obtain ⟨k, x, y, hk, rfl, rfl, HP⟩ := hrel
    by_cases hlt : k < n
    · obtain ⟨b, o, x', y', rfl, hc, p1, p2⟩ := HR.out.2 k hlt
      have hr := right_any p1 p2
      cases hb : rt (N.getD k (0, 0)).1 (N.getD k (0, 0)).2
      · rw [hb] at hr
        have HE : Hid (sv N n = .complex .f64 0 0) := Lib.hid (by unfold sv; rw [allr_not hb hlt]; rfl)
        clear p1 p2 hb
        go_wp2_with fail
        refine (hr _).mono ?_
        rintro e w' ⟨rfl, rfl⟩
        go_wp2
        go_ret
        exact ⟨by rw [HE.out]; rfl, rfl⟩
      · rw [hb] at hr
        have hg := tn_ge HP.out.2.2
        obtain ⟨u, v, pu, pv, hs⟩ := cadd_run HP.out.1 HP.out.2.1 p1 p2 ⟨hg.1, hg.2.1⟩ hb
        have HQ : Hid (Pt u (tn N (k + 1)) ∧ Pt v (tm N (k + 1)) ∧ allr N (k + 1) = true) := Lib.hid ⟨pu, pv, by unfold allr; rw [HP.out.2.2, hb]; rfl⟩
        clear p1 p2 hb hg pu pv
        go_wp2_with fail
        refine (hr _).mono ?_
        rintro e w' ⟨rfl, rfl⟩
        go_wp2
        go_round
        case rel => exact ⟨k + 1, u, v, by omega, by go_num, rfl, HQ⟩
        case measure => simp [intOf]; omega
    · obtain rfl : k = n := by omega
      have hc := checked_any HP.out.1 HP.out.2.1
      have HE : Hid (sv N k = nz (tn N k) (tm N k)) := Lib.hid (by unfold sv; rw [HP.out.2.2]; rfl)
      generalize nz (tn N k) (tm N k) = z at *
      generalize (if rt (tn N k) (tm N k) = true then (0 : Int) else 17) = c at *
      go_wp2_with fail
      refine (hc _).mono ?_
      rintro e w' ⟨rfl, rfl⟩
      go_wp2
      go_ret
      exact ⟨by rw [HE.out]; rfl, rfl⟩

/-- How many bytes the first k rows have. -/
def rl' (R : List (List Int)) : Nat → Int
  | 0 => 0
  | k + 1 => rl' R k + (R.getD k []).length
theorem rl'_bd {R : List (List Int)} (h : ∀ i, i < R.length → (R.getD i []).length ≤ 500) (k : Nat) (hk : k ≤ R.length) : 0 ≤ rl' R k ∧ rl' R k ≤ 500 * k := by
  induction k with
  | zero => exact ⟨Int.le_refl _, by unfold rl'; omega⟩
  | succ k ih =>
    have := ih (by omega)
    have := h k (by omega)
    unfold rl'
    omega
theorem rl'_zero {R : List (List Int)} : rl' R 0 = 0 := rfl

set_option maxHeartbeats 400000 in
theorem rows_any (A : Option Addr) (n m : Nat) (R : List (List Int)) (w : World) (h : RowsL w A n R) (hn : n ≤ 100) (h2 : ∀ i, i < R.length → (R.getD i []).length ≤ 500) :
    Calls Try.prog 24 #[.slice A n m] w fun e w' => e = .returned (nz n (rl' R n)) ∧ w = w' := by
  have HR := Lib.hid h
  have H2 := Lib.hid h2
  clear h h2
  go_enter Try.func24, Try.ntmps24
  go_wp2
  go_loop [3, 8] (fun v i => ∃ (k x y : Nat), k ≤ n ∧ i = .int .i64 k ∧ v = .complex .f64 x y ∧ Hid (Pt x k ∧ Pt y (rl' R k))) (fun _ i => n - (intOf i).toNat)
  case atStart => exact ⟨0, 0, 0, by omega, rfl, rfl, Lib.hid ⟨pt_zero, pt_zero⟩⟩
  case round =>
    obtain ⟨k, x, y, hk, rfl, rfl, HP⟩ := hrel
    by_cases hlt : k < n
    · have hl := H2.out k (by rw [HR.out.1]; exact hlt)
      have hb := rl'_bd H2.out k (by rw [HR.out.1]; exact hk)
      obtain ⟨b, o, Ar, Lr, Cr, rfl, hc, hbs, hby, hnil, hle⟩ := HR.out.2 k hlt
      have HL := Lib.hid hbs.1
      rw [HL.out] at hl
      have hone := one_any Lr
      have hrt : rt 1 Lr = true := decide_eq_true (by omega)
      obtain ⟨x', y', n', m', e1, p1, p2, hr', _, hcas⟩ := nz_parts 1 Lr
      obtain ⟨_, rfl, rfl⟩ : rt 1 Lr = true ∧ n' = 1 ∧ m' = (Lr : Int) := by
        rcases hcas with h | h
        · exact h
        · rw [hrt] at h; exact absurd h.1 (by decide)
      rw [e1] at hone
      obtain ⟨u, v, pu, pv, hs⟩ := cadd_run HP.out.1 HP.out.2 p1 p2 ⟨by omega, hb.1⟩ hr'
      have HQ : Hid (Pt u ((k + 1 : Nat) : Int) ∧ Pt v (rl' R (k + 1))) := Lib.hid ⟨by rw [Int.natCast_add]; exact pu, by unfold rl'; rw [HL.out]; exact pv⟩
      clear hbs hby hnil hle e1 p1 p2 hr' hcas hb hrt pu pv hl
      go_wp2_with fail
      refine (hone _).mono ?_
      rintro e w' ⟨rfl, rfl⟩
      go_wp2
      go_round
      case rel => exact ⟨k + 1, u, v, by omega, by go_num, rfl, HQ⟩
      case measure => simp [intOf]; omega
    · obtain rfl : k = n := by omega
      have hc := checked_any HP.out.1 HP.out.2
      obtain ⟨z, hz⟩ : ∃ z, nz k (rl' R k) = z := ⟨_, rfl⟩
      rw [hz] at hc
      have HE := Lib.hid hz
      clear hz
      generalize (if rt k (rl' R k) = true then (0 : Int) else 17) = c at *
      go_wp2_with fail
      refine (hc _).mono ?_
      rintro e w' ⟨rfl, rfl⟩
      go_wp2
      go_ret
      exact ⟨by rw [HE.out]; rfl, rfl⟩

/-- The law's question. -/
def asb (n m n' m' : Int) (b : Bool) : Bool := !b && rt n m && (n == n') && (m == m')
set_option maxHeartbeats 1000000 in
theorem as_any {x y : Nat} {n m : Int} (h : Pt x n) (h' : Pt y m) (n' m' : Int) (b : Bool) (w : World) :
    Calls Try.prog 9 #[.complex .f64 x y, tq n' m' b] w (TPost (.bool (asb n m n' m' b)) w) := by
  have r1 := right_any h h'
  have r2 := things_any h h'
  have r3 := bytesT_any h h'
  clear h h'
  unfold tq
  have hbel := below_one w (.cells #[.int .i64 n', .int .i64 m', .bool b] 28)
  have hblk := Blk.new w #[.int .i64 n', .int .i64 m', .bool b] 28
  cases b
  · cases hr : rt n m
    · have e : asb n m n' m' false = false := by unfold asb; rw [hr]; rfl
      rw [hr] at r1
      rw [e]
      go_enter Try.func9, Try.ntmps9
      go_wp2
      generalize w.alloc (.cells #[.int .i64 n', .int .i64 m', .bool false] 28) = w1 at *
      generalize hsb : w.heap.size = sb at hblk ⊢
      clear hsb
      have L : ∀ w', Blk w' sb #[.int .i64 n', .int .i64 m', .bool false] 28 → w'.cell? ⟨sb, 0, none⟩ = some (.int .i64 n') ∧ w'.cell? ⟨sb, 1, none⟩ = some (.int .i64 m') ∧ w'.cell? ⟨sb, 2, none⟩ = some (.bool false) := fun w' h => h.c3
      have hS : Blk w1.drew sb #[.int .i64 n', .int .i64 m', .bool false] 28 := hblk
      have hbd : Below w.heap.size w w1.drew := hbel.drew
      refine Seq.wp_region_seq (fun w' => Blk w' sb #[.int .i64 n', .int .i64 m', .bool false] 28) (by kernel_rfl) (by kernel_rfl) hS ?_
      repeat (first | (refine Seq.Seq.skip (by rfl) ?_; (try simp only [Act.put, List.setIfInBounds_toArray, List.set_cons_zero, List.set_cons_succ])) | (refine Seq.Seq.det ?_ (by rfl) (fun w hS => ?_) ?_; rotate_left; ((try dsimp only at hS); go_simp; (try rw [if_pos (by omega)]); with_reducible rfl); (try simp only [Act.put, List.setIfInBounds_toArray, List.set_cons_zero, List.set_cons_succ])))
      refine Seq.Seq.make (by rfl) (by rfl) (fun K Q' hK => ?_)
      go_simp
      go_at_call 11
      refine (r1 _).mono ?_
      rintro e w' ⟨rfl, rfl⟩
      refine hK.out _ _ (hS) ?_
      clear hK K
      try simp only [Act.put, List.setIfInBounds_toArray, List.set_cons_zero, List.set_cons_succ]
      repeat (first | (refine Seq.Seq.skip (by rfl) ?_; (try simp only [Act.put, List.setIfInBounds_toArray, List.set_cons_zero, List.set_cons_succ])) | (refine Seq.Seq.det ?_ (by rfl) (fun w hS => ?_) ?_; rotate_left; ((try dsimp only at hS); go_simp; (try rw [if_pos (by omega)]); with_reducible rfl); (try simp only [Act.put, List.setIfInBounds_toArray, List.set_cons_zero, List.set_cons_succ])))
      repeat (first | (refine Seq.Seq.skip (by rfl) ?_; (try simp only [Act.put, List.setIfInBounds_toArray, List.set_cons_zero, List.set_cons_succ])) | (refine Seq.Seq.det ?_ (by rfl) (fun w hS => ?_) ?_; rotate_left; ((try dsimp only at hS); go_simp; (try rw [if_pos (by omega)]); with_reducible rfl); (try simp only [Act.put, List.setIfInBounds_toArray, List.set_cons_zero, List.set_cons_succ])))
      refine Seq.Seq.nil ?_
      go_wp2
      go_ret
      exact ⟨rfl, hbd⟩
    · rw [hr] at r1 r2 r3
      rw [if_pos rfl] at r2 r3
      by_cases hn : n = n'
      · have d1 : (n == n') = true := by simpa using hn
        have e : asb n m n' m' false = (m == m') := by unfold asb; rw [hr, d1]; simp
        rw [e]
        clear hn
        go_enter Try.func9, Try.ntmps9
        go_wp2
        generalize w.alloc (.cells #[.int .i64 n', .int .i64 m', .bool false] 28) = w1 at *
        generalize hsb : w.heap.size = sb at hblk ⊢
        clear hsb
        have L : ∀ w', Blk w' sb #[.int .i64 n', .int .i64 m', .bool false] 28 → w'.cell? ⟨sb, 0, none⟩ = some (.int .i64 n') ∧ w'.cell? ⟨sb, 1, none⟩ = some (.int .i64 m') ∧ w'.cell? ⟨sb, 2, none⟩ = some (.bool false) := fun w' h => h.c3
        have hS : Blk w1.drew sb #[.int .i64 n', .int .i64 m', .bool false] 28 := hblk
        have hbd : Below w.heap.size w w1.drew := hbel.drew
        refine Seq.wp_region_seq (fun w' => Blk w' sb #[.int .i64 n', .int .i64 m', .bool false] 28) (by kernel_rfl) (by kernel_rfl) hS ?_
        repeat (first | (refine Seq.Seq.skip (by rfl) ?_; (try simp only [Act.put, List.setIfInBounds_toArray, List.set_cons_zero, List.set_cons_succ])) | (refine Seq.Seq.det ?_ (by rfl) (fun w hS => ?_) ?_; rotate_left; ((try dsimp only at hS); go_simp; (try rw [if_pos (by omega)]); with_reducible rfl); (try simp only [Act.put, List.setIfInBounds_toArray, List.set_cons_zero, List.set_cons_succ])))
        refine Seq.Seq.make (by rfl) (by rfl) (fun K Q' hK => ?_)
        go_simp
        go_at_call 11
        refine (r1 _).mono ?_
        rintro e w' ⟨rfl, rfl⟩
        refine hK.out _ _ (hS) ?_
        clear hK K
        try simp only [Act.put, List.setIfInBounds_toArray, List.set_cons_zero, List.set_cons_succ]
        repeat (first | (refine Seq.Seq.skip (by rfl) ?_; (try simp only [Act.put, List.setIfInBounds_toArray, List.set_cons_zero, List.set_cons_succ])) | (refine Seq.Seq.det ?_ (by rfl) (fun w hS => ?_) ?_; rotate_left; ((try dsimp only at hS); go_simp; (try rw [if_pos (by omega)]); with_reducible rfl); (try simp only [Act.put, List.setIfInBounds_toArray, List.set_cons_zero, List.set_cons_succ])))
        refine Seq.Seq.make (by rfl) (by rfl) (fun K Q' hK => ?_)
        go_simp
        go_at_call 12
        refine (r2 _).mono ?_
        rintro e w' ⟨rfl, rfl⟩
        refine hK.out _ _ (hS) ?_
        clear hK K
        try simp only [Act.put, List.setIfInBounds_toArray, List.set_cons_zero, List.set_cons_succ]
        repeat (first | (refine Seq.Seq.skip (by rfl) ?_; (try simp only [Act.put, List.setIfInBounds_toArray, List.set_cons_zero, List.set_cons_succ])) | (refine Seq.Seq.det ?_ (by rfl) (fun w hS => ?_) ?_; rotate_left; ((try dsimp only at hS); go_simp; (try rw [if_pos (by omega)]); with_reducible rfl); (try simp only [Act.put, List.setIfInBounds_toArray, List.set_cons_zero, List.set_cons_succ])))
        refine Seq.Seq.make (by rfl) (by rfl) (fun K Q' hK => ?_)
        go_simp
        go_at_call 13
        refine (r3 _).mono ?_
        rintro e w' ⟨rfl, rfl⟩
        refine hK.out _ _ (hS) ?_
        clear hK K
        try simp only [Act.put, List.setIfInBounds_toArray, List.set_cons_zero, List.set_cons_succ]
        repeat (first | (refine Seq.Seq.skip (by rfl) ?_; (try simp only [Act.put, List.setIfInBounds_toArray, List.set_cons_zero, List.set_cons_succ])) | (refine Seq.Seq.det ?_ (by rfl) (fun w hS => ?_) ?_; rotate_left; ((try dsimp only at hS); go_simp; (try rw [if_pos (by omega)]); with_reducible rfl); (try simp only [Act.put, List.setIfInBounds_toArray, List.set_cons_zero, List.set_cons_succ])))
        repeat (first | (refine Seq.Seq.skip (by rfl) ?_; (try simp only [Act.put, List.setIfInBounds_toArray, List.set_cons_zero, List.set_cons_succ])) | (refine Seq.Seq.det ?_ (by rfl) (fun w hS => ?_) ?_; rotate_left; ((try dsimp only at hS); go_simp; (try rw [if_pos (by omega)]); with_reducible rfl); (try simp only [Act.put, List.setIfInBounds_toArray, List.set_cons_zero, List.set_cons_succ])))
        refine Seq.Seq.nil ?_
        go_wp2
        go_ret
        exact ⟨rfl, hbd⟩
      · have d1 : (n == n') = false := by simpa using hn
        have e : asb n m n' m' false = false := by unfold asb; rw [d1]; simp
        rw [e]
        clear hn
        go_enter Try.func9, Try.ntmps9
        go_wp2
        generalize w.alloc (.cells #[.int .i64 n', .int .i64 m', .bool false] 28) = w1 at *
        generalize hsb : w.heap.size = sb at hblk ⊢
        clear hsb
        have L : ∀ w', Blk w' sb #[.int .i64 n', .int .i64 m', .bool false] 28 → w'.cell? ⟨sb, 0, none⟩ = some (.int .i64 n') ∧ w'.cell? ⟨sb, 1, none⟩ = some (.int .i64 m') ∧ w'.cell? ⟨sb, 2, none⟩ = some (.bool false) := fun w' h => h.c3
        have hS : Blk w1.drew sb #[.int .i64 n', .int .i64 m', .bool false] 28 := hblk
        have hbd : Below w.heap.size w w1.drew := hbel.drew
        refine Seq.wp_region_seq (fun w' => Blk w' sb #[.int .i64 n', .int .i64 m', .bool false] 28) (by kernel_rfl) (by kernel_rfl) hS ?_
        repeat (first | (refine Seq.Seq.skip (by rfl) ?_; (try simp only [Act.put, List.setIfInBounds_toArray, List.set_cons_zero, List.set_cons_succ])) | (refine Seq.Seq.det ?_ (by rfl) (fun w hS => ?_) ?_; rotate_left; ((try dsimp only at hS); go_simp; (try rw [if_pos (by omega)]); with_reducible rfl); (try simp only [Act.put, List.setIfInBounds_toArray, List.set_cons_zero, List.set_cons_succ])))
        refine Seq.Seq.make (by rfl) (by rfl) (fun K Q' hK => ?_)
        go_simp
        go_at_call 11
        refine (r1 _).mono ?_
        rintro e w' ⟨rfl, rfl⟩
        refine hK.out _ _ (hS) ?_
        clear hK K
        try simp only [Act.put, List.setIfInBounds_toArray, List.set_cons_zero, List.set_cons_succ]
        repeat (first | (refine Seq.Seq.skip (by rfl) ?_; (try simp only [Act.put, List.setIfInBounds_toArray, List.set_cons_zero, List.set_cons_succ])) | (refine Seq.Seq.det ?_ (by rfl) (fun w hS => ?_) ?_; rotate_left; ((try dsimp only at hS); go_simp; (try rw [if_pos (by omega)]); with_reducible rfl); (try simp only [Act.put, List.setIfInBounds_toArray, List.set_cons_zero, List.set_cons_succ])))
        refine Seq.Seq.make (by rfl) (by rfl) (fun K Q' hK => ?_)
        go_simp
        go_at_call 12
        refine (r2 _).mono ?_
        rintro e w' ⟨rfl, rfl⟩
        refine hK.out _ _ (hS) ?_
        clear hK K
        try simp only [Act.put, List.setIfInBounds_toArray, List.set_cons_zero, List.set_cons_succ]
        repeat (first | (refine Seq.Seq.skip (by rfl) ?_; (try simp only [Act.put, List.setIfInBounds_toArray, List.set_cons_zero, List.set_cons_succ])) | (refine Seq.Seq.det ?_ (by rfl) (fun w hS => ?_) ?_; rotate_left; ((try dsimp only at hS); go_simp; (try rw [if_pos (by omega)]); with_reducible rfl); (try simp only [Act.put, List.setIfInBounds_toArray, List.set_cons_zero, List.set_cons_succ])))
        repeat (first | (refine Seq.Seq.skip (by rfl) ?_; (try simp only [Act.put, List.setIfInBounds_toArray, List.set_cons_zero, List.set_cons_succ])) | (refine Seq.Seq.det ?_ (by rfl) (fun w hS => ?_) ?_; rotate_left; ((try dsimp only at hS); go_simp; (try rw [if_pos (by omega)]); with_reducible rfl); (try simp only [Act.put, List.setIfInBounds_toArray, List.set_cons_zero, List.set_cons_succ])))
        refine Seq.Seq.nil ?_
        go_wp2
        go_ret
        exact ⟨rfl, hbd⟩
  · have e : asb n m n' m' true = false := rfl
    rw [e]
    go_enter Try.func9, Try.ntmps9
    go_wp2
    generalize w.alloc (.cells #[.int .i64 n', .int .i64 m', .bool true] 28) = w1 at *
    generalize hsb : w.heap.size = sb at hblk ⊢
    clear hsb
    have L : ∀ w', Blk w' sb #[.int .i64 n', .int .i64 m', .bool true] 28 → w'.cell? ⟨sb, 0, none⟩ = some (.int .i64 n') ∧ w'.cell? ⟨sb, 1, none⟩ = some (.int .i64 m') ∧ w'.cell? ⟨sb, 2, none⟩ = some (.bool true) := fun w' h => h.c3
    have hS : Blk w1.drew sb #[.int .i64 n', .int .i64 m', .bool true] 28 := hblk
    have hbd : Below w.heap.size w w1.drew := hbel.drew
    refine Seq.wp_region_seq (fun w' => Blk w' sb #[.int .i64 n', .int .i64 m', .bool true] 28) (by kernel_rfl) (by kernel_rfl) hS ?_
    repeat (first | (refine Seq.Seq.skip (by rfl) ?_; (try simp only [Act.put, List.setIfInBounds_toArray, List.set_cons_zero, List.set_cons_succ])) | (refine Seq.Seq.det ?_ (by rfl) (fun w hS => ?_) ?_; rotate_left; ((try dsimp only at hS); go_simp; (try rw [if_pos (by omega)]); with_reducible rfl); (try simp only [Act.put, List.setIfInBounds_toArray, List.set_cons_zero, List.set_cons_succ])))
    repeat (first | (refine Seq.Seq.skip (by rfl) ?_; (try simp only [Act.put, List.setIfInBounds_toArray, List.set_cons_zero, List.set_cons_succ])) | (refine Seq.Seq.det ?_ (by rfl) (fun w hS => ?_) ?_; rotate_left; ((try dsimp only at hS); go_simp; (try rw [if_pos (by omega)]); with_reducible rfl); (try simp only [Act.put, List.setIfInBounds_toArray, List.set_cons_zero, List.set_cons_succ])))
    refine Seq.Seq.nil ?_
    go_wp2
    go_ret
    exact ⟨rfl, hbd⟩

/-- The number made of any two. -/
def cl (p : Int) : Int := if 2251799813685248 < (if p < -1 then -1 else p) then 2251799813685248 else if p < -1 then -1 else p

set_option maxHeartbeats 1000000 in
theorem made_any (p q : Int) (w : World) :
    Calls Try.prog 10 #[.agg #[.int .i64 p, .int .i64 q]] w (TPost (.tuple #[.complex .f64 (floatOfInt .f64 (cl p)) (floatOfInt .f64 (cl q)), tof (cl p) (cl q)]) w) := by
  have hr := rof_any (cl p) (cl q)
  have ht : ∃ n m b, tof (cl p) (cl q) = .agg #[.int .i64 n, .int .i64 m, .bool b] := by unfold tof tq; split <;> exact ⟨_, _, _, rfl⟩
  obtain ⟨tn', tm', tb, ht⟩ := ht
  rw [ht] at hr ⊢
  obtain ⟨a, ha⟩ : ∃ a, cl p = a := ⟨_, rfl⟩
  obtain ⟨b, hb⟩ : ∃ b, cl q = b := ⟨_, rfl⟩
  rw [ha, hb] at hr ⊢
  clear ht
  unfold cl at ha hb
  obtain ⟨ap, hap⟩ : ∃ x, (if p < -1 then -1 else p) = x := ⟨_, rfl⟩
  obtain ⟨bp, hbp⟩ : ∃ x, (if q < -1 then -1 else q) = x := ⟨_, rfl⟩
  rw [hap] at ha
  rw [hbp] at hb
  have hbel := below_two w (.cells #[.int .i64 p, .int .i64 q] 22) (.cells #[.int .i64 0, .int .i64 0, .bool false] 28)
  have hblk := (Blk.new w #[.int .i64 p, .int .i64 q] 22).alloc (.cells #[.int .i64 0, .int .i64 0, .bool false] 28)
  have hcel := Blk.new (w.alloc (.cells #[.int .i64 p, .int .i64 q] 22)) #[.int .i64 0, .int .i64 0, .bool false] 28
  have hsz : (w.alloc (.cells #[.int .i64 p, .int .i64 q] 22)).heap.size = w.heap.size + 1 := by simp
  rw [hsz] at hcel
  clear hsz
  go_enter Try.func10, Try.ntmps10
  go_wp2
  generalize (w.alloc (.cells #[.int .i64 p, .int .i64 q] 22)).alloc (.cells #[.int .i64 0, .int .i64 0, .bool false] 28) = w1 at *
  have hge : w.heap.size ≤ w.heap.size + 1 := by omega
  generalize w.heap.size + 1 = tb' at hge hcel ⊢
  have HB := Lib.hid hbel
  have HG := Lib.hid hge
  clear hge hbel
  generalize hsb : w.heap.size = sb at hblk ⊢
  clear hsb
  have L : ∀ w', Blk w' sb #[.int .i64 p, .int .i64 q] 22 → w'.cell? ⟨sb, 0, none⟩ = some (.int .i64 p) ∧ w'.cell? ⟨sb, 1, none⟩ = some (.int .i64 q) := fun w' h => h.c2
  have hS : Blk w1.drew sb #[.int .i64 p, .int .i64 q] 22 := hblk
  refine Seq.wp_region_seq (fun w' => Blk w' sb #[.int .i64 p, .int .i64 q] 22) (by kernel_rfl) (by kernel_rfl) hS ?_
  repeat (first | (refine Seq.Seq.skip (by rfl) ?_; (try simp only [Act.put, List.setIfInBounds_toArray, List.set_cons_zero, List.set_cons_succ])) | (refine Seq.Seq.det ?_ (by rfl) (fun w hS => ?_) ?_; rotate_left; ((try dsimp only at hS); go_simp; (try rw [if_pos (by omega)]); with_reducible rfl); (try simp only [Act.put, List.setIfInBounds_toArray, List.set_cons_zero, List.set_cons_succ])))
  refine Seq.Seq.nil ?_
  clear ha hb hap hbp
  go_wp2_with fail
  refine (hr _).mono ?_
  rintro e w2 ⟨rfl, hb2⟩
  have hT2 := hcel.drew.below hb2
  obtain ⟨t0, t1, t2⟩ := hT2.c3
  obtain ⟨f0, f1, f2, _⟩ := hT2.f4
  go_wp2
  have hT3 : Blk (((w2.setCell ⟨tb', 0, none⟩ (.int .i64 tn')).setCell ⟨tb', 1, none⟩ (.int .i64 tm')).setCell ⟨tb', 2, none⟩ (.bool tb)) tb' #[.int .i64 tn', .int .i64 tm', .bool tb] _ := ((hT2.set 0 _).set 1 _).set 2 _
  obtain ⟨r0, r1, r2⟩ := hT3.c3
  refine bodyPost_ret (v := .tuple #[.complex .f64 (floatOfInt .f64 a) (floatOfInt .f64 b), .agg #[.int .i64 tn', .int .i64 tm', .bool tb]]) (by simp [results, Try.results10, go_sem, r0, r1, r2]) rfl ⟨rfl, ?_⟩
  exact set3_below ((HB.out.drew).trans (hb2.mono HB.out.drew.size)) HG.out _ _ _

theorem nzw {n m : Int} {x y : Nat} (h : rt n m = true) (hx : rung n.toNat = x) (hy : rung m.toNat = y) : nz n m = .complex .f64 x y ∧ Pt x n ∧ Pt y m := by
  obtain ⟨a, b, c, d, _⟩ := rt_bd h
  have p1 := pt_rung (n := n.toNat) (by omega)
  have p2 := pt_rung (n := m.toNat) (by omega)
  rw [show ((n.toNat : Nat) : Int) = n from by omega, hx] at p1
  rw [show ((m.toNat : Nat) : Int) = m from by omega, hy] at p2
  exact ⟨(rt_word p1 p2 h).symm, p1, p2⟩

theorem two_cr (w : World) (x y x' y' : Nat) (p q : Int × Int) (h1 : Pt x p.1) (h2 : Pt y p.2) (h3 : Pt x' q.1) (h4 : Pt y' q.2) (t : Nat) :
    CR (w.alloc (.cells #[.complex .f64 x y, .complex .f64 x' y'] t)) (some ⟨w.heap.size, 0, none⟩) 2 [p, q] := by
  have hb := Blk.new w #[.complex .f64 x y, .complex .f64 x' y'] t
  refine ⟨rfl, fun i hi => ?_⟩
  match i, hi with
  | 0, _ => exact ⟨_, _, x, y, rfl, hb.c2.1, h1, h2⟩
  | 1, _ => exact ⟨_, _, x', y', rfl, hb.c2.2, h3, h4⟩

theorem live9_any (w : World) : Calls Try.prog 15 #[] w (TPost (.bool true) w) := by
  obtain ⟨e1, a1, a2⟩ := nzw (n := 1) (m := 3) (x := 4607182418800017408) (y := 4613937818241073152) (by decide) (by decide) (by decide)
  obtain ⟨e2, b1, b2⟩ := nzw (n := 1) (m := 0) (x := 4607182418800017408) (y := 0) (by decide) (by decide) (by decide)
  obtain ⟨e3, c1, c2⟩ := nzw (n := 2) (m := 3) (x := 4611686018427387904) (y := 4613937818241073152) (by decide) (by decide) (by decide)
  have o1 := one_any 3
  have o2 := one_any 0
  rw [e1] at o1
  rw [e2] at o2
  have hc := two_cr w _ _ _ _ (1, 3) (1, 0) a1 a2 b1 b2 23
  have hs := tsum_any _ 2 2 _ _ hc (by omega)
  have e4 : sv [((1 : Int), (3 : Int)), (1, 0)] 2 = nz 2 3 := by
    unfold sv
    rw [if_pos (by decide)]
    congr 1
  rw [e4, e3] at hs
  have t1 := things_any c1 c2
  have t2 := bytesT_any c1 c2
  have t3 := swap_any c1 c2
  rw [if_pos (by decide)] at t1 t2
  have q1 := pt_same c1 (by decide) (by decide)
  have q2 := pt_same c2 (by decide) (by decide)
  clear e1 e2 e3 e4 a1 a2 b1 b2 c1 c2 hc
  go_enter Try.func15, Try.ntmps15
  go_wp2_with fail
  refine (o1 _).mono ?_
  rintro e w' ⟨rfl, rfl⟩
  go_wp2_with fail
  refine (o2 _).mono ?_
  rintro e w' ⟨rfl, rfl⟩
  go_wp2_with fail
  refine hs.mono ?_
  rintro e w' ⟨rfl, rfl⟩
  go_wp2_with fail
  refine (t1 _).mono ?_
  rintro e w' ⟨rfl, rfl⟩
  go_wp2_with fail
  refine (t2 _).mono ?_
  rintro e w' ⟨rfl, rfl⟩
  go_wp2_with fail
  refine (t3 _).mono ?_
  rintro e w' ⟨rfl, rfl⟩
  go_wp2
  go_ret
  exact ⟨rfl, below_one _ _⟩
end Go.Proofs.Ytepebneigehboaa.Cur
