/- The contracts of the document's package of tallies: Sum; rows of numbers and of tallies. -/
import Derived.Test.YtepebneigehboaaTalD
import Derived.Test.YtepebneigehboaaK1
import Derived.Deep.Slices
import Derived.BigRegion
namespace Go.Proofs.Ytepebneigehboaa.Cur
open Go.RowKit Mem Flt Go.ChangeShapes Go.WideShapes
set_option linter.unusedVariables false
set_option maxRecDepth 100000


theorem kindC : Kind 39 23 (.complex .f64 0 0) 1 16 := ⟨Try.underlying39, by kernel_rfl, rfl, by decide⟩
theorem kindT : Kind 40 28 (.agg #[.int .i64 0, .int .i64 0, .bool false]) 3 24 := ⟨Try.underlying40, by kernel_rfl, rfl, by decide⟩

section
variable {H : Type} {enc : TypeId × Value → H} {w : World} {base : Nat} {v : Value} {d : DataW H} {p : List MemPlace}
/-- At an address lie pairs of ints. -/
def PR (w : World) (A : Option Addr) (n : Nat) (f : Nat → Int × Int) : Prop :=
  ∀ i, i < n → ∃ b o, A = some ⟨b, o, none⟩ ∧ w.cell? ⟨b, o + i * 2, none⟩ = some (.int .i64 (f i).1) ∧ w.cell? ⟨b, o + i * 2 + 1, none⟩ = some (.int .i64 (f i).2)
theorem PR.below {w w' : World} {A : Option Addr} {n : Nat} {f : Nat → Int × Int} (h : PR w A n f) (hb : Below w.heap.size w w') : PR w' A n f := fun i hi => by
  obtain ⟨b, o, e, h0, h1⟩ := h i hi
  exact ⟨b, o, e, (hb.cell (lt_of_cell h0)).trans h0, (hb.cell (lt_of_cell h1)).trans h1⟩
theorem open_pairs (g : Value.okWide Try.prog w .any base 38 v) (h : DataW.Trod enc Try.prog w 0 (fun _ => true) true 38 v d p) :
    ∃ A n m f, v = .slice A n m ∧ n ≤ m ∧ PR w A n f := by
  obtain ⟨A, n, m, rfl⟩ := okWide_slice Try.underlying38 g
  obtain ⟨fuel, hf⟩ := h
  have c2 : Try.prog.cellsOf 22 = 2 := by kernel_rfl
  have c1 : Try.prog.cellsOf 3 = 1 := by kernel_rfl
  rcases Go.Deep.open_slice Try.underlying38 hf with ⟨hcs, _⟩ | ⟨a, l, c, k, nn, D, Pl, hcs, _, hl, _, hk, _, hi⟩
  · simp [Value.cells] at hcs
    obtain ⟨rfl, rfl, rfl⟩ := hcs
    exact ⟨none, 0, 0, fun _ => (0, 0), rfl, Nat.le_refl _, fun i hi => absurd hi (by omega)⟩
  · simp [Value.cells] at hcs
    obtain ⟨rfl, rfl, rfl⟩ := hcs
    have hkn : n ≤ k := by rw [hk]; split <;> omega
    have each : ∀ i, i < n → ∃ q : Int × Int, w.cell? (a.add (i * 2)) = some (.int .i64 q.1) ∧ w.cell? (a.add (i * 2 + 1)) = some (.int .i64 q.2) := fun i hin => by
      obtain ⟨cs', h1, h2⟩ := hi i (by omega)
      rw [c2] at h1
      obtain ⟨_, hlen, hcell⟩ := World.cells?_some h1
      obtain ⟨xs, mm, _, _, _, hxl, hf⟩ := DataW.trod_array Try.underlying22 h2
      match xs, hxl, cs', hlen with
      | [y0, y1], _, [v0, v1], _ =>
        have i0 := hf 0 (by decide)
        have i1 := hf 1 (by decide)
        rw [c1] at i0 i1
        simp only [Nat.zero_mul, Nat.one_mul, List.drop_zero, List.take_succ_cons, List.take_zero, List.drop_succ_cons, List.getElem?_cons_zero, List.getElem?_cons_succ] at i0 i1
        obtain ⟨u, e1, _, r1⟩ := DataW.trod_int Try.underlying3 i0
        obtain ⟨t, e2, _, r2⟩ := DataW.trod_int Try.underlying3 i1
        simp only [List.cons.injEq, and_true] at e1 e2
        subst e1 e2
        have g0 := hcell 0 (by omega)
        have g1 := hcell 1 (by omega)
        rw [Go.Deep.add_add] at g0 g1
        exact ⟨(u, t), by simpa using g0, by simpa using g1⟩
    obtain ⟨f, hf'⟩ := Go.Deep.choose_lt each
    refine ⟨some a, n, m, f, rfl, hl, fun i hin => ?_⟩
    obtain ⟨b, off, spot⟩ := a
    obtain ⟨h0, h1⟩ := hf' i hin
    have hspot : spot = none := by
      have := (hf' 0 (by omega)).1
      simpa [Addr.add] using World.cell?_spot this
    subst hspot
    refine ⟨b, off, rfl, ?_, ?_⟩
    · rw [show (⟨b, off, none⟩ : Addr).add (i * 2) = ⟨b, off + i * 2, none⟩ by unfold Addr.add; split <;> simp_all] at h0; exact h0
    · rw [show (⟨b, off, none⟩ : Addr).add (i * 2 + 1) = ⟨b, off + i * 2 + 1, none⟩ by unfold Addr.add; split <;> simp_all; omega] at h1; exact h1
end

/-- What the document's tally of a pair holds. -/
def ta (p : Int × Int) : Int := if rt p.1 p.2 then p.1 else 0
def tb (p : Int × Int) : Int := if rt p.1 p.2 then p.2 else 0
def tfl (p : Int × Int) : List Value := [.int .i64 (ta p), .int .i64 (tb p), .bool (!rt p.1 p.2)]
theorem tof_eq (p : Int × Int) : tof p.1 p.2 = .agg #[.int .i64 (ta p), .int .i64 (tb p), .bool (!rt p.1 p.2)] := by
  unfold tof ta tb tq
  cases rt p.1 p.2 <;> rfl
def cv9 (p : Int × Int) : Value := .complex .f64 (floatOfInt .f64 p.1) (floatOfInt .f64 p.2)
def cvs9 (N : List (Int × Int)) : Nat → List Value
  | 0 => []
  | k + 1 => cvs9 N k ++ [cv9 (N.getD k (0, 0))]
def tvs9 (N : List (Int × Int)) : Nat → List Value
  | 0 => []
  | k + 1 => tvs9 N k ++ tfl (N.getD k (0, 0))
theorem cvs9_len (N : List (Int × Int)) (k : Nat) : (cvs9 N k).length = k := by
  induction k with
  | zero => rfl
  | succ k ih => unfold cvs9; rw [List.length_append, ih]; rfl
theorem tvs9_len (N : List (Int × Int)) (k : Nat) : (tvs9 N k).length = k * 3 := by
  induction k with
  | zero => rfl
  | succ k ih => unfold tvs9; rw [List.length_append, ih, Nat.succ_mul]; rfl
theorem cvs9_get {N : List (Int × Int)} {k j : Nat} (h : j < k) : (cvs9 N k)[j]? = some (cv9 (N.getD j (0, 0))) := by
  induction k with
  | zero => omega
  | succ k ih =>
    unfold cvs9
    rcases Nat.lt_or_ge j k with h1 | h1
    · rw [List.getElem?_append_left (by rw [cvs9_len]; exact h1)]; exact ih h1
    · obtain rfl : j = k := by omega
      rw [List.getElem?_append_right (by rw [cvs9_len]; exact Nat.le_refl _), cvs9_len, Nat.sub_self]; rfl
theorem tvs9_get {N : List (Int × Int)} {k j c : Nat} (h : j < k) (hc : c < 3) : (tvs9 N k)[j * 3 + c]? = (tfl (N.getD j (0, 0)))[c]? := by
  induction k with
  | zero => omega
  | succ k ih =>
    unfold tvs9
    rcases Nat.lt_or_ge j k with h1 | h1
    · rw [List.getElem?_append_left (by rw [tvs9_len]; omega)]; exact ih h1
    · obtain rfl : j = k := by omega
      rw [List.getElem?_append_right (by rw [tvs9_len]; omega), tvs9_len, Nat.add_sub_cancel_left]
/-- At an address lie the tallies of these pairs. -/
def TR (w : World) (A : Option Addr) (n : Nat) (N : List (Int × Int)) : Prop :=
  N.length = n ∧ ∀ i, i < n → ∃ b o, A = some ⟨b, o, none⟩ ∧ w.cell? ⟨b, o + i * 3, none⟩ = some (.int .i64 (ta (N.getD i (0, 0)))) ∧ w.cell? ⟨b, o + i * 3 + 1, none⟩ = some (.int .i64 (tb (N.getD i (0, 0)))) ∧ w.cell? ⟨b, o + i * 3 + 2, none⟩ = some (.bool (!rt (N.getD i (0, 0)).1 (N.getD i (0, 0)).2))
theorem TR.below {w w' : World} {A : Option Addr} {n : Nat} {N : List (Int × Int)} (h : TR w A n N) (hb : Below w.heap.size w w') : TR w' A n N :=
  ⟨h.1, fun i hi => by
    obtain ⟨b, o, e, h0, h1, h2⟩ := h.2 i hi
    exact ⟨b, o, e, (hb.cell (lt_of_cell h0)).trans h0, (hb.cell (lt_of_cell h1)).trans h1, (hb.cell (lt_of_cell h2)).trans h2⟩⟩
theorem TR.of_rw {w : World} {A : Option Addr} {n : Nat} {N : List (Int × Int)} (h : Rw w A (tvs9 N n)) (hN : N.length = n) : TR w A n N :=
  ⟨hN, fun i hi => by
    obtain ⟨b, o, e, hc⟩ := h (by rw [tvs9_len]; omega)
    exact ⟨b, o, e, hc (i * 3) _ (tvs9_get (c := 0) hi (by omega)), by
      have := hc (i * 3 + 1) _ (tvs9_get (c := 1) hi (by omega))
      rwa [← Nat.add_assoc] at this, by
      have := hc (i * 3 + 2) _ (tvs9_get (c := 2) hi (by omega))
      rwa [← Nat.add_assoc] at this⟩⟩
theorem CR.of_rw {w : World} {A : Option Addr} {n : Nat} {N : List (Int × Int)} (h : Rw w A (cvs9 N n)) (hN : N.length = n) : CR w A n N :=
  ⟨hN, fun i hi => by
    obtain ⟨b, o, e, hc⟩ := h (by rw [cvs9_len]; omega)
    exact ⟨b, o, _, _, e, hc i _ (cvs9_get hi), pt_int _, pt_int _⟩⟩

/-- Are all of the first k, and each of the sums so far, tallies? -/
def pok (N : List (Int × Int)) : Nat → Bool
  | 0 => true
  | k + 1 => pok N k && (rt (N.getD k (0, 0)).1 (N.getD k (0, 0)).2 && rt (tn N (k + 1)) (tm N (k + 1)))
theorem pok_rt {N : List (Int × Int)} {k : Nat} (h : pok N k = true) : rt (tn N k) (tm N k) = true := by
  cases k with
  | zero => exact decide_eq_true ⟨Int.le_refl _, by show (0 : Int) ≤ _; omega, Int.le_refl _, by show (0 : Int) ≤ _; omega, Or.inr rfl⟩
  | succ k => unfold pok at h; simp only [Bool.and_eq_true] at h; exact h.2.2
theorem pok_allr {N : List (Int × Int)} {k : Nat} (h : pok N k = true) : allr N k = true := by
  induction k with
  | zero => rfl
  | succ k ih =>
    unfold pok at h
    simp only [Bool.and_eq_true] at h
    unfold allr
    rw [ih h.1, h.2.1]; rfl
theorem pok_of {N : List (Int × Int)} {k : Nat} (h : allr N k = true) (hr : rt (tn N k) (tm N k) = true) : pok N k = true := by
  induction k with
  | zero => rfl
  | succ k ih =>
    have h2 : allr N k = true ∧ rt (N.getD k (0, 0)).1 (N.getD k (0, 0)).2 = true := by
      have := h
      unfold allr at this
      rwa [Bool.and_eq_true] at this
    have g := tn_ge h2.1
    have b := rt_bd h2.2
    have c := rt_bd hr
    have d : rt (tn N k) (tm N k) = true := decide_eq_true (by
      unfold tn tm at c
      omega)
    unfold pok
    rw [ih h2.1 d, h2.2, hr]; rfl
theorem pok_not {N : List (Int × Int)} {k j : Nat} (h : pok N (j + 1) = false) (hj : j < k) : pok N k = false := by
  induction k with
  | zero => omega
  | succ k ih =>
    rcases Nat.lt_or_ge j k with h1 | h1
    · unfold pok; rw [ih h1]; rfl
    · obtain rfl : j = k := by omega
      exact h
/-- What the document's Sum gives. -/
def rsv (N : List (Int × Int)) (n : Nat) : Value := if pok N n then tq (tn N n) (tm N n) false else tq 0 0 false
/-- Both sums. -/
theorem both_sum (N : List (Int × Int)) (n : Nat) : ∃ (x y : Nat) (a b : Int), sv N n = .complex .f64 x y ∧ rsv N n = tq a b false ∧ Pt x a ∧ Pt y b ∧ rt a b = true := by
  unfold sv rsv
  cases hp : pok N n
  · refine ⟨0, 0, 0, 0, ?_, rfl, pt_zero, pt_zero, by decide⟩
    cases ha : allr N n
    · rfl
    · rw [if_pos rfl]
      refine nz_not ?_
      cases hr : rt (tn N n) (tm N n)
      · rfl
      · rw [pok_of ha hr] at hp; cases hp
  · have hr := pok_rt hp
    rw [if_pos (pok_allr hp), if_pos rfl]
    obtain ⟨e, p1, p2⟩ := nzw hr rfl rfl
    exact ⟨_, _, _, _, e, rfl, p1, p2, hr⟩

set_option maxHeartbeats 4000000 in
theorem rsum_any (A : Option Addr) (n m : Nat) (N : List (Int × Int)) (w : World) (h : TR w A n N) (hn : n ≤ 1000000) :
    Calls Try.prog 17 #[.slice A n m] w (TPost (rsv N n) w) := by
  have HR := Lib.hid h
  clear h
  have hX := (Blk.new w #[.int .i64 0, .int .i64 0, .bool false] 28).alloc (.cells #[.int .i64 0, .int .i64 0, .bool false] 28)
  have hb0 := below_two w (.cells #[.int .i64 0, .int .i64 0, .bool false] 28) (.cells #[.int .i64 0, .int .i64 0, .bool false] 28)
  have hY := Blk.new (w.alloc (.cells #[.int .i64 0, .int .i64 0, .bool false] 28)) #[.int .i64 0, .int .i64 0, .bool false] 28
  have hsz : (w.alloc (.cells #[.int .i64 0, .int .i64 0, .bool false] 28)).heap.size = w.heap.size + 1 := by simp
  rw [hsz] at hY
  clear hsz
  go_enter Try.func17, Try.ntmps17
  go_wp2
  generalize (w.alloc (.cells #[.int .i64 0, .int .i64 0, .bool false] 28)).alloc (.cells #[.int .i64 0, .int .i64 0, .bool false] 28) = w1 at *
  have hne : w.heap.size ≠ w.heap.size + 1 := by omega
  have hge : w.heap.size ≤ w.heap.size + 1 := by omega
  obtain ⟨sb, hsb⟩ : ∃ sb, w.heap.size + 1 = sb := ⟨_, rfl⟩
  obtain ⟨rb, hrb⟩ : ∃ rb, w.heap.size = rb := ⟨_, rfl⟩
  rw [hsb] at hY hne hge
  have HRB := Lib.hid hrb
  rw [hrb] at hX hne hge
  simp only [hsb]
  simp only [hrb]
  clear hsb hrb
  have HX := Lib.hid hX
  have HY := Lib.hid hY
  have HB := Lib.hid hb0
  have HGE := Lib.hid hge
  clear hX hY hb0 hge
  go_loopw [4] (fun v wr => ∃ k : Nat, k ≤ n ∧ v = .int .i64 k ∧ Blk wr sb #[.int .i64 (tn N k), .int .i64 (tm N k), .bool false] 28 ∧ Blk wr rb #[.int .i64 0, .int .i64 0, .bool false] 28 ∧ Below w.heap.size w wr ∧ Hid (pok N k = true)) (fun v _ => n - (intOf v).toNat)
  case atStart => exact ⟨0, Nat.zero_le _, rfl, HY.out, HX.out, HB.out, Lib.hid rfl⟩
  case round =>
    obtain ⟨k, hk, rfl, hS0, hR0, hbw, HP⟩ := hrel
    by_cases hlt : k < n
    · have hki : (k : Int) < n := by omega
      obtain ⟨b, o, rfl, h0, h1, h2⟩ := HR.out.2 k hlt
      have C : ∀ w', (Below w.heap.size w w' ∧ Blk w' sb #[.int .i64 (tn N k), .int .i64 (tm N k), .bool false] 28) → w'.cell? ⟨b, o + k * 3, none⟩ = some (.int .i64 (ta (N.getD k (0, 0)))) ∧ w'.cell? ⟨b, o + k * 3 + 1, none⟩ = some (.int .i64 (tb (N.getD k (0, 0)))) ∧ w'.cell? ⟨b, o + k * 3 + 2, none⟩ = some (.bool (!rt (N.getD k (0, 0)).1 (N.getD k (0, 0)).2)) ∧ w'.cell? ⟨sb, 0, none⟩ = some (.int .i64 (tn N k)) ∧ w'.cell? ⟨sb, 1, none⟩ = some (.int .i64 (tm N k)) := fun w' h => ⟨(h.1.cell (lt_of_cell h0)).trans h0, (h.1.cell (lt_of_cell h1)).trans h1, (h.1.cell (lt_of_cell h2)).trans h2, h.2.c3.1, h.2.c3.2.1⟩
      clear h0 h1 h2
      have hS : Below w.heap.size w wr.drew ∧ Blk wr.drew sb #[.int .i64 (tn N k), .int .i64 (tm N k), .bool false] 28 := ⟨hbw.drew, hS0.drew⟩
      cases hb : rt (N.getD k (0, 0)).1 (N.getD k (0, 0)).2
      · have HE : Hid (rsv N n = tq 0 0 false) := Lib.hid (by unfold rsv; rw [pok_not (j := k) (by unfold pok; rw [hb]; simp) hlt]; rfl)
        rw [hb] at C
        have hRd := hR0.drew
        clear hS0 hR0 hb
        go_wp2
        refine Seq.wp_region_seq (fun w' => Below w.heap.size w w' ∧ Blk w' sb #[.int .i64 (tn N k), .int .i64 (tm N k), .bool false] 28) (by kernel_rfl) (by kernel_rfl) hS ?_
        generalize wr.drew = wd at *
        repeat (first | (refine Seq.Seq.skip (by rfl) ?_; (try simp only [Act.put, List.setIfInBounds_toArray, List.set_cons_zero, List.set_cons_succ])) | (refine Seq.Seq.det ?_ (by rfl) (fun w hS => ?_) ?_; rotate_left; ((try dsimp only at hS); go_simp; (try rw [if_pos (by omega)]); with_reducible rfl); (try simp only [Act.put, List.setIfInBounds_toArray, List.set_cons_zero, List.set_cons_succ])))
        refine Seq.Seq.nil ?_
        have hbd := hS.1
        clear hS C
        have q0 := hRd.free 0
        have q1 := hRd.free 1
        have q2 := hRd.free 2
        obtain ⟨x0, x1, x2⟩ := hRd.c3
        obtain ⟨hR3, _⟩ := And.intro (((hRd.set 0 (.int .i64 0)).set 1 (.int .i64 0)).set 2 (.bool false)) trivial
        obtain ⟨r0, r1, r2⟩ := Blk.c3 (v0 := .int .i64 0) (v1 := .int .i64 0) (v2 := .bool false) hR3
        clear hR3
        have hge : w.heap.size ≤ rb := by rw [HRB.out]; exact Nat.le_refl _
        go_wp2
        refine bodyPost_ret (v := tq 0 0 false) (by simp [results, Try.results17, go_sem, tq, r0, r1, r2]) rfl ⟨by rw [HE.out], ?_⟩
        exact set3_below hbd hge _ _ _
      · have hp1 : pok N (k + 1) = rt (tn N (k + 1)) (tm N (k + 1)) := by unfold pok; rw [HP.out, hb]; rfl
        have hg := tn_ge (pok_allr HP.out)
        have hq := rt_bd (pok_rt HP.out)
        have hn := rt_bd hb
        have ea : ta (N.getD k (0, 0)) = (N.getD k (0, 0)).1 := by unfold ta; rw [hb]; rfl
        have eb : tb (N.getD k (0, 0)) = (N.getD k (0, 0)).2 := by unfold tb; rw [hb]; rfl
        have e1 : IntKind.i64.wrap (tn N k + (N.getD k (0, 0)).1) = tn N (k + 1) := IntWalk.i64_in _ (by omega)
        have e2 : IntKind.i64.wrap (tm N k + (N.getD k (0, 0)).2) = tm N (k + 1) := IntWalk.i64_in _ (by omega)
        rw [hb, ea, eb] at C
        have hrr := rright_any (tn N (k + 1)) (tm N (k + 1))
        have HPN := Lib.hid hp1
        clear hp1 hg hq hn ea eb hb
        obtain ⟨tn1, ht1⟩ : ∃ x, tn N (k + 1) = x := ⟨_, rfl⟩
        obtain ⟨tm1, ht2⟩ : ∃ x, tm N (k + 1) = x := ⟨_, rfl⟩
        rw [ht1] at e1 HPN hrr
        rw [ht2] at e2 HPN hrr
        have ht1 := Lib.hid ht1
        have ht2 := Lib.hid ht2
        generalize (N.getD k (0, 0)).1 = na at *
        generalize (N.getD k (0, 0)).2 = nb at *
        have hRd := hR0.drew
        go_wp2
        refine Seq.wp_region_seq (fun w' => Below w.heap.size w w' ∧ Blk w' sb #[.int .i64 (tn N k), .int .i64 (tm N k), .bool false] 28) (by kernel_rfl) (by kernel_rfl) hS ?_
        clear hS0 hR0 hbw
        generalize wr.drew = wd at *
        repeat (first | (refine Seq.Seq.skip (by rfl) ?_; (try simp only [Act.put, List.setIfInBounds_toArray, List.set_cons_zero, List.set_cons_succ])) | (refine Seq.Seq.det ?_ (by rfl) (fun w hS => ?_) ?_; rotate_left; ((try dsimp only at hS); go_simp; (try rw [if_pos (by omega)]); with_reducible rfl); (try simp only [Act.put, List.setIfInBounds_toArray, List.set_cons_zero, List.set_cons_succ])))
        refine Seq.Seq.make (by rfl) (by rfl) (fun K Q' hK => ?_)
        go_simp
        go_at_call 19
        refine (hrr _).mono ?_
        rintro e w' ⟨rfl, rfl⟩
        refine hK.out _ _ (hS) ?_
        clear hK K
        try simp only [Act.put, List.setIfInBounds_toArray, List.set_cons_zero, List.set_cons_succ]
        cases hb : rt tn1 tm1
        · repeat (first | (refine Seq.Seq.skip (by rfl) ?_; (try simp only [Act.put, List.setIfInBounds_toArray, List.set_cons_zero, List.set_cons_succ])) | (refine Seq.Seq.det ?_ (by rfl) (fun w hS => ?_) ?_; rotate_left; ((try dsimp only at hS); go_simp; (try rw [if_pos (by omega)]); with_reducible rfl); (try simp only [Act.put, List.setIfInBounds_toArray, List.set_cons_zero, List.set_cons_succ])))
          refine Seq.Seq.nil ?_
          have HE : Hid (rsv N n = tq 0 0 false) := Lib.hid (by unfold rsv; rw [pok_not (j := k) (by rw [HPN.out, hb]) hlt]; rfl)
          clear hrr hb e1 e2
          have hbd := hS.1
          clear hS C
          have q0 := hRd.free 0
          have q1 := hRd.free 1
          have q2 := hRd.free 2
          obtain ⟨x0, x1, x2⟩ := hRd.c3
          obtain ⟨hR3, _⟩ := And.intro (((hRd.set 0 (.int .i64 0)).set 1 (.int .i64 0)).set 2 (.bool false)) trivial
          obtain ⟨r0, r1, r2⟩ := Blk.c3 (v0 := .int .i64 0) (v1 := .int .i64 0) (v2 := .bool false) hR3
          clear hR3
          have hge : w.heap.size ≤ rb := by rw [HRB.out]; exact Nat.le_refl _
          go_wp2
          refine bodyPost_ret (v := tq 0 0 false) (by simp [results, Try.results17, go_sem, tq, r0, r1, r2]) rfl ⟨by rw [HE.out], ?_⟩
          exact set3_below hbd hge _ _ _
        · repeat (first | (refine Seq.Seq.skip (by rfl) ?_; (try simp only [Act.put, List.setIfInBounds_toArray, List.set_cons_zero, List.set_cons_succ])) | (refine Seq.Seq.det ?_ (by rfl) (fun w hS => ?_) ?_; rotate_left; ((try dsimp only at hS); go_simp; (try rw [if_pos (by omega)]); with_reducible rfl); (try simp only [Act.put, List.setIfInBounds_toArray, List.set_cons_zero, List.set_cons_succ])))
          refine Seq.Seq.nil ?_
          obtain ⟨k0, k1, k2, k3, k4⟩ := C _ hS
          have s0 := hS.2.free 0
          have s1 := hS.2.free 1
          go_wp2
          go_region
          have hB1 := ((hS.2.set 0 (.int .i64 tn1)).set 1 (.int .i64 tm1))
          have hR1 := (hRd.far (g := sb) 0 (.int .i64 tn1) hne).far (g := sb) 1 (.int .i64 tm1) hne
          have hW1 := (hS.1.setCell (p := ⟨sb, 0, none⟩) (Nat.le_trans (by rw [HRB.out]; exact Nat.le_refl _) HGE.out) (.int .i64 tn1)).setCell (p := ⟨sb, 1, none⟩) (Nat.le_trans (by rw [HRB.out]; exact Nat.le_refl _) HGE.out) (.int .i64 tm1)
          have HPK : Hid (pok N (k + 1) = true) := Lib.hid (by rw [HPN.out, hb])
          have H1 := Lib.hid hB1
          have H2 := Lib.hid hR1
          have H3 := Lib.hid hW1
          clear hB1 hR1 hW1 hS C k0 k1 k2 k3 k4 s0 s1 hRd hb hrr
          go_wp2
          go_roundw
          case rel => exact ⟨k + 1, hlt, by go_num, by rw [ht1.out, ht2.out]; exact H1.out, H2.out, H3.out.drew, HPK⟩
          case measure => simp [intOf]; omega
    · obtain rfl : k = n := by omega
      have HE : Hid (rsv N k = tq (tn N k) (tm N k) false) := Lib.hid (by unfold rsv; rw [HP.out]; rfl)
      generalize tn N k = a at *
      generalize tm N k = b at *
      obtain ⟨k0, k1, k2⟩ := hS0.c3
      have q0 := hR0.free 0
      have q1 := hR0.free 1
      have q2 := hR0.free 2
      obtain ⟨hR3, _⟩ := And.intro (((hR0.set 0 (.int .i64 a)).set 1 (.int .i64 b)).set 2 (.bool false)) trivial
      obtain ⟨r0, r1, r2⟩ := Blk.c3 (v0 := .int .i64 a) (v1 := .int .i64 b) (v2 := .bool false) hR3
      obtain ⟨x0, x1, x2⟩ := hR0.c3
      have HW := Lib.hid hbw
      have hge : w.heap.size ≤ rb := by rw [HRB.out]; exact Nat.le_refl _
      clear hR3 hS0 hR0 hbw
      go_wp2
      refine bodyPost_ret (v := tq a b false) (by simp [results, Try.results17, go_sem, tq, r0, r1, r2]) rfl ⟨by rw [HE.out], ?_⟩
      exact set3_below HW.out hge _ _ _
end Go.Proofs.Ytepebneigehboaa.Cur
