/- The document's own reader, as a value (package tholepinref02): Fail, Take, End, Part; and the reader's Part. -/
import Derived.Test.YtmbojcdliomifaaCurG
import Derived.Test.YtmbojcdliomifaaMem
import Derived.Deep.RegionHeld3
import Derived.Outline
namespace Go.Proofs.Ytmbojcdliomifaa.Cur
open Go.RowKit Mem
set_option linter.unusedVariables false

/-- The document's reader as a value. -/
abbrev cv (s : Value) (p c q : Int) : Value := .agg #[s, .int .i64 p, .int .i64 c, .int .i64 q]

set_option maxHeartbeats 400000 in
theorem rat_any (c q : Int) (w : World) :
    Calls Try.prog 29 #[.int .i64 c, .int .i64 q] w fun e w' => e = .returned (.agg #[.int .i64 c, .int .i64 (fq c q)]) ∧ Below w.heap.size w w' := by
  by_cases hc : c = 0
  · obtain rfl := hc
    go_enter Try.func29, Try.ntmps29
    go_wp2
    refine bodyPost_ret (v := .agg #[.int .i64 0, .int .i64 0]) (by simp [results, Try.results29, go_sem]) rfl ⟨rfl, ?_⟩
    exact (((Below.refl _ _).alloc (Nat.le_refl _) _).alloc (by simp) _)
  · have hb : (c != 0) = true := by simp [hc]
    have e : fq c q = q := by simp [fq, hc]
    rw [e]
    clear e
    go_enter Try.func29, Try.ntmps29
    go_wp2
    refine bodyPost_ret (v := .agg #[.int .i64 c, .int .i64 q]) (by simp [results, Try.results29, go_sem]) rfl ⟨rfl, ?_⟩
    exact (((Below.refl _ _).alloc (Nat.le_refl _) _).alloc (by simp) _)

set_option maxHeartbeats 400000 in
theorem rfail_yes (s : Value) (p q c' q' : Int) (w : World) (hs : ∃ A n m, s = .slice A n m) :
    Calls Try.prog 23 #[cv s p 0 q, .int .i64 c', .int .i64 q'] w fun e w' => e = .returned (cv s p c' (fq c' q')) ∧ Below w.heap.size w w' := by
  obtain ⟨A, n, m, rfl⟩ := hs
  go_enter Try.func23, Try.ntmps23
  go_wp2_with fail
  refine (rat_any _ _ _).mono ?_
  rintro e w1 ⟨rfl, hb⟩
  obtain ⟨h0, h1, hb⟩ := two_new hb
  obtain ⟨c0, c1, c2, c3⟩ := h0.c4
  obtain ⟨f0, f1, f2, f3⟩ := h0.f4
  obtain ⟨d0, d1, d2, d3⟩ := h1.c4
  obtain ⟨g0, g1, g2, g3⟩ := h1.f4
  clear f0 f1
  go_wp2
  refine bodyPost_ret (v := cv (.slice A n m) p c' (fq c' q')) (by simp [results, Try.results23, go_sem, d0, d1, d2, d3]) rfl ⟨rfl, ?_⟩
  iterate 6 (refine Below.setCell ?_ (by simp) _)
  exact hb

set_option maxHeartbeats 400000 in
theorem rfail_no (s : Value) (p c q c' q' : Int) (w : World) (hs : ∃ A n m, s = .slice A n m) (hc : (c == 0) = false) :
    Calls Try.prog 23 #[cv s p c q, .int .i64 c', .int .i64 q'] w fun e w' => e = .returned (cv s p c q) ∧ Below w.heap.size w w' := by
  obtain ⟨A, n, m, rfl⟩ := hs
  go_enter Try.func23, Try.ntmps23
  go_wp2
  refine bodyPost_ret (v := cv (.slice A n m) p c q) (by simp [results, Try.results23, go_sem]) rfl ⟨rfl, ?_⟩
  exact below_two _ _ _

/-- What the document's End does. -/
def REndPost (s : Value) (n : Nat) (p c q : Int) (w : World) (e : Ending) (w' : World) : Prop :=
  ∃ c' q', e = .returned (cv s p c' q') ∧ Below w.heap.size w w' ∧ (if c = 0 ∧ p < n then c' = 9 ∧ q' = p else c' = c ∧ q' = q)

set_option maxHeartbeats 400000 in
theorem rend_any (A : Option Addr) (n m : Nat) (p c q : Int) (w : World) :
    Calls Try.prog 24 #[cv (.slice A n m) p c q] w (REndPost (.slice A n m) n p c q w) := by
  by_cases hp : p < n
  · by_cases hc : c = 0
    · subst hc
      go_enter Try.func24, Try.ntmps24
      go_wp2_with fail
      refine (rfail_yes _ _ _ _ _ _ ⟨_, _, _, rfl⟩).mono ?_
      rintro e w1 ⟨rfl, hb⟩
      obtain ⟨h0, h1, hb⟩ := two_new hb
      obtain ⟨d0, d1, d2, d3⟩ := h1.c4
      obtain ⟨g0, g1, g2, g3⟩ := h1.f4
      go_wp2
      refine bodyPost_ret (v := cv (.slice A n m) p 9 (fq 9 p)) (by simp [results, Try.results24, go_sem, d0, d1, d2, d3]) rfl ⟨_, _, rfl, ?_, by rw [if_pos ⟨rfl, hp⟩]; simp [fq]⟩
      iterate 4 (refine Below.setCell ?_ (by simp) _)
      exact hb
    · have hcb : (c == 0) = false := by simpa using hc
      have H := Lib.hid hc
      clear hc
      go_enter Try.func24, Try.ntmps24
      go_wp2_with fail
      refine (rfail_no _ _ _ _ _ _ _ ⟨_, _, _, rfl⟩ hcb).mono ?_
      rintro e w1 ⟨rfl, hb⟩
      obtain ⟨h0, h1, hb⟩ := two_new hb
      obtain ⟨d0, d1, d2, d3⟩ := h1.c4
      obtain ⟨g0, g1, g2, g3⟩ := h1.f4
      go_wp2
      refine bodyPost_ret (v := cv (.slice A n m) p c q) (by simp [results, Try.results24, go_sem, d0, d1, d2, d3]) rfl ⟨_, _, rfl, ?_, by rw [if_neg (fun h => H.out h.1)]; exact ⟨rfl, rfl⟩⟩
      iterate 4 (refine Below.setCell ?_ (by simp) _)
      exact hb
  · go_enter Try.func24, Try.ntmps24
    go_wp2
    refine bodyPost_ret (v := cv (.slice A n m) p c q) (by simp [results, Try.results24, go_sem]) rfl ⟨_, _, rfl, below_two _ _ _, by rw [if_neg (by omega)]; exact ⟨rfl, rfl⟩⟩

/-- The place up to which a part goes, from p on. -/
def partEnd (n : Nat) (p x : Int) : Nat := (p + (if (n : Int) - p < (if x < 0 then 0 else x) then (n : Int) - p else (if x < 0 then 0 else x))).toNat

theorem partEnd_le (n : Nat) (p x : Int) (h0 : 0 ≤ p) (h1 : p ≤ n) : p.toNat ≤ partEnd n p x ∧ partEnd n p x ≤ n := by
  unfold partEnd
  constructor <;> (repeat' split) <;> omega

def RPartPost (A : Option Addr) (n m : Nat) (p x : Int) (w : World) (e : Ending) (w' : World) : Prop :=
  e = .returned (cv (.slice A (partEnd n p x) m) p 0 0) ∧ Below w.heap.size w w'

set_option maxHeartbeats 400000 in
theorem rpart_k (A : Option Addr) (n m : Nat) (p c q x : Int) (k : Nat) (w : World) (h0 : 0 ≤ p) (h1 : p ≤ n) (hm : n ≤ m) (hn : n ≤ 300) (hp : p ≤ k) (hk : k ≤ n) (hx : (x < 0 ∧ (k : Int) = p) ∨ (0 ≤ x ∧ n - p < x ∧ k = n) ∨ (0 ≤ x ∧ x ≤ n - p ∧ (k : Int) = p + x)) :
    Calls Try.prog 25 #[cv (.slice A n m) p c q, .int .i64 x] w fun e w' => e = .returned (cv (.slice A k m) p 0 0) ∧ Below w.heap.size w w' := by
  have hkm : (k : Int) ≤ m := by omega
  rcases hx with ⟨hx, e⟩ | ⟨hx, hy, rfl⟩ | ⟨hx, hy, e⟩
  · have hy : (0 : Int) ≤ n - p := by omega
    subst e
    go_enter Try.func25, Try.ntmps25
    go_wp2
    go_region
    all_goals
      go_wp2
      refine bodyPost_ret (v := cv (.slice A k m) (k : Int) 0 0) (by simp [results, Try.results25, go_sem]) rfl ⟨rfl, ?_⟩
      exact (below_two _ _ _).drew
  · have e : p + ((k : Int) - p) = k := by omega
    go_enter Try.func25, Try.ntmps25
    go_wp2
    go_region
    all_goals
      go_wp2
      refine bodyPost_ret (v := cv (.slice A k m) p 0 0) (by simp [results, Try.results25, go_sem]) rfl ⟨rfl, ?_⟩
      exact (below_two _ _ _).drew
  · have e' : (p + x) = k := by omega
    clear e
    have hx0 : ¬ x < 0 := by omega
    go_enter Try.func25, Try.ntmps25
    go_wp2
    go_region
    all_goals
      go_wp2
      refine bodyPost_ret (v := cv (.slice A k m) p 0 0) (by simp [results, Try.results25, go_sem]) rfl ⟨rfl, ?_⟩
      exact (below_two _ _ _).drew

theorem rpart_any (A : Option Addr) (n m : Nat) (p c q x : Int) (w : World) (h0 : 0 ≤ p) (h1 : p ≤ n) (hm : n ≤ m) (hn : n ≤ 300) :
    Calls Try.prog 25 #[cv (.slice A n m) p c q, .int .i64 x] w (RPartPost A n m p x w) := by
  obtain ⟨e0, e1⟩ := partEnd_le n p x h0 h1
  refine rpart_k A n m p c q x (partEnd n p x) w h0 h1 hm hn (by omega) e1 ?_
  unfold partEnd
  by_cases hx : x < 0
  · left
    rw [if_pos hx]
    split <;> omega
  · rw [if_neg hx]
    by_cases hy : (n : Int) - p < x
    · rw [if_pos hy]; omega
    · rw [if_neg hy]; omega

/-- What the document's Take hands back. -/
def RTakePost (s : Value) (n : Nat) (z : List Int) (p c q x : Int) (w : World) (e : Ending) (w' : World) : Prop :=
  ∃ ok p' c' q' A k m, e = .returned (.tuple #[cv s p' c' q', .slice A k m]) ∧ Below w.heap.size w w' ∧ SkipSt n p c q x ok p' c' q' ∧ Bs w' A k (if ok = true then piece z p.toNat (p + x).toNat else []) ∧ k ≤ m

theorem Bs.sub {w : World} {A : Option Addr} {n : Nat} {z : List Int} (h : Bs w A n z) (m l k : Nat) (hl : l ≤ k) (hk : k ≤ n) (hm : n ≤ m) : Bs w (if m = l then A else A.map (·.add (l * 1))) (k - l) (piece z l k) := by
  refine ⟨length_piece h.1 hk, fun hlt => ?_⟩
  rw [if_neg (by omega)]
  obtain ⟨g, o, rfl, hc⟩ := h.2 (by omega)
  have e : (⟨g, o, none⟩ : Addr).add (l * 1) = ⟨g, o + l, none⟩ := by
    unfold Addr.add
    by_cases h0 : l = 0 <;> simp [h0]
  refine ⟨g, o + l, by rw [Option.map_some, e], fun i x hx => ?_⟩
  have hi : i < k - l := by
    have := (List.getElem?_eq_some_iff.1 hx).1
    have h1 := List.length_take_le (k - l) (z.drop l)
    unfold piece at this
    omega
  unfold piece at hx
  rw [List.getElem?_take_of_lt hi, List.getElem?_drop] at hx
  have := hc (l + i) x hx
  rw [show o + l + i = o + (l + i) by omega]
  exact this

theorem slice_lh {w : World} {A : Option Addr} {n : Nat} {z : List Int} (hz : Bs w A n z) (m : Nat) (l k : Int) (h0 : 0 ≤ l) (h1 : l ≤ k) (h2 : k ≤ n) (hm : n ≤ m) :
    ∃ A' M, (∀ w', (Instr.slice 22 (.slice A n m) (some (.int .i64 l)) (some (.int .i64 k)) none).run Try.prog w' = .ok (.slice A' (k - l).toNat M) w') ∧ Bs w A' (k - l).toNat (piece z l.toNat k.toNat) ∧ (k - l).toNat ≤ M ∧ (A' = none → A = none ∧ M = m - l.toNat) := by
  have hs : ∀ w', (sizeOf 5).run Try.prog w' = .ok 1 w' := fun w' => by kernel_rfl
  have he : Try.prog.elem 22 = 5 := by kernel_rfl
  refine ⟨if m = l.toNat then A else A.map (·.add (l.toNat * 1)), m - l.toNat, fun w' => ?_, ?_, by omega, fun h => ?_⟩
  · have := run_slice_lh (P := Try.prog) (w := w') 22 A n m (by rw [he]; exact Try.underlying22) .i64 .i64 l k h0 h1 (by omega)
    rw [this, he, hs]
    simp [Result.andThen, sliced]
    omega
  · have := hz.sub m l.toNat k.toNat (by omega) (by omega) hm
    rw [show (k - l).toNat = k.toNat - l.toNat by omega]
    exact this
  · split at h
    · exact ⟨h, rfl⟩
    · exact ⟨by simpa using h, rfl⟩

theorem Own.far {w : World} {B : Nat} {v : Value} {z : List Int} (h : Own w B v z) {p : Addr} (hp : p.block < B) (u : Value) : Own (w.setCell p u) B v z :=
  h.block fun k hk => Below.heap_setCell w p u k (by have := (World.ownsRow.lt h k hk).1; omega)
theorem Own.cap {w : World} {B n c : Nat} {A : Option Addr} {z : List Int} (h : Own w B (.slice A n c) z) : n ≤ c := by
  rcases h.2 with ⟨e, h0⟩ | ⟨g, cap, cur, e, _, hh, r⟩
  · injection e with e1 e2 e3; omega
  · injection e with e1 e2 e3
    have r1 := r.1
    omega
theorem Below.of_grown_none {w w' : World} (h : w.grownBy w' none) : Below w.heap.size w w' := ⟨h.os, h.tape, h.output, h.size, fun k hk => h.block k hk (by simp)⟩
theorem Bs.none (w : World) : Bs w none 0 [] := ⟨rfl, fun h => absurd h (by omega)⟩

set_option maxHeartbeats 400000 in
theorem rtake_any (a : Option Addr) (n m : Nat) (z : List Int) (p c q x : Int) (w : World) (hz : Bs w a n z) (ha : a = none → m = 0) (h0 : 0 ≤ p) (h1 : p ≤ n) (hm : n ≤ m) (hn : n ≤ 300) :
    Calls Try.prog 22 #[cv (.slice a n m) p c q, .int .i64 x] w (RTakePost (.slice a n m) n z p c q x w) := by
  by_cases hc : c = 0
  · subst hc
    by_cases hx : x < 0
    · go_enter Try.func22, Try.ntmps22
      go_wp2_with fail
      refine (rfail_yes _ _ _ _ _ _ ⟨_, _, _, rfl⟩).mono ?_
      rintro e w1 ⟨rfl, hb⟩
      obtain ⟨h0, h1, hb⟩ := two_new hb
      obtain ⟨d0, d1, d2, d3⟩ := h1.c4
      obtain ⟨g0, g1, g2, g3⟩ := h1.f4
      go_wp2
      refine bodyPost_ret (v := .tuple #[cv (.slice a n m) p 17 (fq 17 p), .slice none 0 0]) (by simp [results, Try.results22, go_sem, d0, d1, d2, d3]) rfl ⟨false, _, _, _, _, _, _, rfl, ?_, .inr (.inl ⟨rfl, hx, rfl, rfl, rfl, by simp [fq]⟩), Bs.none _, Nat.le_refl _⟩
      iterate 4 (refine Below.setCell ?_ (by simp) _)
      exact hb
    · by_cases hy : (n : Int) - p < x
      · go_enter Try.func22, Try.ntmps22
        go_wp2_with fail
        refine (rfail_yes _ _ _ _ _ _ ⟨_, _, _, rfl⟩).mono ?_
        rintro e w1 ⟨rfl, hb⟩
        obtain ⟨h0, h1, hb⟩ := two_new hb
        obtain ⟨d0, d1, d2, d3⟩ := h1.c4
        obtain ⟨g0, g1, g2, g3⟩ := h1.f4
        go_wp2
        refine bodyPost_ret (v := .tuple #[cv (.slice a n m) p 1 (fq 1 n), .slice none 0 0]) (by simp [results, Try.results22, go_sem, d0, d1, d2, d3]) rfl ⟨false, _, _, _, _, _, _, rfl, ?_, .inr (.inr (.inl ⟨rfl, hy, rfl, rfl, rfl, by simp [fq]⟩)), Bs.none _, Nat.le_refl _⟩
        iterate 4 (refine Below.setCell ?_ (by simp) _)
        exact hb
      · obtain ⟨A', M, hsl, hA, hM, hN⟩ := slice_lh hz m p (p + x) h0 (by omega) (by omega) hm
        have e : (p + x - p).toNat = x.toNat := by omega
        rw [e] at hsl hA hM
        clear e
        go_enter Try.func22, Try.ntmps22
        go_wp2_with (at_builtin; go_must (refine list_append_bs rfl (.tmp 31) (.tmp 40) rfl (w.heap.size + 2) (.slice none 0 0) [] rfl (Own.nil _ _) _ _ _ _ rfl (hA.below (below_two _ _ _)) (fun h => by have := hN h; have := ha this.1; omega) (by simp; omega) (by simp) ?_; intro v1 w1 hown hg; rw [List.nil_append] at hown; obtain ⟨h0, h1, hb⟩ := two_new (Below.of_grown_none hg); obtain ⟨A1, M1, hv⟩ := hown.slice; subst hv; have hcap := hown.cap; obtain ⟨c0, c1, c2, c3⟩ := h0.c4; obtain ⟨f0, f1, f2, f3⟩ := h0.f4; obtain ⟨d0, d1, d2, d3⟩ := h1.c4; obtain ⟨g0, g1, g2, g3⟩ := h1.f4; clear hsl hA f0 f2 f3))
        refine bodyPost_ret (v := .tuple #[cv (.slice a n m) (p + x) 0 q, .slice A1 (piece z p.toNat (p + x).toNat).length M1]) (by simp [results, Try.results22, go_sem, d0, d1, d2, d3]) rfl ⟨true, _, _, _, _, _, _, rfl, ?_, .inr (.inr (.inr ⟨rfl, hx, hy, rfl, rfl, rfl, rfl⟩)), ?_, hcap⟩
        · iterate 5 (refine Below.setCell ?_ (by simp) _)
          exact hb
        · refine (Own.bs (B := w.heap.size + 2) (c := M1) ?_).2
          iterate 5 (refine Own.far ?_ (by simp) _)
          exact hown
  · have hcb : (c != 0) = true := by simpa using hc
    have H := Lib.hid hc
    clear hc
    go_enter Try.func22, Try.ntmps22
    go_wp2
    refine bodyPost_ret (v := .tuple #[cv (.slice a n m) p c q, .slice none 0 0]) (by simp [results, Try.results22, go_sem]) rfl ⟨false, _, _, _, _, _, _, rfl, below_two _ _ _, .inl ⟨H.out, rfl, rfl, rfl, rfl⟩, Bs.none _, Nat.le_refl _⟩

def PartPost (a : Option Addr) (k : Nat) (p : Int) (w : World) (e : Ending) (w' : World) : Prop :=
  ∃ g, e = .returned (.pointer (some ⟨g, 0, none⟩)) ∧ w.heap.size ≤ g ∧ Below w.heap.size w w' ∧ IsRd w' g (.slice a k k) p 0 0

set_option maxHeartbeats 400000 in
theorem part_k (b : Nat) (a : Option Addr) (n m : Nat) (p c q x : Int) (k : Nat) (w : World) (h : IsRd w b (.slice a n m) p c q) (h0 : 0 ≤ p) (h1 : p ≤ n) (hm : n ≤ m) (hn : n ≤ 300) (hp : p ≤ k) (hk : k ≤ n) (hx : (x < 0 ∧ (k : Int) = p) ∨ (0 ≤ x ∧ n - p < x ∧ k = n) ∨ (0 ≤ x ∧ x ≤ n - p ∧ (k : Int) = p + x)) :
    Calls Try.prog 21 #[.pointer (some ⟨b, 0, none⟩), .int .i64 x] w (PartPost a k p w) := by
  have hkm : (k : Int) ≤ m := by omega
  obtain ⟨c0, c1, c2, c3⟩ := h.cells
  rcases hx with ⟨hx, e⟩ | ⟨hx, hy, rfl⟩ | ⟨hx, hy, e⟩
  · have hy : (0 : Int) ≤ n - p := by omega
    subst e
    go_enter Try.func21, Try.ntmps21
    go_wp2
    go_quiet ((go_at_call 11; exact Calls.quiet_of (left_any _ _ _ _ _ _ _ _ h h0 h1 hn)))
    go_wp2
    go_region
    all_goals
      go_wp2
      go_ret
      refine ⟨w.heap.size, rfl, Nat.le_refl _, ?_, ?_⟩
      · exact ((below_drewN (Below.refl _ _) nq).alloc (by simp) _).drew
      · exact heap_alloc_new (w.drewN nq) _
  · have e : p + ((k : Int) - p) = k := by omega
    go_enter Try.func21, Try.ntmps21
    go_wp2
    go_quiet ((go_at_call 11; exact Calls.quiet_of (left_any _ _ _ _ _ _ _ _ h h0 h1 hn)))
    go_wp2
    go_region
    all_goals
      go_wp2
      go_ret
      refine ⟨w.heap.size, rfl, Nat.le_refl _, ?_, ?_⟩
      · exact ((below_drewN (Below.refl _ _) nq).alloc (by simp) _).drew
      · exact heap_alloc_new (w.drewN nq) _
  · have e' : (p + x) = k := by omega
    clear e
    have hx0 : ¬ x < 0 := by omega
    go_enter Try.func21, Try.ntmps21
    go_wp2
    go_quiet ((go_at_call 11; exact Calls.quiet_of (left_any _ _ _ _ _ _ _ _ h h0 h1 hn)))
    go_wp2
    go_region
    all_goals
      go_wp2
      go_ret
      refine ⟨w.heap.size, rfl, Nat.le_refl _, ?_, ?_⟩
      · exact ((below_drewN (Below.refl _ _) nq).alloc (by simp) _).drew
      · exact heap_alloc_new (w.drewN nq) _

theorem part_any (b : Nat) (a : Option Addr) (n m : Nat) (p c q x : Int) (w : World) (h : IsRd w b (.slice a n m) p c q) (h0 : 0 ≤ p) (h1 : p ≤ n) (hm : n ≤ m) (hn : n ≤ 300) :
    Calls Try.prog 21 #[.pointer (some ⟨b, 0, none⟩), .int .i64 x] w (PartPost a (partEnd n p x) p w) := by
  obtain ⟨e0, e1⟩ := partEnd_le n p x h0 h1
  refine part_k b a n m p c q x (partEnd n p x) w h h0 h1 hm hn (by omega) e1 ?_
  unfold partEnd
  by_cases hx : x < 0
  · left
    rw [if_pos hx]
    split <;> omega
  · rw [if_neg hx]
    by_cases hy : (n : Int) - p < x
    · rw [if_pos hy]; omega
    · rw [if_neg hy]; omega
end Go.Proofs.Ytmbojcdliomifaa.Cur
