/- The contracts of the reader's own functions (packages cursor and fault), first part: words for memory, and what reads a reader or makes a fault. -/
import Derived.Test.YtkedmhopajpkhaaByt
import Derived.WalkKit
import Derived.WalkSpells
import Derived.WalkLawsBesides
import Derived.OneCell
import Derived.Lib.Hide
import Derived.Deep.QuietTactic
import Derived.BigQuiet
import Derived.Deep.Draws
namespace Go.Proofs.Ytkedmhopajpkhaa.Cur
open Go.RowKit
set_option linter.unusedVariables false

/-- A reader's block: its bytes, its place, its fault's code and place. -/
def IsRd (w : World) (b : Nat) (s : Value) (p c q : Int) : Prop :=
  w.heap[b]? = some (.cells #[s, .int .i64 p, .int .i64 c, .int .i64 q] 69 (0, 0))

theorem IsRd.cells {w : World} {b : Nat} {s : Value} {p c q : Int} (h : IsRd w b s p c q) :
    w.cell? ⟨b, 0, none⟩ = some s ∧ w.cell? ⟨b, 1, none⟩ = some (.int .i64 p) ∧ w.cell? ⟨b, 2, none⟩ = some (.int .i64 c) ∧ w.cell? ⟨b, 3, none⟩ = some (.int .i64 q) := by
  unfold IsRd at h
  simp [World.cell?, h]
theorem IsRd.free {w : World} {b : Nat} {s : Value} {p c q : Int} (h : IsRd w b s p c q) (o : Nat) : w.frozen? ⟨b, o, none⟩ = false := by
  unfold IsRd at h
  simp [World.frozen?, h]
theorem IsRd.lt {w : World} {b : Nat} {s : Value} {p c q : Int} (h : IsRd w b s p c q) : b < w.heap.size := lt_of_block h
theorem IsRd.below {w w' : World} {b : Nat} {s : Value} {p c q : Int} (h : IsRd w b s p c q) (hb : Below w.heap.size w w') : IsRd w' b s p c q := (hb.block b h.lt).trans h
theorem IsRd.kp {w w' : World} {b k : Nat} {s : Value} {p c q : Int} (h : IsRd w b s p c q) (hb : Kp k w w') (hk : b ≠ k) : IsRd w' b s p c q := (hb.block b h.lt hk).trans h
theorem IsRd.set1 {w : World} {b : Nat} {s : Value} {p c q : Int} (h : IsRd w b s p c q) (x : Int) : IsRd (w.setCell ⟨b, 1, none⟩ (.int .i64 x)) b s x c q := by
  unfold IsRd at h ⊢
  simp [World.setCell, Array.getElem?_modify, h]
theorem IsRd.set2 {w : World} {b : Nat} {s : Value} {p c q : Int} (h : IsRd w b s p c q) (x : Int) : IsRd (w.setCell ⟨b, 2, none⟩ (.int .i64 x)) b s p x q := by
  unfold IsRd at h ⊢
  simp [World.setCell, Array.getElem?_modify, h]
theorem IsRd.set3 {w : World} {b : Nat} {s : Value} {p c q : Int} (h : IsRd w b s p c q) (x : Int) : IsRd (w.setCell ⟨b, 3, none⟩ (.int .i64 x)) b s p c x := by
  unfold IsRd at h ⊢
  simp [World.setCell, Array.getElem?_modify, h]

theorem Bs.kp {w w' : World} {A : Option Addr} {n : Nat} {z : List Int} {b : Nat} {s : Value} {p c q : Int} (h : Bs w A n z) (hr : IsRd w b (s) p c q) (hs : ∀ x, s ≠ .int .u8 x) (hb : Kp b w w') : Bs w' A n z :=
  h.keep fun k o x hc => by
    have hne : k ≠ b := by
      rintro rfl
      unfold IsRd at hr
      simp only [World.cell?, hr] at hc
      match o, hc with
      | 0, hc => simp at hc; exact hs x hc
      | 1, hc => simp at hc
      | 2, hc => simp at hc
      | 3, hc => simp at hc
      | o + 4, hc => simp at hc
    exact (World.cell?_of_block (w := w) (hb.block k (lt_of_cell hc) hne)).trans hc

set_option maxHeartbeats 400000 in
theorem at_any (b : Nat) (s : Value) (p c q : Int) (w : World) (h : IsRd w b s p c q) :
    Calls Try.prog 26 #[.pointer (some ⟨b, 0, none⟩)] w fun e w' => e = .returned (.int .i64 p) ∧ w = w' := by
  obtain ⟨c0, c1, c2, c3⟩ := h.cells
  clear c0 c2 c3 h
  go_enter Try.func26, Try.ntmps26
  go_wp2
  go_ret
  exact ⟨rfl, rfl⟩

set_option maxHeartbeats 400000 in
theorem at_none (w : World) :
    Calls Try.prog 26 #[.pointer none] w fun e w' => e = .returned (.int .i64 0) ∧ w = w' := by
  go_enter Try.func26, Try.ntmps26
  go_wp2
  go_ret
  exact ⟨rfl, rfl⟩

set_option maxHeartbeats 400000 in
theorem left_any (b : Nat) (a : Option Addr) (n m : Nat) (p c q : Int) (w : World) (h : IsRd w b (.slice a n m) p c q) (h0 : 0 ≤ p) (h1 : p ≤ n) (hn : n ≤ 1000000) :
    Calls Try.prog 30 #[.pointer (some ⟨b, 0, none⟩)] w fun e w' => e = .returned (.int .i64 (n - p)) ∧ ∃ k, w' = w.drewN k := by
  obtain ⟨c0, c1, c2, c3⟩ := h.cells
  clear c2 c3 h
  go_enter Try.func30, Try.ntmps30
  go_wp2
  go_quiet (fail)
  go_wp2
  go_ret
  exact ⟨rfl, nq, rfl⟩

set_option maxHeartbeats 400000 in
theorem left_none (w : World) :
    Calls Try.prog 30 #[.pointer none] w fun e w' => e = .returned (.int .i64 0) ∧ w = w' := by
  go_enter Try.func30, Try.ntmps30
  go_wp2
  go_ret
  exact ⟨rfl, rfl⟩

/-- The place of a fault with this code. -/
def fq (c q : Int) : Int := if c = 0 then 0 else q

set_option maxHeartbeats 400000 in
theorem fat_any (c q : Int) (w : World) :
    Calls Try.prog 41 #[.int .i64 c, .int .i64 q] w fun e w' => e = .returned (.agg #[.int .i64 c, .int .i64 (fq c q)]) ∧ Below w.heap.size w w' := by
  by_cases hc : c = 0
  · obtain rfl := hc
    go_enter Try.func41, Try.ntmps41
    go_wp2
    exact bodyPost_ret (v := .agg #[.int .i64 0, .int .i64 0]) (by simp [results, Try.results41, go_sem]) rfl ⟨rfl, (Below.refl _ _).alloc (Nat.le_refl _) _⟩
  · have hb : (c == 0) = false := by simp [hc]
    have e : fq c q = q := by simp [fq, hc]
    rw [e]
    clear e
    go_enter Try.func41, Try.ntmps41
    go_wp2
    exact bodyPost_ret (v := .agg #[.int .i64 c, .int .i64 q]) (by simp [results, Try.results41, go_sem]) rfl ⟨rfl, (Below.refl _ _).alloc (Nat.le_refl _) _⟩

set_option maxHeartbeats 400000 in
theorem fgood_any (c q : Int) (w : World) :
    Calls Try.prog 44 #[.agg #[.int .i64 c, .int .i64 q]] w fun e w' => e = .returned (.bool (c == 0)) ∧ Below w.heap.size w w' := by
  go_enter Try.func44, Try.ntmps44
  go_wp2
  go_ret
  exact ⟨rfl, (Below.refl _ _).alloc (Nat.le_refl _) _⟩

set_option maxHeartbeats 400000 in
theorem fault_any (b : Nat) (s : Value) (p c q : Int) (w : World) (h : IsRd w b s p c q) :
    Calls Try.prog 25 #[.pointer (some ⟨b, 0, none⟩)] w fun e w' => e = .returned (.agg #[.int .i64 c, .int .i64 q]) ∧ Below w.heap.size w w' := by
  have hl := h.lt
  obtain ⟨c0, c1, c2, c3⟩ := h.cells
  clear c0 c1 h
  go_enter Try.func25, Try.ntmps25
  go_wp2
  exact bodyPost_ret (v := .agg #[.int .i64 c, .int .i64 q]) (by simp [results, Try.results25, go_sem]) rfl ⟨rfl, (Below.refl _ _).alloc (Nat.le_refl _) _⟩

set_option maxHeartbeats 400000 in
theorem fault_none (w : World) :
    Calls Try.prog 25 #[.pointer none] w fun e w' => e = .returned (.agg #[.int .i64 19, .int .i64 0]) ∧ Below w.heap.size w w' := by
  go_enter Try.func25, Try.ntmps25
  go_wp2_with (go_at_call 41; refine (fat_any _ _ _).mono ?_; rintro e w1 ⟨rfl, hb⟩; obtain ⟨hc, hf⟩ := old_reads hb; have hz := hb.size; simp at hz)
  refine bodyPost_ret (v := .agg #[.int .i64 19, .int .i64 0]) (by simp [results, Try.results25, go_sem, hc, fq]) rfl ⟨rfl, ?_⟩
  exact (((Below.refl _ _).alloc (Nat.le_refl _) _).trans (hb.mono (by simp))).setCell (by simp) _ |>.setCell (by simp) _

set_option maxHeartbeats 400000 in
theorem good_any (b : Nat) (s : Value) (p c q : Int) (w : World) (h : IsRd w b s p c q) :
    Calls Try.prog 29 #[.pointer (some ⟨b, 0, none⟩)] w fun e w' => e = .returned (.bool (c == 0)) ∧ Below w.heap.size w w' := by
  go_enter Try.func29, Try.ntmps29
  go_wp2_with (first | (go_at_call 25; refine (fault_any _ _ _ _ _ _ h).mono ?_; rintro e w1 ⟨rfl, hb⟩) | (go_at_call 44; refine (fgood_any _ _ _).mono ?_; rintro e w2 ⟨rfl, hb2⟩))
  go_ret
  exact ⟨rfl, hb.trans (hb2.mono hb.size)⟩

set_option maxHeartbeats 400000 in
theorem good_none (w : World) :
    Calls Try.prog 29 #[.pointer none] w fun e w' => e = .returned (.bool false) ∧ Below w.heap.size w w' := by
  go_enter Try.func29, Try.ntmps29
  go_wp2_with (first | (go_at_call 25; refine (fault_none _).mono ?_; rintro e w1 ⟨rfl, hb⟩) | (go_at_call 44; refine (fgood_any _ _ _).mono ?_; rintro e w2 ⟨rfl, hb2⟩))
  go_ret
  exact ⟨rfl, hb.trans (hb2.mono hb.size)⟩

set_option maxHeartbeats 400000 in
theorem fail_yes (b : Nat) (s : Value) (p q c' q' : Int) (w : World) (h : IsRd w b s p 0 q) :
    Calls Try.prog 52 #[.pointer (some ⟨b, 0, none⟩), .int .i64 c', .int .i64 q'] w fun e w' => e = .returned (.tuple #[]) ∧ Kp b w w' ∧ IsRd w' b s p c' (fq c' q') := by
  go_enter Try.func52, Try.ntmps52
  go_wp2_with fail
  refine (good_any _ _ _ _ _ _ h).mono ?_
  rintro e w1 ⟨rfl, hb⟩
  have h1 := h.below hb
  go_wp2_with fail
  refine (fat_any _ _ _).mono ?_
  rintro e w2 ⟨rfl, hb2⟩
  have h2 := h1.below hb2
  obtain ⟨c0, c1, c2, c3⟩ := h2.cells
  have f2 := h2.free 2
  have f3 := h2.free 3
  clear c0 c1
  go_wp2
  go_end0
  exact ⟨rfl, ((Kp.of_below hb).trans (Kp.of_below hb2)).trans ((Kp.setCell _ _ _ _).trans (Kp.setCell _ _ _ _)), (h2.set2 _).set3 _⟩

set_option maxHeartbeats 400000 in
theorem fail_no (b : Nat) (s : Value) (p c q c' q' : Int) (w : World) (h : IsRd w b s p c q) (hc : (c == 0) = false) :
    Calls Try.prog 52 #[.pointer (some ⟨b, 0, none⟩), .int .i64 c', .int .i64 q'] w fun e w' => e = .returned (.tuple #[]) ∧ Below w.heap.size w w' := by
  go_enter Try.func52, Try.ntmps52
  go_wp2_with fail
  refine (good_any _ _ _ _ _ _ h).mono ?_
  rintro e w1 ⟨rfl, hb⟩
  go_wp2
  go_end0
  exact ⟨rfl, hb⟩

set_option maxHeartbeats 400000 in
theorem fail_none (c' q' : Int) (w : World) :
    Calls Try.prog 52 #[.pointer none, .int .i64 c', .int .i64 q'] w fun e w' => e = .returned (.tuple #[]) ∧ Below w.heap.size w w' := by
  go_enter Try.func52, Try.ntmps52
  go_wp2_with fail
  refine (good_none _).mono ?_
  rintro e w1 ⟨rfl, hb⟩
  go_wp2
  go_end0
  exact ⟨rfl, hb⟩
end Go.Proofs.Ytkedmhopajpkhaa.Cur
