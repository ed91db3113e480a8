/- K2: CurA CurB CurC CurD CurE CurF CurG CurH -/
import Derived.Test.YtoeedhdckccajaaK1
import Derived.WalkKit
import Derived.WalkSpells
import Derived.WalkLawsBesides
import Derived.OneCell
import Derived.Lib.Hide
import Derived.Deep.QuietTactic
import Derived.BigQuiet
import Derived.Deep.Draws
import Derived.Laws.CopyOwn
import Derived.Deep.RegionLaw
import Derived.Deep.RegionWith
import Derived.Laws.BytesArg
import Derived.Maps.AppendAt
import Derived.Laws.AppendOwnNone
import Derived.Deep.Slices
import Derived.Deep.Strs
import Derived.ProofKit
import Derived.OpenShut
import Derived.Deep.RegionHeld3
import Derived.Outline
/- The contracts of the reader's own functions (packages cursor and fault), first part: words for memory, and what reads a reader or makes a fault. -/
/- The contracts of the reader's own functions (package cursor), second part: Skip, End, New, cut, Take, Byte, Since. -/
/- The contracts of the reader's own functions (package cursor), third part: cut, Take, Byte, Since, Part. -/
/- The contracts of the reader's own functions (package cursor), fourth part: Take, Byte, Since, Part. -/
/- Two rows of bytes that are the same are told the same; the document's example is as it says (live). -/
/- Bytes that are appended to a row of the call's own; Take where there are enough bytes. -/
/- What a law's arguments hold, read off the memory in which it is called: bytes, calls, a start. The calls of a reader that has a fault. -/
/- The document's own reader, as a value (package tholepinref02): Fail, Take, End, Part; and the reader's Part. -/
namespace Go.Proofs.Ytoeedhdckccajaa.Cur
open Go.RowKit
set_option linter.unusedVariables false

/-- A reader's block: its bytes, its place, its fault's code and place. -/
def IsRd (w : World) (b : Nat) (s : Value) (p c q : Int) : Prop :=
  w.heap[b]? = some (.cells #[s, .int .i64 p, .int .i64 c, .int .i64 q] 78 (0, 0))

theorem IsRd.cells {w : World} {b : Nat} {s : Value} {p c q : Int} (h : IsRd w b s p c q) :
    w.cell? ⟨b, 0, none⟩ = some s ∧ w.cell? ⟨b, 1, none⟩ = some (.int .i64 p) ∧ w.cell? ⟨b, 2, none⟩ = some (.int .i64 c) ∧ w.cell? ⟨b, 3, none⟩ = some (.int .i64 q) := by
  unfold IsRd at h
  simp [World.cell?, h]
theorem IsRd.free {w : World} {b : Nat} {s : Value} {p c q : Int} (h : IsRd w b s p c q) (o : Nat) : w.frozen? ⟨b, o, none⟩ = false := by
  unfold IsRd at h
  simp [World.frozen?, h]
theorem IsRd.lt {w : World} {b : Nat} {s : Value} {p c q : Int} (h : IsRd w b s p c q) : b < w.heap.size := lt_of_block h
theorem IsRd.below {w w' : World} {b : Nat} {s : Value} {p c q : Int} (h : IsRd w b s p c q) (hb : Below w.heap.size w w') : IsRd w' b s p c q := (hb.block b h.lt).trans h
theorem IsRd.kp {w w' : World} {b k : Nat} {s : Value} {p c q : Int} (h : IsRd w b s p c q) (hb : Kp k w w') (hk : b ≠ k) : IsRd w' b s p c q := (hb.block b h.lt hk).trans h
theorem IsRd.set1 {w : World} {b : Nat} {s : Value} {p c q : Int} (h : IsRd w b s p c q) (x : Int) : IsRd (w.setCell ⟨b, 1, none⟩ (.int .i64 x)) b s x c q := by
  unfold IsRd at h ⊢
  simp [World.setCell, Array.getElem?_modify, h]
theorem IsRd.set2 {w : World} {b : Nat} {s : Value} {p c q : Int} (h : IsRd w b s p c q) (x : Int) : IsRd (w.setCell ⟨b, 2, none⟩ (.int .i64 x)) b s p x q := by
  unfold IsRd at h ⊢
  simp [World.setCell, Array.getElem?_modify, h]
theorem IsRd.set3 {w : World} {b : Nat} {s : Value} {p c q : Int} (h : IsRd w b s p c q) (x : Int) : IsRd (w.setCell ⟨b, 3, none⟩ (.int .i64 x)) b s p c x := by
  unfold IsRd at h ⊢
  simp [World.setCell, Array.getElem?_modify, h]

theorem Bs.kp {w w' : World} {A : Option Addr} {n : Nat} {z : List Int} {b : Nat} {s : Value} {p c q : Int} (h : Bs w A n z) (hr : IsRd w b (s) p c q) (hs : ∀ x, s ≠ .int .u8 x) (hb : Kp b w w') : Bs w' A n z :=
  h.keep fun k o x hc => by
    have hne : k ≠ b := by
      rintro rfl
      unfold IsRd at hr
      simp only [World.cell?, hr] at hc
      match o, hc with
      | 0, hc => simp at hc; exact hs x hc
      | 1, hc => simp at hc
      | 2, hc => simp at hc
      | 3, hc => simp at hc
      | o + 4, hc => simp at hc
    exact (World.cell?_of_block (w := w) (hb.block k (lt_of_cell hc) hne)).trans hc

set_option maxHeartbeats 400000 in
theorem at_any (b : Nat) (s : Value) (p c q : Int) (w : World) (h : IsRd w b s p c q) :
    Calls Try.prog 20 #[.pointer (some ⟨b, 0, none⟩)] w fun e w' => e = .returned (.int .i64 p) ∧ w = w' := by
  obtain ⟨c0, c1, c2, c3⟩ := h.cells
  clear c0 c2 c3 h
  go_enter Try.func20, Try.ntmps20
  go_wp2
  go_ret
  exact ⟨rfl, rfl⟩

set_option maxHeartbeats 400000 in
theorem at_none (w : World) :
    Calls Try.prog 20 #[.pointer none] w fun e w' => e = .returned (.int .i64 0) ∧ w = w' := by
  go_enter Try.func20, Try.ntmps20
  go_wp2
  go_ret
  exact ⟨rfl, rfl⟩

set_option maxHeartbeats 400000 in
theorem left_any (b : Nat) (a : Option Addr) (n m : Nat) (p c q : Int) (w : World) (h : IsRd w b (.slice a n m) p c q) (h0 : 0 ≤ p) (h1 : p ≤ n) (hn : n ≤ 1000000) :
    Calls Try.prog 93 #[.pointer (some ⟨b, 0, none⟩)] w fun e w' => e = .returned (.int .i64 (n - p)) ∧ ∃ k, w' = w.drewN k := by
  obtain ⟨c0, c1, c2, c3⟩ := h.cells
  clear c2 c3 h
  go_enter Try.func93, Try.ntmps93
  go_wp2
  go_quiet (fail)
  go_wp2
  go_ret
  exact ⟨rfl, nq, rfl⟩

set_option maxHeartbeats 400000 in
theorem left_none (w : World) :
    Calls Try.prog 93 #[.pointer none] w fun e w' => e = .returned (.int .i64 0) ∧ w = w' := by
  go_enter Try.func93, Try.ntmps93
  go_wp2
  go_ret
  exact ⟨rfl, rfl⟩

/-- The place of a fault with this code. -/
def fq (c q : Int) : Int := if c = 0 then 0 else q

set_option maxHeartbeats 400000 in
theorem fat_any (c q : Int) (w : World) :
    Calls Try.prog 50 #[.int .i64 c, .int .i64 q] w fun e w' => e = .returned (.agg #[.int .i64 c, .int .i64 (fq c q)]) ∧ Below w.heap.size w w' := by
  by_cases hc : c = 0
  · obtain rfl := hc
    go_enter Try.func50, Try.ntmps50
    go_wp2
    exact bodyPost_ret (v := .agg #[.int .i64 0, .int .i64 0]) (by simp [results, Try.results50, go_sem]) rfl ⟨rfl, (Below.refl _ _).alloc (Nat.le_refl _) _⟩
  · have hb : (c == 0) = false := by simp [hc]
    have e : fq c q = q := by simp [fq, hc]
    rw [e]
    clear e
    go_enter Try.func50, Try.ntmps50
    go_wp2
    exact bodyPost_ret (v := .agg #[.int .i64 c, .int .i64 q]) (by simp [results, Try.results50, go_sem]) rfl ⟨rfl, (Below.refl _ _).alloc (Nat.le_refl _) _⟩

set_option maxHeartbeats 400000 in
theorem fgood_any (c q : Int) (w : World) :
    Calls Try.prog 46 #[.agg #[.int .i64 c, .int .i64 q]] w fun e w' => e = .returned (.bool (c == 0)) ∧ Below w.heap.size w w' := by
  go_enter Try.func46, Try.ntmps46
  go_wp2
  go_ret
  exact ⟨rfl, (Below.refl _ _).alloc (Nat.le_refl _) _⟩

set_option maxHeartbeats 400000 in
theorem fault_any (b : Nat) (s : Value) (p c q : Int) (w : World) (h : IsRd w b s p c q) :
    Calls Try.prog 23 #[.pointer (some ⟨b, 0, none⟩)] w fun e w' => e = .returned (.agg #[.int .i64 c, .int .i64 q]) ∧ Below w.heap.size w w' := by
  have hl := h.lt
  obtain ⟨c0, c1, c2, c3⟩ := h.cells
  clear c0 c1 h
  go_enter Try.func23, Try.ntmps23
  go_wp2
  exact bodyPost_ret (v := .agg #[.int .i64 c, .int .i64 q]) (by simp [results, Try.results23, go_sem]) rfl ⟨rfl, (Below.refl _ _).alloc (Nat.le_refl _) _⟩

set_option maxHeartbeats 400000 in
theorem fault_none (w : World) :
    Calls Try.prog 23 #[.pointer none] w fun e w' => e = .returned (.agg #[.int .i64 19, .int .i64 0]) ∧ Below w.heap.size w w' := by
  go_enter Try.func23, Try.ntmps23
  go_wp2_with (go_at_call 50; refine (fat_any _ _ _).mono ?_; rintro e w1 ⟨rfl, hb⟩; obtain ⟨hc, hf⟩ := old_reads hb; have hz := hb.size; simp at hz)
  refine bodyPost_ret (v := .agg #[.int .i64 19, .int .i64 0]) (by simp [results, Try.results23, go_sem, hc, fq]) rfl ⟨rfl, ?_⟩
  exact (((Below.refl _ _).alloc (Nat.le_refl _) _).trans (hb.mono (by simp))).setCell (by simp) _ |>.setCell (by simp) _

set_option maxHeartbeats 400000 in
theorem good_any (b : Nat) (s : Value) (p c q : Int) (w : World) (h : IsRd w b s p c q) :
    Calls Try.prog 19 #[.pointer (some ⟨b, 0, none⟩)] w fun e w' => e = .returned (.bool (c == 0)) ∧ Below w.heap.size w w' := by
  go_enter Try.func19, Try.ntmps19
  go_wp2_with (first | (go_at_call 23; refine (fault_any _ _ _ _ _ _ h).mono ?_; rintro e w1 ⟨rfl, hb⟩) | (go_at_call 46; refine (fgood_any _ _ _).mono ?_; rintro e w2 ⟨rfl, hb2⟩))
  go_ret
  exact ⟨rfl, hb.trans (hb2.mono hb.size)⟩

set_option maxHeartbeats 400000 in
theorem good_none (w : World) :
    Calls Try.prog 19 #[.pointer none] w fun e w' => e = .returned (.bool false) ∧ Below w.heap.size w w' := by
  go_enter Try.func19, Try.ntmps19
  go_wp2_with (first | (go_at_call 23; refine (fault_none _).mono ?_; rintro e w1 ⟨rfl, hb⟩) | (go_at_call 46; refine (fgood_any _ _ _).mono ?_; rintro e w2 ⟨rfl, hb2⟩))
  go_ret
  exact ⟨rfl, hb.trans (hb2.mono hb.size)⟩

set_option maxHeartbeats 400000 in
theorem fail_yes (b : Nat) (s : Value) (p q c' q' : Int) (w : World) (h : IsRd w b s p 0 q) :
    Calls Try.prog 69 #[.pointer (some ⟨b, 0, none⟩), .int .i64 c', .int .i64 q'] w fun e w' => e = .returned (.tuple #[]) ∧ Kp b w w' ∧ IsRd w' b s p c' (fq c' q') := by
  go_enter Try.func69, Try.ntmps69
  go_wp2_with fail
  refine (good_any _ _ _ _ _ _ h).mono ?_
  rintro e w1 ⟨rfl, hb⟩
  have h1 := h.below hb
  go_wp2_with fail
  refine (fat_any _ _ _).mono ?_
  rintro e w2 ⟨rfl, hb2⟩
  have h2 := h1.below hb2
  obtain ⟨c0, c1, c2, c3⟩ := h2.cells
  have f2 := h2.free 2
  have f3 := h2.free 3
  clear c0 c1
  go_wp2
  go_end0
  exact ⟨rfl, ((Kp.of_below hb).trans (Kp.of_below hb2)).trans ((Kp.setCell _ _ _ _).trans (Kp.setCell _ _ _ _)), (h2.set2 _).set3 _⟩

set_option maxHeartbeats 400000 in
theorem fail_no (b : Nat) (s : Value) (p c q c' q' : Int) (w : World) (h : IsRd w b s p c q) (hc : (c == 0) = false) :
    Calls Try.prog 69 #[.pointer (some ⟨b, 0, none⟩), .int .i64 c', .int .i64 q'] w fun e w' => e = .returned (.tuple #[]) ∧ Below w.heap.size w w' := by
  go_enter Try.func69, Try.ntmps69
  go_wp2_with fail
  refine (good_any _ _ _ _ _ _ h).mono ?_
  rintro e w1 ⟨rfl, hb⟩
  go_wp2
  go_end0
  exact ⟨rfl, hb⟩

set_option maxHeartbeats 400000 in
theorem fail_none (c' q' : Int) (w : World) :
    Calls Try.prog 69 #[.pointer none, .int .i64 c', .int .i64 q'] w fun e w' => e = .returned (.tuple #[]) ∧ Below w.heap.size w w' := by
  go_enter Try.func69, Try.ntmps69
  go_wp2_with fail
  refine (good_none _).mono ?_
  rintro e w1 ⟨rfl, hb⟩
  go_wp2
  go_end0
  exact ⟨rfl, hb⟩
end Go.Proofs.Ytoeedhdckccajaa.Cur

namespace Go.Proofs.Ytoeedhdckccajaa.Cur
open Go.RowKit
set_option linter.unusedVariables false

/-- What Skip of x does to place, code and place of the fault. -/
def SkipSt (n : Nat) (p c q x : Int) (ok : Bool) (p' c' q' : Int) : Prop :=
  (c ≠ 0 ∧ ok = false ∧ p' = p ∧ c' = c ∧ q' = q) ∨
  (c = 0 ∧ x < 0 ∧ ok = false ∧ p' = p ∧ c' = 17 ∧ q' = p) ∨
  (c = 0 ∧ (n : Int) - p < x ∧ ok = false ∧ p' = p ∧ c' = 1 ∧ q' = n) ∨
  (c = 0 ∧ 0 ≤ x ∧ x ≤ n - p ∧ ok = true ∧ p' = p + x ∧ c' = c ∧ q' = q)

def SkipPost (b : Nat) (s : Value) (n : Nat) (p c q x : Int) (w : World) (e : Ending) (w' : World) : Prop :=
  ∃ ok p' c' q', e = .returned (.bool ok) ∧ Kp b w w' ∧ IsRd w' b s p' c' q' ∧ SkipSt n p c q x ok p' c' q'

theorem IsRd.drewN {w : World} {b : Nat} {s : Value} {p c q : Int} (h : IsRd w b s p c q) (k : Nat) : IsRd (w.drewN k) b s p c q := h
set_option maxHeartbeats 400000 in
theorem skip_bad (b : Nat) (a : Option Addr) (n m : Nat) (p c q x : Int) (w : World) (h : IsRd w b (.slice a n m) p c q) (h0 : 0 ≤ p) (h1 : p ≤ n) (hn : n ≤ 1000000) (hc : (c == 0) = false) :
    Calls Try.prog 92 #[.pointer (some ⟨b, 0, none⟩), .int .i64 x] w (SkipPost b (.slice a n m) n p c q x w) := by
  have hc' : c ≠ 0 := by simpa using hc
  have H := Lib.hid hc'
  clear hc'
  by_cases hx : x < 0
  · go_enter Try.func92, Try.ntmps92
    go_wp2_with fail
    refine (at_any _ _ _ _ _ _ h).mono ?_
    rintro e w0 ⟨rfl, rfl⟩
    go_wp2_with fail
    refine (fail_no _ _ _ _ _ _ _ _ h hc).mono ?_
    rintro e w1 ⟨rfl, hb1⟩
    have h2 := h.below hb1
    go_wp2_with fail
    refine (left_any _ _ _ _ _ _ _ _ h2 h0 h1 hn).mono ?_
    rintro e w2 ⟨rfl, k, rfl⟩
    go_wp2_with fail
    refine (good_any _ _ _ _ _ _ (h2.drewN k)).mono ?_
    rintro e w3 ⟨rfl, hb3⟩
    go_wp2
    go_ret
    exact ⟨false, p, c, q, rfl, ((Kp.of_below hb1).trans (Kp.drewN _ _ _)).trans (Kp.of_below hb3), (h2.drewN k).below hb3, .inl ⟨H.out, rfl, rfl, rfl, rfl⟩⟩
  · by_cases hy : (n : Int) - p < x
    · go_enter Try.func92, Try.ntmps92
      go_wp2_with fail
      refine (left_any _ _ _ _ _ _ _ _ h h0 h1 hn).mono ?_
      rintro e w2 ⟨rfl, k, rfl⟩
      go_wp2_with fail
      refine (at_any _ _ _ _ _ _ (h.drewN k)).mono ?_
      rintro e w0 ⟨rfl, rfl⟩
      go_wp2_with fail
      refine (left_any _ _ _ _ _ _ _ _ (h.drewN k) h0 h1 hn).mono ?_
      rintro e w2 ⟨rfl, k2, rfl⟩
      go_wp2_with fail
      refine (fail_no _ _ _ _ _ _ _ _ (h.drewN (k + k2)) hc).mono ?_
      rintro e w1 ⟨rfl, hb1⟩
      have h2 := (h.drewN (k + k2)).below hb1
      go_wp2_with fail
      refine (good_any _ _ _ _ _ _ h2).mono ?_
      rintro e w3 ⟨rfl, hb3⟩
      go_wp2
      go_ret
      exact ⟨false, p, c, q, rfl, ((Kp.drewN _ _ _).trans (Kp.of_below hb1)).trans (Kp.of_below hb3), h2.below hb3, .inl ⟨H.out, rfl, rfl, rfl, rfl⟩⟩
    · go_enter Try.func92, Try.ntmps92
      go_wp2_with fail
      refine (left_any _ _ _ _ _ _ _ _ h h0 h1 hn).mono ?_
      rintro e w2 ⟨rfl, k, rfl⟩
      go_wp2_with fail
      refine (good_any _ _ _ _ _ _ (h.drewN k)).mono ?_
      rintro e w3 ⟨rfl, hb3⟩
      go_wp2
      go_ret
      exact ⟨false, p, c, q, rfl, (Kp.drewN _ _ _).trans (Kp.of_below hb3), (h.drewN k).below hb3, .inl ⟨H.out, rfl, rfl, rfl, rfl⟩⟩

set_option maxHeartbeats 400000 in
theorem skip_good (b : Nat) (a : Option Addr) (n m : Nat) (p q x : Int) (w : World) (h : IsRd w b (.slice a n m) p 0 q) (h0 : 0 ≤ p) (h1 : p ≤ n) (hn : n ≤ 1000000) :
    Calls Try.prog 92 #[.pointer (some ⟨b, 0, none⟩), .int .i64 x] w (SkipPost b (.slice a n m) n p 0 q x w) := by
  by_cases hx : x < 0
  · go_enter Try.func92, Try.ntmps92
    go_wp2_with fail
    refine (at_any _ _ _ _ _ _ h).mono ?_
    rintro e w0 ⟨rfl, rfl⟩
    go_wp2_with fail
    refine (fail_yes _ _ _ _ _ _ _ h).mono ?_
    rintro e w1 ⟨rfl, hb1, h2⟩
    go_wp2_with fail
    refine (left_any _ _ _ _ _ _ _ _ h2 h0 h1 hn).mono ?_
    rintro e w2 ⟨rfl, k, rfl⟩
    go_wp2_with fail
    refine (good_any _ _ _ _ _ _ (h2.drewN k)).mono ?_
    rintro e w3 ⟨rfl, hb3⟩
    go_wp2
    go_ret
    exact ⟨false, p, 17, fq 17 p, rfl, (hb1.trans (Kp.drewN _ _ _)).trans (Kp.of_below hb3), (h2.drewN k).below hb3, .inr (.inl ⟨rfl, hx, rfl, rfl, rfl, by simp [fq]⟩)⟩
  · by_cases hy : (n : Int) - p < x
    · go_enter Try.func92, Try.ntmps92
      go_wp2_with fail
      refine (left_any _ _ _ _ _ _ _ _ h h0 h1 hn).mono ?_
      rintro e w2 ⟨rfl, k, rfl⟩
      go_wp2_with fail
      refine (at_any _ _ _ _ _ _ (h.drewN k)).mono ?_
      rintro e w0 ⟨rfl, rfl⟩
      go_wp2_with fail
      refine (left_any _ _ _ _ _ _ _ _ (h.drewN k) h0 h1 hn).mono ?_
      rintro e w2 ⟨rfl, k2, rfl⟩
      go_wp2_with fail
      refine (fail_yes _ _ _ _ _ _ _ (h.drewN (k + k2))).mono ?_
      rintro e w1 ⟨rfl, hb1, h2⟩
      go_wp2_with fail
      refine (good_any _ _ _ _ _ _ h2).mono ?_
      rintro e w3 ⟨rfl, hb3⟩
      go_wp2
      go_ret
      exact ⟨false, p, 1, fq 1 (p + (n - p)), rfl, ((Kp.drewN _ _ _).trans hb1).trans (Kp.of_below hb3), h2.below hb3, .inr (.inr (.inl ⟨rfl, hy, rfl, rfl, rfl, by simp [fq]; omega⟩))⟩
    · go_enter Try.func92, Try.ntmps92
      go_wp2_with fail
      refine (left_any _ _ _ _ _ _ _ _ h h0 h1 hn).mono ?_
      rintro e w2 ⟨rfl, k, rfl⟩
      go_wp2_with fail
      refine (good_any _ _ _ _ _ _ (h.drewN k)).mono ?_
      rintro e w3 ⟨rfl, hb3⟩
      have h3 := (h.drewN k).below hb3
      obtain ⟨c0, c1, c2, c3⟩ := h3.cells
      have f1 := h3.free 1
      clear c0 c2 c3
      go_wp2
      go_ret
      exact ⟨true, p + x, 0, q, rfl, ((Kp.drewN _ _ _).trans (Kp.of_below hb3)).trans (Kp.setCell _ _ _ _), h3.set1 _, .inr (.inr (.inr ⟨rfl, by omega, by omega, rfl, rfl, rfl, rfl⟩))⟩

theorem skip_any (b : Nat) (a : Option Addr) (n m : Nat) (p c q x : Int) (w : World) (h : IsRd w b (.slice a n m) p c q) (h0 : 0 ≤ p) (h1 : p ≤ n) (hn : n ≤ 1000000) :
    Calls Try.prog 92 #[.pointer (some ⟨b, 0, none⟩), .int .i64 x] w (SkipPost b (.slice a n m) n p c q x w) := by
  by_cases hc : c = 0
  · subst hc; exact skip_good b a n m p q x w h h0 h1 hn
  · exact skip_bad b a n m p c q x w h h0 h1 hn (by simpa using hc)

set_option maxHeartbeats 400000 in
theorem skip_none (x : Int) (w : World) :
    Calls Try.prog 92 #[.pointer none, .int .i64 x] w fun e w' => e = .returned (.bool false) ∧ Below w.heap.size w w' := by
  by_cases hx : x < 0
  · go_enter Try.func92, Try.ntmps92
    go_wp2_with fail
    refine (at_none _).mono ?_
    rintro e w0 ⟨rfl, rfl⟩
    go_wp2_with fail
    refine (fail_none _ _ _).mono ?_
    rintro e w1 ⟨rfl, hb1⟩
    go_wp2_with fail
    refine (left_none _).mono ?_
    rintro e w2 ⟨rfl, rfl⟩
    go_wp2_with fail
    refine (good_none _).mono ?_
    rintro e w3 ⟨rfl, hb3⟩
    go_wp2
    go_ret
    exact ⟨rfl, hb1.trans (hb3.mono hb1.size)⟩
  · by_cases hy : 0 < x
    · go_enter Try.func92, Try.ntmps92
      go_wp2_with fail
      refine (left_none _).mono ?_
      rintro e w2 ⟨rfl, rfl⟩
      go_wp2_with fail
      refine (at_none _).mono ?_
      rintro e w0 ⟨rfl, rfl⟩
      go_wp2_with fail
      refine (left_none _).mono ?_
      rintro e w2 ⟨rfl, rfl⟩
      go_wp2_with fail
      refine (fail_none _ _ _).mono ?_
      rintro e w1 ⟨rfl, hb1⟩
      go_wp2_with fail
      refine (good_none _).mono ?_
      rintro e w3 ⟨rfl, hb3⟩
      go_wp2
      go_ret
      exact ⟨rfl, hb1.trans (hb3.mono hb1.size)⟩
    · go_enter Try.func92, Try.ntmps92
      go_wp2_with fail
      refine (left_none _).mono ?_
      rintro e w2 ⟨rfl, rfl⟩
      go_wp2_with fail
      refine (good_none _).mono ?_
      rintro e w3 ⟨rfl, hb3⟩
      go_wp2
      go_ret
      exact ⟨rfl, hb3⟩

def EndPost (b : Nat) (s : Value) (n : Nat) (p c q : Int) (w : World) (e : Ending) (w' : World) : Prop :=
  ∃ c' q', e = .returned (.tuple #[]) ∧ Kp b w w' ∧ IsRd w' b s p c' q' ∧ (if c = 0 ∧ p < n then c' = 9 ∧ q' = p else c' = c ∧ q' = q)

set_option maxHeartbeats 400000 in
theorem new_any (a : Option Addr) (n m : Nat) (w : World) (hm : n ≤ m) :
    Calls Try.prog 15 #[.slice a n m] w fun e w' => e = .returned (.pointer (some ⟨w.heap.size, 0, none⟩)) ∧ Below w.heap.size w w' ∧ w'.heap.size = w.heap.size + 1 ∧ IsRd w' w.heap.size (.slice a n n) 0 0 0 := by
  go_enter Try.func15, Try.ntmps15
  go_wp2
  go_ret
  exact ⟨rfl, (Below.refl _ _).alloc (Nat.le_refl _) _, by simp, heap_alloc_new _ _⟩
def FailSt (c q c' q' c2 q2 : Int) : Prop := (c = 0 ∧ c2 = c' ∧ q2 = fq c' q') ∨ (c ≠ 0 ∧ c2 = c ∧ q2 = q)
theorem FailSt.det {c q c' q' c2 q2 c3 q3 : Int} (h : FailSt c q c' q' c2 q2) (k : FailSt c q c' q' c3 q3) : c2 = c3 ∧ q2 = q3 := by
  rcases h with ⟨a, rfl, rfl⟩ | ⟨a, rfl, rfl⟩ <;> rcases k with ⟨b, rfl, rfl⟩ | ⟨b, rfl, rfl⟩ <;> first | exact ⟨rfl, rfl⟩ | exact absurd a b | exact absurd b a
def FailPost (b : Nat) (s : Value) (p c q c' q' : Int) (w : World) (e : Ending) (w' : World) : Prop := ∃ c2 q2, e = .returned (.tuple #[]) ∧ Kp b w w' ∧ IsRd w' b s p c2 q2 ∧ FailSt c q c' q' c2 q2
theorem fail_any (b : Nat) (s : Value) (p c q c' q' : Int) (w : World) (h : IsRd w b s p c q) :
    Calls Try.prog 69 #[.pointer (some ⟨b, 0, none⟩), .int .i64 c', .int .i64 q'] w (FailPost b s p c q c' q' w) := by
  by_cases hc : c = 0
  · subst hc
    exact (fail_yes b s p q c' q' w h).mono fun e w' ⟨he, hk, hr⟩ => ⟨_, _, he, hk, hr, .inl ⟨rfl, rfl, rfl⟩⟩
  · exact (fail_no b s p c q c' q' w h (by simpa using hc)).mono fun e w' ⟨he, hb⟩ => ⟨_, _, he, Kp.of_below hb, h.below hb, .inr ⟨hc, rfl, rfl⟩⟩
end Go.Proofs.Ytoeedhdckccajaa.Cur

namespace Go.Proofs.Ytoeedhdckccajaa.Cur
open Go.RowKit
set_option linter.unusedVariables false

/-- A new row of bytes at block g, which did not lie in w. -/
def CutPost (z : List Int) (f k : Nat) (w : World) (e : Ending) (w' : World) : Prop :=
  ∃ g, e = .returned (.slice (some ⟨g, 0, none⟩) (k - f) (k - f)) ∧ w.heap.size ≤ g ∧ Below w.heap.size w w' ∧ w'.heap[g]? = some (.cells ((piece z f k).map (Value.int .u8)).toArray 5 (0, 0))

end Go.Proofs.Ytoeedhdckccajaa.Cur

namespace Go.Proofs.Ytoeedhdckccajaa.Cur
open Go.RowKit
set_option linter.unusedVariables false

/-- What Take hands back: a new row of bytes, or nil. -/
def TakePost (b : Nat) (s : Value) (n : Nat) (z : List Int) (p c q x : Int) (w : World) (e : Ending) (w' : World) : Prop :=
  ∃ ok p' c' q', Kp b w w' ∧ IsRd w' b s p' c' q' ∧ SkipSt n p c q x ok p' c' q' ∧
    ((ok = true ∧ ∃ g, e = .returned (.slice (some ⟨g, 0, none⟩) x.toNat x.toNat) ∧ w.heap.size ≤ g ∧ w'.heap[g]? = some (.cells ((piece z p.toNat (p + x).toNat).map (Value.int .u8)).toArray 5 (0, 0))) ∨
     (ok = false ∧ e = .returned (.slice none 0 0)))

/-- What Byte hands back. -/
def BytePost (b : Nat) (s : Value) (n : Nat) (z : List Int) (p c q : Int) (w : World) (e : Ending) (w' : World) : Prop :=
  ∃ ok p' c' q', Kp b w w' ∧ IsRd w' b s p' c' q' ∧ SkipSt n p c q 1 ok p' c' q' ∧ e = .returned (.int .u8 (if ok = true then z.getD p.toNat 0 else 0))

set_option maxHeartbeats 400000 in
theorem byte_any (b : Nat) (a : Option Addr) (n m : Nat) (z : List Int) (p c q : Int) (w : World) (h : IsRd w b (.slice a n m) p c q) (hz : Bs w a n z) (h0 : 0 ≤ p) (h1 : p ≤ n) (hn : n ≤ 1000000) :
    Calls Try.prog 91 #[.pointer (some ⟨b, 0, none⟩)] w (BytePost b (.slice a n m) n z p c q w) := by
  obtain ⟨k, rfl⟩ := Int.eq_ofNat_of_zero_le h0
  go_enter Try.func91, Try.ntmps91
  go_wp2_with fail
  refine (skip_any _ _ _ _ _ _ _ _ _ h h0 h1 hn).mono ?_
  rintro e w1 ⟨ok, p', c', q', rfl, hk, h2, hs⟩
  have HS := Lib.hid hs
  clear hs
  cases ok
  · go_wp2
    go_ret
    exact ⟨false, p', c', q', hk, h2, HS.out, rfl⟩
  · have hz2 := hz.kp h (by simp) hk
    have hx : (1 : Int) ≤ n - k ∧ p' = k + 1 := by
      rcases HS.out with ⟨_, h, _⟩ | ⟨_, _, h, _⟩ | ⟨_, _, h, _⟩ | ⟨_, _, a3, _, a4, _⟩
      · cases h
      · cases h
      · cases h
      · exact ⟨a3, a4⟩
    obtain ⟨x1, rfl⟩ := hx
    obtain ⟨d0, d1, d2, d3⟩ := h2.cells
    clear d2 d3
    obtain ⟨g, o, rfl, hcell⟩ := hz2.at_ (k := k) (by omega)
    have k1 : (k : Int) < n := by omega
    go_wp2
    go_quiet (fail)
    go_wp2
    go_ret
    exact ⟨true, k + 1, c', q', hk.trans (Kp.drewN _ _ _), h2, HS.out, rfl⟩

set_option maxHeartbeats 400000 in
theorem byte_none (w : World) :
    Calls Try.prog 91 #[.pointer none] w fun e w' => e = .returned (.int .u8 0) ∧ Below w.heap.size w w' := by
  go_enter Try.func91, Try.ntmps91
  go_wp2_with fail
  refine (skip_none _ _).mono ?_
  rintro e w1 ⟨rfl, hb1⟩
  go_wp2
  go_ret
  exact ⟨rfl, hb1⟩

/-- What Since hands back. -/
def SincePost (z : List Int) (p f : Int) (w : World) (e : Ending) (w' : World) : Prop :=
  Below w.heap.size w w' ∧ ((0 ≤ f ∧ f ≤ p ∧ ∃ g, e = .returned (.slice (some ⟨g, 0, none⟩) (p.toNat - f.toNat) (p.toNat - f.toNat)) ∧ w.heap.size ≤ g ∧ w'.heap[g]? = some (.cells ((piece z f.toNat p.toNat).map (Value.int .u8)).toArray 5 (0, 0))) ∨
    ((f < 0 ∨ p < f) ∧ e = .returned (.slice none 0 0)))

end Go.Proofs.Ytoeedhdckccajaa.Cur

namespace Go.Proofs.Ytoeedhdckccajaa.Cur
open Go.RowKit
set_option linter.unusedVariables false

def NewPost (a : Option Addr) (n : Nat) (w : World) (e : Ending) (w' : World) : Prop :=
  ∃ b, e = .returned (.pointer (some ⟨b, 0, none⟩)) ∧ w.heap.size ≤ b ∧ Below w.heap.size w w' ∧ IsRd w' b (.slice a n n) 0 0 0
theorem new_some (a : Option Addr) (n m : Nat) (w : World) (hm : n ≤ m) : Calls Try.prog 15 #[.slice a n m] w (NewPost a n w) :=
  (new_any a n m w hm).mono fun _ _ ⟨he, hb, _, hr⟩ => ⟨_, he, Nat.le_refl _, hb, hr⟩

theorem skip_yes {n : Nat} {p q x : Int} {ok : Bool} {p' c' q' : Int} (h : SkipSt n p 0 q x ok p' c' q') (h0 : 0 ≤ x) (h1 : x ≤ n - p) : ok = true ∧ p' = p + x ∧ c' = 0 ∧ q' = q := by
  rcases h with ⟨h, _⟩ | ⟨_, h, _⟩ | ⟨_, h, _⟩ | ⟨_, _, _, a, b, c, d⟩
  · exact absurd rfl h
  · omega
  · omega
  · exact ⟨a, b, c, d⟩
theorem skip_over {n : Nat} {p q x : Int} {ok : Bool} {p' c' q' : Int} (h : SkipSt n p 0 q x ok p' c' q') (h0 : 0 ≤ x) (h1 : (n : Int) - p < x) : ok = false ∧ p' = p ∧ c' = 1 ∧ q' = n := by
  rcases h with ⟨h, _⟩ | ⟨_, h, _⟩ | ⟨_, _, a, b, c, d⟩ | ⟨_, _, h, _⟩
  · exact absurd rfl h
  · omega
  · exact ⟨a, b, c, d⟩
  · omega

end Go.Proofs.Ytoeedhdckccajaa.Cur

namespace Go.Proofs.Ytoeedhdckccajaa.Cur
open Go.RowKit
set_option linter.unusedVariables false

theorem Own.ne_rd {w : World} {B b : Nat} {v s : Value} {z : List Int} {p c q : Int} (h : Own w B v z) (hr : IsRd w b s p c q) : v.ownBlock ≠ some b := by
  rcases h.2 with ⟨rfl, _⟩ | ⟨g, cap, cur, rfl, _, hh, _⟩
  · simp [Value.ownBlock]
  · intro he
    have : g = b := by simpa [Value.ownBlock] using he
    subst this
    unfold IsRd at hr
    rw [hh] at hr
    simp at hr
theorem Own.kp {w w' : World} {B b : Nat} {v s : Value} {z : List Int} {p c q : Int} (h : Own w B v z) (hr : IsRd w b s p c q) (hb : Kp b w w') : Own w' B v z :=
  h.block fun k hk => hb.block k (World.ownsRow.lt h k hk).2 (fun e => h.ne_rd hr (by rw [hk, e]))
theorem IsRd.grown {w w' : World} {b B : Nat} {s v : Value} {p c q : Int} {z : List Int} (h : IsRd w b s p c q) (hown : Own w B v z) (hg : w.grownBy w' v.ownBlock) : IsRd w' b s p c q :=
  (hg.block b h.lt (fun e => hown.ne_rd h e.symm)).trans h
def TakenPost (b : Nat) (s : Value) (z : List Int) (p q x : Int) (w : World) (e : Ending) (w' : World) : Prop :=
  ∃ g, e = .returned (.slice (some ⟨g, 0, none⟩) x.toNat x.toNat) ∧ w.heap.size ≤ g ∧ Kp b w w' ∧ IsRd w' b s (p + x) 0 q ∧ Bs w' (some ⟨g, 0, none⟩) x.toNat (piece z p.toNat (p + x).toNat)

end Go.Proofs.Ytoeedhdckccajaa.Cur

namespace Go.Proofs.Ytoeedhdckccajaa.Cur
open Go.RowKit Go.ChangeShapes Go.WideShapes
set_option linter.unusedVariables false

section
variable {H : Type} {enc : TypeId × Value → H} {w : World} {base : Nat} {v : Value} {d : DataW H} {p : List MemPlace}

/-- At an address lie n calls: kind, number, place of each. -/
def IsDos (w : World) (A : Option Addr) (n : Nat) : Prop :=
  ∀ i, i < n → ∃ b o x y u, A = some ⟨b, o, none⟩ ∧ w.cell? ⟨b, o + i * 3, none⟩ = some (.int .i64 x) ∧ w.cell? ⟨b, o + i * 3 + 1, none⟩ = some (.int .i64 y) ∧ w.cell? ⟨b, o + i * 3 + 2, none⟩ = some (.int .i64 u) ∧
    (Lit.int .i64 x).wf = true ∧ (Lit.int .i64 y).wf = true ∧ (Lit.int .i64 u).wf = true

theorem IsDos.below {w w' : World} {A : Option Addr} {n : Nat} (h : IsDos w A n) (hb : Below w.heap.size w w') : IsDos w' A n := fun i hi => by
  obtain ⟨b, o, x, y, u, e, h0, h1, h2, r⟩ := h i hi
  exact ⟨b, o, x, y, u, e, (hb.cell (lt_of_cell h0)).trans h0, (hb.cell (lt_of_cell h1)).trans h1, (hb.cell (lt_of_cell h2)).trans h2, r⟩

theorem addr_flat {b o i j : Nat} : ((⟨b, o, none⟩ : Addr).add (i * 3)).add j = ⟨b, o + i * 3 + j, none⟩ := by
  rw [addr_add_add]
  unfold Addr.add
  split
  · rename_i h
    have h1 : o + i * 3 + j = o := by omega
    rw [h1]
  · simp [Nat.add_assoc]

end

/-! ### A reader that has a fault: nothing is read, and it stays as it is. -/
def Stays (b : Nat) (s : Value) (p c q : Int) (w w' : World) : Prop := Kp b w w' ∧ IsRd w' b s p c q

theorem skip_stays (b : Nat) (a : Option Addr) (n m : Nat) (p c q x : Int) (w : World) (h : IsRd w b (.slice a n m) p c q) (h0 : 0 ≤ p) (h1 : p ≤ n) (hn : n ≤ 1000000) (hc : c ≠ 0) :
    Calls Try.prog 92 #[.pointer (some ⟨b, 0, none⟩), .int .i64 x] w fun e w' => e = .returned (.bool false) ∧ Stays b (.slice a n m) p c q w w' :=
  (skip_any b a n m p c q x w h h0 h1 hn).mono fun e w' ⟨ok, p', c', q', he, hk, hr, hs⟩ => by
    rcases hs with ⟨_, rfl, rfl, rfl, rfl⟩ | ⟨h, _⟩ | ⟨h, _⟩ | ⟨h, _⟩
    · exact ⟨he, hk, hr⟩
    · exact absurd h hc
    · exact absurd h hc
    · exact absurd h hc
theorem byte_stays (b : Nat) (a : Option Addr) (n m : Nat) (z : List Int) (p c q : Int) (w : World) (h : IsRd w b (.slice a n m) p c q) (hz : Bs w a n z) (h0 : 0 ≤ p) (h1 : p ≤ n) (hn : n ≤ 1000000) (hc : c ≠ 0) :
    Calls Try.prog 91 #[.pointer (some ⟨b, 0, none⟩)] w fun e w' => e = .returned (.int .u8 0) ∧ Stays b (.slice a n m) p c q w w' :=
  (byte_any b a n m z p c q w h hz h0 h1 hn).mono fun e w' ⟨ok, p', c', q', hk, hr, hs, he⟩ => by
    rcases hs with ⟨_, rfl, rfl, rfl, rfl⟩ | ⟨h, _⟩ | ⟨h, _⟩ | ⟨h, _⟩
    · exact ⟨he, hk, hr⟩
    · exact absurd h hc
    · exact absurd h hc
    · exact absurd h hc
theorem fail_stays (b : Nat) (s : Value) (p c q c' q' : Int) (w : World) (h : IsRd w b s p c q) (hc : c ≠ 0) :
    Calls Try.prog 69 #[.pointer (some ⟨b, 0, none⟩), .int .i64 c', .int .i64 q'] w fun e w' => e = .returned (.tuple #[]) ∧ Stays b s p c q w w' :=
  (fail_no b s p c q c' q' w h (by simpa using hc)).mono fun e w' ⟨he, hb⟩ => ⟨he, Kp.of_below hb, h.below hb⟩
end Go.Proofs.Ytoeedhdckccajaa.Cur

namespace Go.Proofs.Ytoeedhdckccajaa.Cur
open Go.RowKit Mem
set_option linter.unusedVariables false

/-- The document's reader as a value. -/
abbrev cv (s : Value) (p c q : Int) : Value := .agg #[s, .int .i64 p, .int .i64 c, .int .i64 q]

set_option maxHeartbeats 400000 in
theorem rat_any (c q : Int) (w : World) :
    Calls Try.prog 87 #[.int .i64 c, .int .i64 q] w fun e w' => e = .returned (.agg #[.int .i64 c, .int .i64 (fq c q)]) ∧ Below w.heap.size w w' := by
  by_cases hc : c = 0
  · obtain rfl := hc
    go_enter Try.func87, Try.ntmps87
    go_wp2
    refine bodyPost_ret (v := .agg #[.int .i64 0, .int .i64 0]) (by simp [results, Try.results87, go_sem]) rfl ⟨rfl, ?_⟩
    exact (((Below.refl _ _).alloc (Nat.le_refl _) _).alloc (by simp) _)
  · have hb : (c != 0) = true := by simp [hc]
    have e : fq c q = q := by simp [fq, hc]
    rw [e]
    clear e
    go_enter Try.func87, Try.ntmps87
    go_wp2
    refine bodyPost_ret (v := .agg #[.int .i64 c, .int .i64 q]) (by simp [results, Try.results87, go_sem]) rfl ⟨rfl, ?_⟩
    exact (((Below.refl _ _).alloc (Nat.le_refl _) _).alloc (by simp) _)

set_option maxHeartbeats 400000 in
theorem rfail_yes (s : Value) (p q c' q' : Int) (w : World) (hs : ∃ A n m, s = .slice A n m) :
    Calls Try.prog 73 #[cv s p 0 q, .int .i64 c', .int .i64 q'] w fun e w' => e = .returned (cv s p c' (fq c' q')) ∧ Below w.heap.size w w' := by
  obtain ⟨A, n, m, rfl⟩ := hs
  go_enter Try.func73, Try.ntmps73
  go_wp2_with fail
  refine (rat_any _ _ _).mono ?_
  rintro e w1 ⟨rfl, hb⟩
  obtain ⟨h0, h1, hb⟩ := two_new hb
  obtain ⟨c0, c1, c2, c3⟩ := h0.c4
  obtain ⟨f0, f1, f2, f3⟩ := h0.f4
  obtain ⟨d0, d1, d2, d3⟩ := h1.c4
  obtain ⟨g0, g1, g2, g3⟩ := h1.f4
  clear f0 f1
  go_wp2
  refine bodyPost_ret (v := cv (.slice A n m) p c' (fq c' q')) (by simp [results, Try.results73, go_sem, d0, d1, d2, d3]) rfl ⟨rfl, ?_⟩
  iterate 6 (refine Below.setCell ?_ (by simp) _)
  exact hb

set_option maxHeartbeats 400000 in
theorem rfail_no (s : Value) (p c q c' q' : Int) (w : World) (hs : ∃ A n m, s = .slice A n m) (hc : (c == 0) = false) :
    Calls Try.prog 73 #[cv s p c q, .int .i64 c', .int .i64 q'] w fun e w' => e = .returned (cv s p c q) ∧ Below w.heap.size w w' := by
  obtain ⟨A, n, m, rfl⟩ := hs
  go_enter Try.func73, Try.ntmps73
  go_wp2
  refine bodyPost_ret (v := cv (.slice A n m) p c q) (by simp [results, Try.results73, go_sem]) rfl ⟨rfl, ?_⟩
  exact below_two _ _ _

/-- What the document's End does. -/
def REndPost (s : Value) (n : Nat) (p c q : Int) (w : World) (e : Ending) (w' : World) : Prop :=
  ∃ c' q', e = .returned (cv s p c' q') ∧ Below w.heap.size w w' ∧ (if c = 0 ∧ p < n then c' = 9 ∧ q' = p else c' = c ∧ q' = q)

/-- The place up to which a part goes, from p on. -/
def partEnd (n : Nat) (p x : Int) : Nat := (p + (if (n : Int) - p < (if x < 0 then 0 else x) then (n : Int) - p else (if x < 0 then 0 else x))).toNat

theorem partEnd_le (n : Nat) (p x : Int) (h0 : 0 ≤ p) (h1 : p ≤ n) : p.toNat ≤ partEnd n p x ∧ partEnd n p x ≤ n := by
  unfold partEnd
  constructor <;> (repeat' split) <;> omega

def RPartPost (A : Option Addr) (n m : Nat) (p x : Int) (w : World) (e : Ending) (w' : World) : Prop :=
  e = .returned (cv (.slice A (partEnd n p x) m) p 0 0) ∧ Below w.heap.size w w'

/-- What the document's Take hands back. -/
def RTakePost (s : Value) (n : Nat) (z : List Int) (p c q x : Int) (w : World) (e : Ending) (w' : World) : Prop :=
  ∃ ok p' c' q' A k m, e = .returned (.tuple #[cv s p' c' q', .slice A k m]) ∧ Below w.heap.size w w' ∧ SkipSt n p c q x ok p' c' q' ∧ Bs w' A k (if ok = true then piece z p.toNat (p + x).toNat else []) ∧ k ≤ m

def PartPost (a : Option Addr) (k : Nat) (p : Int) (w : World) (e : Ending) (w' : World) : Prop :=
  ∃ g, e = .returned (.pointer (some ⟨g, 0, none⟩)) ∧ w.heap.size ≤ g ∧ Below w.heap.size w w' ∧ IsRd w' g (.slice a k k) p 0 0

def RFailPost (s : Value) (p c q c' q' : Int) (w : World) (e : Ending) (w' : World) : Prop := ∃ c2 q2, e = .returned (cv s p c2 q2) ∧ Below w.heap.size w w' ∧ FailSt c q c' q' c2 q2
theorem rfail_any (A : Option Addr) (n m : Nat) (p c q c' q' : Int) (w : World) :
    Calls Try.prog 73 #[cv (.slice A n m) p c q, .int .i64 c', .int .i64 q'] w (RFailPost (.slice A n m) p c q c' q' w) := by
  by_cases hc : c = 0
  · subst hc
    exact (rfail_yes _ p q c' q' w ⟨_, _, _, rfl⟩).mono fun e w' ⟨he, hb⟩ => ⟨_, _, he, hb, .inl ⟨rfl, rfl, rfl⟩⟩
  · exact (rfail_no _ p c q c' q' w ⟨_, _, _, rfl⟩ (by simpa using hc)).mono fun e w' ⟨he, hb⟩ => ⟨_, _, he, hb, .inr ⟨hc, rfl, rfl⟩⟩
end Go.Proofs.Ytoeedhdckccajaa.Cur
