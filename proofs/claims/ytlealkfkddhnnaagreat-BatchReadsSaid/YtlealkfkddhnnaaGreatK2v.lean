/- As the seat's text, without what nothing here names. -/
import Derived.Test.YtlealkfkddhnnaaGreatK1v
import Derived.WalkKit
import Derived.WalkSpells
import Derived.WalkLawsBesides
import Derived.OneCell
import Derived.Lib.Hide
import Derived.Deep.QuietTactic
import Derived.BigQuiet
import Derived.Deep.Draws
import Derived.Laws.CopyOwn
import Derived.Deep.RegionLaw
import Derived.Deep.RegionWith
import Derived.Laws.BytesArg
import Derived.Maps.AppendAt
import Derived.Laws.AppendOwnNone
import Derived.Deep.Slices
import Derived.Deep.Strs
import Derived.ProofKit
import Derived.OpenShut
import Derived.Deep.RegionHeld3
import Derived.Outline
namespace Go.Proofs.YtlealkfkddhnnaaGreat.Cur
open Go.RowKit
set_option linter.unusedVariables false
def IsRd (w : World) (b : Nat) (s : Value) (p c q : Int) : Prop :=
  w.heap[b]? = some (.cells #[s, .int .i64 p, .int .i64 c, .int .i64 q] 80 (0, 0))
theorem IsRd.cells {w : World} {b : Nat} {s : Value} {p c q : Int} (h : IsRd w b s p c q) :
    w.cell? ⟨b, 0, none⟩ = some s ∧ w.cell? ⟨b, 1, none⟩ = some (.int .i64 p) ∧ w.cell? ⟨b, 2, none⟩ = some (.int .i64 c) ∧ w.cell? ⟨b, 3, none⟩ = some (.int .i64 q) := by
  unfold IsRd at h
  simp [World.cell?, h]
theorem IsRd.free {w : World} {b : Nat} {s : Value} {p c q : Int} (h : IsRd w b s p c q) (o : Nat) : w.frozen? ⟨b, o, none⟩ = false := by
  unfold IsRd at h
  simp [World.frozen?, h]
theorem IsRd.lt {w : World} {b : Nat} {s : Value} {p c q : Int} (h : IsRd w b s p c q) : b < w.heap.size := lt_of_block h
theorem IsRd.below {w w' : World} {b : Nat} {s : Value} {p c q : Int} (h : IsRd w b s p c q) (hb : Below w.heap.size w w') : IsRd w' b s p c q := (hb.block b h.lt).trans h
theorem IsRd.kp {w w' : World} {b k : Nat} {s : Value} {p c q : Int} (h : IsRd w b s p c q) (hb : Kp k w w') (hk : b ≠ k) : IsRd w' b s p c q := (hb.block b h.lt hk).trans h
theorem IsRd.set1 {w : World} {b : Nat} {s : Value} {p c q : Int} (h : IsRd w b s p c q) (x : Int) : IsRd (w.setCell ⟨b, 1, none⟩ (.int .i64 x)) b s x c q := by
  unfold IsRd at h ⊢
  simp [World.setCell, Array.getElem?_modify, h]
theorem IsRd.set2 {w : World} {b : Nat} {s : Value} {p c q : Int} (h : IsRd w b s p c q) (x : Int) : IsRd (w.setCell ⟨b, 2, none⟩ (.int .i64 x)) b s p x q := by
  unfold IsRd at h ⊢
  simp [World.setCell, Array.getElem?_modify, h]
theorem IsRd.set3 {w : World} {b : Nat} {s : Value} {p c q : Int} (h : IsRd w b s p c q) (x : Int) : IsRd (w.setCell ⟨b, 3, none⟩ (.int .i64 x)) b s p c x := by
  unfold IsRd at h ⊢
  simp [World.setCell, Array.getElem?_modify, h]
theorem Bs.kp {w w' : World} {A : Option Addr} {n : Nat} {z : List Int} {b : Nat} {s : Value} {p c q : Int} (h : Bs w A n z) (hr : IsRd w b (s) p c q) (hs : ∀ x, s ≠ .int .u8 x) (hb : Kp b w w') : Bs w' A n z :=
  h.keep fun k o x hc => by
    have hne : k ≠ b := by
      rintro rfl
      unfold IsRd at hr
      simp only [World.cell?, hr] at hc
      match o, hc with
      | 0, hc => simp at hc; exact hs x hc
      | 1, hc => simp at hc
      | 2, hc => simp at hc
      | 3, hc => simp at hc
      | o + 4, hc => simp at hc
    exact (World.cell?_of_block (w := w) (hb.block k (lt_of_cell hc) hne)).trans hc
set_option maxHeartbeats 400000 in
theorem at_any (b : Nat) (s : Value) (p c q : Int) (w : World) (h : IsRd w b s p c q) :
    Calls Tryz.prog 90 #[.pointer (some ⟨b, 0, none⟩)] w fun e w' => e = .returned (.int .i64 p) ∧ w = w' := by
  obtain ⟨c0, c1, c2, c3⟩ := h.cells
  clear c0 c2 c3 h
  go_enter Tryz.func90, Tryz.ntmps90
  go_wp2
  go_ret
  exact ⟨rfl, rfl⟩
set_option maxHeartbeats 400000 in
theorem left_any (b : Nat) (a : Option Addr) (n m : Nat) (p c q : Int) (w : World) (h : IsRd w b (.slice a n m) p c q) (h0 : 0 ≤ p) (h1 : p ≤ n) (hn : n ≤ 1000000) :
    Calls Tryz.prog 136 #[.pointer (some ⟨b, 0, none⟩)] w fun e w' => e = .returned (.int .i64 (n - p)) ∧ ∃ k, w' = w.drewN k := by
  obtain ⟨c0, c1, c2, c3⟩ := h.cells
  clear c2 c3 h
  go_enter Tryz.func136, Tryz.ntmps136
  go_wp2
  go_quiet (fail)
  go_wp2
  go_ret
  exact ⟨rfl, nq, rfl⟩
def fq (c q : Int) : Int := if c = 0 then 0 else q
set_option maxHeartbeats 400000 in
theorem fat_any (c q : Int) (w : World) :
    Calls Tryz.prog 62 #[.int .i64 c, .int .i64 q] w fun e w' => e = .returned (.agg #[.int .i64 c, .int .i64 (fq c q)]) ∧ Below w.heap.size w w' := by
  by_cases hc : c = 0
  · obtain rfl := hc
    go_enter Tryz.func62, Tryz.ntmps62
    go_wp2
    exact bodyPost_ret (v := .agg #[.int .i64 0, .int .i64 0]) (by simp [results, Tryz.results62, go_sem]) rfl ⟨rfl, (Below.refl _ _).alloc (Nat.le_refl _) _⟩
  · have hb : (c == 0) = false := by simp [hc]
    have e : fq c q = q := by simp [fq, hc]
    rw [e]
    clear e
    go_enter Tryz.func62, Tryz.ntmps62
    go_wp2
    exact bodyPost_ret (v := .agg #[.int .i64 c, .int .i64 q]) (by simp [results, Tryz.results62, go_sem]) rfl ⟨rfl, (Below.refl _ _).alloc (Nat.le_refl _) _⟩
set_option maxHeartbeats 400000 in
theorem fgood_any (c q : Int) (w : World) :
    Calls Tryz.prog 104 #[.agg #[.int .i64 c, .int .i64 q]] w fun e w' => e = .returned (.bool (c == 0)) ∧ Below w.heap.size w w' := by
  go_enter Tryz.func104, Tryz.ntmps104
  go_wp2
  go_ret
  exact ⟨rfl, (Below.refl _ _).alloc (Nat.le_refl _) _⟩
set_option maxHeartbeats 400000 in
theorem fault_any (b : Nat) (s : Value) (p c q : Int) (w : World) (h : IsRd w b s p c q) :
    Calls Tryz.prog 26 #[.pointer (some ⟨b, 0, none⟩)] w fun e w' => e = .returned (.agg #[.int .i64 c, .int .i64 q]) ∧ Below w.heap.size w w' := by
  have hl := h.lt
  obtain ⟨c0, c1, c2, c3⟩ := h.cells
  clear c0 c1 h
  go_enter Tryz.func26, Tryz.ntmps26
  go_wp2
  exact bodyPost_ret (v := .agg #[.int .i64 c, .int .i64 q]) (by simp [results, Tryz.results26, go_sem]) rfl ⟨rfl, (Below.refl _ _).alloc (Nat.le_refl _) _⟩
set_option maxHeartbeats 400000 in
theorem good_any (b : Nat) (s : Value) (p c q : Int) (w : World) (h : IsRd w b s p c q) :
    Calls Tryz.prog 93 #[.pointer (some ⟨b, 0, none⟩)] w fun e w' => e = .returned (.bool (c == 0)) ∧ Below w.heap.size w w' := by
  go_enter Tryz.func93, Tryz.ntmps93
  go_wp2_with (first | (go_at_call 26; refine (fault_any _ _ _ _ _ _ h).mono ?_; rintro e w1 ⟨rfl, hb⟩) | (go_at_call 104; refine (fgood_any _ _ _).mono ?_; rintro e w2 ⟨rfl, hb2⟩))
  go_ret
  exact ⟨rfl, hb.trans (hb2.mono hb.size)⟩
set_option maxHeartbeats 400000 in
theorem fail_yes (b : Nat) (s : Value) (p q c' q' : Int) (w : World) (h : IsRd w b s p 0 q) :
    Calls Tryz.prog 92 #[.pointer (some ⟨b, 0, none⟩), .int .i64 c', .int .i64 q'] w fun e w' => e = .returned (.tuple #[]) ∧ Kp b w w' ∧ IsRd w' b s p c' (fq c' q') := by
  go_enter Tryz.func92, Tryz.ntmps92
  go_wp2_with fail
  refine (good_any _ _ _ _ _ _ h).mono ?_
  rintro e w1 ⟨rfl, hb⟩
  have h1 := h.below hb
  go_wp2_with fail
  refine (fat_any _ _ _).mono ?_
  rintro e w2 ⟨rfl, hb2⟩
  have h2 := h1.below hb2
  obtain ⟨c0, c1, c2, c3⟩ := h2.cells
  have f2 := h2.free 2
  have f3 := h2.free 3
  clear c0 c1
  go_wp2
  go_end0
  exact ⟨rfl, ((Kp.of_below hb).trans (Kp.of_below hb2)).trans ((Kp.setCell _ _ _ _).trans (Kp.setCell _ _ _ _)), (h2.set2 _).set3 _⟩
set_option maxHeartbeats 400000 in
theorem fail_no (b : Nat) (s : Value) (p c q c' q' : Int) (w : World) (h : IsRd w b s p c q) (hc : (c == 0) = false) :
    Calls Tryz.prog 92 #[.pointer (some ⟨b, 0, none⟩), .int .i64 c', .int .i64 q'] w fun e w' => e = .returned (.tuple #[]) ∧ Below w.heap.size w w' := by
  go_enter Tryz.func92, Tryz.ntmps92
  go_wp2_with fail
  refine (good_any _ _ _ _ _ _ h).mono ?_
  rintro e w1 ⟨rfl, hb⟩
  go_wp2
  go_end0
  exact ⟨rfl, hb⟩
end Go.Proofs.YtlealkfkddhnnaaGreat.Cur
namespace Go.Proofs.YtlealkfkddhnnaaGreat.Cur
open Go.RowKit
set_option linter.unusedVariables false
def SkipSt (n : Nat) (p c q x : Int) (ok : Bool) (p' c' q' : Int) : Prop :=
  (c ≠ 0 ∧ ok = false ∧ p' = p ∧ c' = c ∧ q' = q) ∨
  (c = 0 ∧ x < 0 ∧ ok = false ∧ p' = p ∧ c' = 17 ∧ q' = p) ∨
  (c = 0 ∧ (n : Int) - p < x ∧ ok = false ∧ p' = p ∧ c' = 1 ∧ q' = n) ∨
  (c = 0 ∧ 0 ≤ x ∧ x ≤ n - p ∧ ok = true ∧ p' = p + x ∧ c' = c ∧ q' = q)
def SkipPost (b : Nat) (s : Value) (n : Nat) (p c q x : Int) (w : World) (e : Ending) (w' : World) : Prop :=
  ∃ ok p' c' q', e = .returned (.bool ok) ∧ Kp b w w' ∧ IsRd w' b s p' c' q' ∧ SkipSt n p c q x ok p' c' q'
theorem IsRd.drewN {w : World} {b : Nat} {s : Value} {p c q : Int} (h : IsRd w b s p c q) (k : Nat) : IsRd (w.drewN k) b s p c q := h
set_option maxHeartbeats 400000 in
theorem skip_bad (b : Nat) (a : Option Addr) (n m : Nat) (p c q x : Int) (w : World) (h : IsRd w b (.slice a n m) p c q) (h0 : 0 ≤ p) (h1 : p ≤ n) (hn : n ≤ 1000000) (hc : (c == 0) = false) :
    Calls Tryz.prog 152 #[.pointer (some ⟨b, 0, none⟩), .int .i64 x] w (SkipPost b (.slice a n m) n p c q x w) := by
  have hc' : c ≠ 0 := by simpa using hc
  have H := Lib.hid hc'
  clear hc'
  by_cases hx : x < 0
  · go_enter Tryz.func152, Tryz.ntmps152
    go_wp2_with fail
    refine (at_any _ _ _ _ _ _ h).mono ?_
    rintro e w0 ⟨rfl, rfl⟩
    go_wp2_with fail
    refine (fail_no _ _ _ _ _ _ _ _ h hc).mono ?_
    rintro e w1 ⟨rfl, hb1⟩
    have h2 := h.below hb1
    go_wp2_with fail
    refine (left_any _ _ _ _ _ _ _ _ h2 h0 h1 hn).mono ?_
    rintro e w2 ⟨rfl, k, rfl⟩
    go_wp2_with fail
    refine (good_any _ _ _ _ _ _ (h2.drewN k)).mono ?_
    rintro e w3 ⟨rfl, hb3⟩
    go_wp2
    go_ret
    exact ⟨false, p, c, q, rfl, ((Kp.of_below hb1).trans (Kp.drewN _ _ _)).trans (Kp.of_below hb3), (h2.drewN k).below hb3, .inl ⟨H.out, rfl, rfl, rfl, rfl⟩⟩
  · by_cases hy : (n : Int) - p < x
    · go_enter Tryz.func152, Tryz.ntmps152
      go_wp2_with fail
      refine (left_any _ _ _ _ _ _ _ _ h h0 h1 hn).mono ?_
      rintro e w2 ⟨rfl, k, rfl⟩
      go_wp2_with fail
      refine (at_any _ _ _ _ _ _ (h.drewN k)).mono ?_
      rintro e w0 ⟨rfl, rfl⟩
      go_wp2_with fail
      refine (left_any _ _ _ _ _ _ _ _ (h.drewN k) h0 h1 hn).mono ?_
      rintro e w2 ⟨rfl, k2, rfl⟩
      go_wp2_with fail
      refine (fail_no _ _ _ _ _ _ _ _ (h.drewN (k + k2)) hc).mono ?_
      rintro e w1 ⟨rfl, hb1⟩
      have h2 := (h.drewN (k + k2)).below hb1
      go_wp2_with fail
      refine (good_any _ _ _ _ _ _ h2).mono ?_
      rintro e w3 ⟨rfl, hb3⟩
      go_wp2
      go_ret
      exact ⟨false, p, c, q, rfl, ((Kp.drewN _ _ _).trans (Kp.of_below hb1)).trans (Kp.of_below hb3), h2.below hb3, .inl ⟨H.out, rfl, rfl, rfl, rfl⟩⟩
    · go_enter Tryz.func152, Tryz.ntmps152
      go_wp2_with fail
      refine (left_any _ _ _ _ _ _ _ _ h h0 h1 hn).mono ?_
      rintro e w2 ⟨rfl, k, rfl⟩
      go_wp2_with fail
      refine (good_any _ _ _ _ _ _ (h.drewN k)).mono ?_
      rintro e w3 ⟨rfl, hb3⟩
      go_wp2
      go_ret
      exact ⟨false, p, c, q, rfl, (Kp.drewN _ _ _).trans (Kp.of_below hb3), (h.drewN k).below hb3, .inl ⟨H.out, rfl, rfl, rfl, rfl⟩⟩
set_option maxHeartbeats 400000 in
theorem skip_good (b : Nat) (a : Option Addr) (n m : Nat) (p q x : Int) (w : World) (h : IsRd w b (.slice a n m) p 0 q) (h0 : 0 ≤ p) (h1 : p ≤ n) (hn : n ≤ 1000000) :
    Calls Tryz.prog 152 #[.pointer (some ⟨b, 0, none⟩), .int .i64 x] w (SkipPost b (.slice a n m) n p 0 q x w) := by
  by_cases hx : x < 0
  · go_enter Tryz.func152, Tryz.ntmps152
    go_wp2_with fail
    refine (at_any _ _ _ _ _ _ h).mono ?_
    rintro e w0 ⟨rfl, rfl⟩
    go_wp2_with fail
    refine (fail_yes _ _ _ _ _ _ _ h).mono ?_
    rintro e w1 ⟨rfl, hb1, h2⟩
    go_wp2_with fail
    refine (left_any _ _ _ _ _ _ _ _ h2 h0 h1 hn).mono ?_
    rintro e w2 ⟨rfl, k, rfl⟩
    go_wp2_with fail
    refine (good_any _ _ _ _ _ _ (h2.drewN k)).mono ?_
    rintro e w3 ⟨rfl, hb3⟩
    go_wp2
    go_ret
    exact ⟨false, p, 17, fq 17 p, rfl, (hb1.trans (Kp.drewN _ _ _)).trans (Kp.of_below hb3), (h2.drewN k).below hb3, .inr (.inl ⟨rfl, hx, rfl, rfl, rfl, by simp [fq]⟩)⟩
  · by_cases hy : (n : Int) - p < x
    · go_enter Tryz.func152, Tryz.ntmps152
      go_wp2_with fail
      refine (left_any _ _ _ _ _ _ _ _ h h0 h1 hn).mono ?_
      rintro e w2 ⟨rfl, k, rfl⟩
      go_wp2_with fail
      refine (at_any _ _ _ _ _ _ (h.drewN k)).mono ?_
      rintro e w0 ⟨rfl, rfl⟩
      go_wp2_with fail
      refine (left_any _ _ _ _ _ _ _ _ (h.drewN k) h0 h1 hn).mono ?_
      rintro e w2 ⟨rfl, k2, rfl⟩
      go_wp2_with fail
      refine (fail_yes _ _ _ _ _ _ _ (h.drewN (k + k2))).mono ?_
      rintro e w1 ⟨rfl, hb1, h2⟩
      go_wp2_with fail
      refine (good_any _ _ _ _ _ _ h2).mono ?_
      rintro e w3 ⟨rfl, hb3⟩
      go_wp2
      go_ret
      exact ⟨false, p, 1, fq 1 (p + (n - p)), rfl, ((Kp.drewN _ _ _).trans hb1).trans (Kp.of_below hb3), h2.below hb3, .inr (.inr (.inl ⟨rfl, hy, rfl, rfl, rfl, by simp [fq]; omega⟩))⟩
    · go_enter Tryz.func152, Tryz.ntmps152
      go_wp2_with fail
      refine (left_any _ _ _ _ _ _ _ _ h h0 h1 hn).mono ?_
      rintro e w2 ⟨rfl, k, rfl⟩
      go_wp2_with fail
      refine (good_any _ _ _ _ _ _ (h.drewN k)).mono ?_
      rintro e w3 ⟨rfl, hb3⟩
      have h3 := (h.drewN k).below hb3
      obtain ⟨c0, c1, c2, c3⟩ := h3.cells
      have f1 := h3.free 1
      clear c0 c2 c3
      go_wp2
      go_ret
      exact ⟨true, p + x, 0, q, rfl, ((Kp.drewN _ _ _).trans (Kp.of_below hb3)).trans (Kp.setCell _ _ _ _), h3.set1 _, .inr (.inr (.inr ⟨rfl, by omega, by omega, rfl, rfl, rfl, rfl⟩))⟩
theorem skip_any (b : Nat) (a : Option Addr) (n m : Nat) (p c q x : Int) (w : World) (h : IsRd w b (.slice a n m) p c q) (h0 : 0 ≤ p) (h1 : p ≤ n) (hn : n ≤ 1000000) :
    Calls Tryz.prog 152 #[.pointer (some ⟨b, 0, none⟩), .int .i64 x] w (SkipPost b (.slice a n m) n p c q x w) := by
  by_cases hc : c = 0
  · subst hc; exact skip_good b a n m p q x w h h0 h1 hn
  · exact skip_bad b a n m p c q x w h h0 h1 hn (by simpa using hc)
def EndPost (b : Nat) (s : Value) (n : Nat) (p c q : Int) (w : World) (e : Ending) (w' : World) : Prop :=
  ∃ c' q', e = .returned (.tuple #[]) ∧ Kp b w w' ∧ IsRd w' b s p c' q' ∧ (if c = 0 ∧ p < n then c' = 9 ∧ q' = p else c' = c ∧ q' = q)
set_option maxHeartbeats 400000 in
theorem end_any (b : Nat) (a : Option Addr) (n m : Nat) (p c q : Int) (w : World) (h : IsRd w b (.slice a n m) p c q) (h0 : 0 ≤ p) (h1 : p ≤ n) (hn : n ≤ 1000000) :
    Calls Tryz.prog 103 #[.pointer (some ⟨b, 0, none⟩)] w (EndPost b (.slice a n m) n p c q w) := by
  by_cases hp : p < n
  · have hp' : 0 < (n : Int) - p := by omega
    by_cases hc : c = 0
    · subst hc
      go_enter Tryz.func103, Tryz.ntmps103
      go_wp2_with fail
      refine (left_any _ _ _ _ _ _ _ _ h h0 h1 hn).mono ?_
      rintro e w2 ⟨rfl, k, rfl⟩
      go_wp2_with fail
      refine (at_any _ _ _ _ _ _ (h.drewN k)).mono ?_
      rintro e w0 ⟨rfl, rfl⟩
      go_wp2_with fail
      refine (fail_yes _ _ _ _ _ _ _ (h.drewN k)).mono ?_
      rintro e w1 ⟨rfl, hb1, h2⟩
      go_wp2
      go_end0
      exact ⟨9, fq 9 p, rfl, (Kp.drewN _ _ _).trans hb1, h2, by rw [if_pos ⟨rfl, hp⟩]; simp [fq]⟩
    · have hcb : (c == 0) = false := by simpa using hc
      have H := Lib.hid hc
      clear hc
      go_enter Tryz.func103, Tryz.ntmps103
      go_wp2_with fail
      refine (left_any _ _ _ _ _ _ _ _ h h0 h1 hn).mono ?_
      rintro e w2 ⟨rfl, k, rfl⟩
      go_wp2_with fail
      refine (at_any _ _ _ _ _ _ (h.drewN k)).mono ?_
      rintro e w0 ⟨rfl, rfl⟩
      go_wp2_with fail
      refine (fail_no _ _ _ _ _ _ _ _ (h.drewN k) hcb).mono ?_
      rintro e w1 ⟨rfl, hb1⟩
      go_wp2
      go_end0
      exact ⟨c, q, rfl, (Kp.drewN _ _ _).trans (Kp.of_below hb1), (h.drewN k).below hb1, by rw [if_neg (fun h => H.out h.1)]; exact ⟨rfl, rfl⟩⟩
  · have hp' : ¬ 0 < (n : Int) - p := by omega
    go_enter Tryz.func103, Tryz.ntmps103
    go_wp2_with fail
    refine (left_any _ _ _ _ _ _ _ _ h h0 h1 hn).mono ?_
    rintro e w2 ⟨rfl, k, rfl⟩
    go_wp2
    go_end0
    exact ⟨c, q, rfl, Kp.drewN _ _ _, h.drewN k, by rw [if_neg (by omega)]; exact ⟨rfl, rfl⟩⟩
set_option maxHeartbeats 400000 in
theorem new_any (a : Option Addr) (n m : Nat) (w : World) (hm : n ≤ m) :
    Calls Tryz.prog 22 #[.slice a n m] w fun e w' => e = .returned (.pointer (some ⟨w.heap.size, 0, none⟩)) ∧ Below w.heap.size w w' ∧ w'.heap.size = w.heap.size + 1 ∧ IsRd w' w.heap.size (.slice a n n) 0 0 0 := by
  go_enter Tryz.func22, Tryz.ntmps22
  go_wp2
  go_ret
  exact ⟨rfl, (Below.refl _ _).alloc (Nat.le_refl _) _, by simp, heap_alloc_new _ _⟩
def FailSt (c q c' q' c2 q2 : Int) : Prop := (c = 0 ∧ c2 = c' ∧ q2 = fq c' q') ∨ (c ≠ 0 ∧ c2 = c ∧ q2 = q)
theorem FailSt.det {c q c' q' c2 q2 c3 q3 : Int} (h : FailSt c q c' q' c2 q2) (k : FailSt c q c' q' c3 q3) : c2 = c3 ∧ q2 = q3 := by
  rcases h with ⟨a, rfl, rfl⟩ | ⟨a, rfl, rfl⟩ <;> rcases k with ⟨b, rfl, rfl⟩ | ⟨b, rfl, rfl⟩ <;> first | exact ⟨rfl, rfl⟩ | exact absurd a b | exact absurd b a
def FailPost (b : Nat) (s : Value) (p c q c' q' : Int) (w : World) (e : Ending) (w' : World) : Prop := ∃ c2 q2, e = .returned (.tuple #[]) ∧ Kp b w w' ∧ IsRd w' b s p c2 q2 ∧ FailSt c q c' q' c2 q2
theorem fail_any (b : Nat) (s : Value) (p c q c' q' : Int) (w : World) (h : IsRd w b s p c q) :
    Calls Tryz.prog 92 #[.pointer (some ⟨b, 0, none⟩), .int .i64 c', .int .i64 q'] w (FailPost b s p c q c' q' w) := by
  by_cases hc : c = 0
  · subst hc
    exact (fail_yes b s p q c' q' w h).mono fun e w' ⟨he, hk, hr⟩ => ⟨_, _, he, hk, hr, .inl ⟨rfl, rfl, rfl⟩⟩
  · exact (fail_no b s p c q c' q' w h (by simpa using hc)).mono fun e w' ⟨he, hb⟩ => ⟨_, _, he, Kp.of_below hb, h.below hb, .inr ⟨hc, rfl, rfl⟩⟩
end Go.Proofs.YtlealkfkddhnnaaGreat.Cur
namespace Go.Proofs.YtlealkfkddhnnaaGreat.Cur
open Go.RowKit
set_option linter.unusedVariables false
def CutPost (z : List Int) (f k : Nat) (w : World) (e : Ending) (w' : World) : Prop :=
  ∃ g, e = .returned (.slice (some ⟨g, 0, none⟩) (k - f) (k - f)) ∧ w.heap.size ≤ g ∧ Below w.heap.size w w' ∧ w'.heap[g]? = some (.cells ((piece z f k).map (Value.int .u8)).toArray 5 (0, 0))
set_option maxHeartbeats 400000 in
theorem cut_some (b : Nat) (a : Option Addr) (n m : Nat) (z : List Int) (c q : Int) (f k : Nat) (w : World) (h : IsRd w b (.slice a n m) k c q) (hz : Bs w a n z) (hf : f < k) (h1 : k ≤ n) (hm : n ≤ m) (hn : n ≤ 1000000) :
    Calls Tryz.prog 158 #[.pointer (some ⟨b, 0, none⟩), .int .i64 f] w (CutPost z f k w) := by
  obtain ⟨i0, hi, hz0, hz1, hz2⟩ := info_parts info5
  have hmk := fun w => run_make (P := Tryz.prog) w 28 5 i0 (.int .u8 0) Tryz.underlying28 hi hz0 .i64 .i64 ((k : Int) - f) ((k : Int) - f) (by omega) (by omega) (by rw [hz2]; omega) (by omega)
  obtain ⟨c0, c1, c2, c3⟩ := h.cells
  clear c2 c3
  have hb := h.lt
  have hne : ¬ k = f := by omega
  have f0 : (0 : Int) ≤ f := by omega
  have f1 : (f : Int) ≤ k := by omega
  have f2 : (k : Int) ≤ m := by omega
  obtain ⟨C, hC⟩ : ∃ C, C = (piece z f k).map (Value.int .u8) := ⟨_, rfl⟩
  have l1 : C.length = Nat.min (k - f) (k - f) := by rw [hC, List.length_map, length_piece hz.1 h1]; simp
  have l2 : 0 + C.length ≤ (madeCells #[.int .u8 0] (k - f)).toList.length := by rw [hC, List.length_map, length_piece hz.1 h1]; simp [size_madeCells]
  have l3 : ∀ v ∈ C, v.oneCell' = true := by
    rw [hC]; intro v hv; obtain ⟨x, _, rfl⟩ := List.mem_map.1 hv; rfl
  have l4 : ∃ ad, Option.map (fun x => x.add f) a = some ad ∧ ∀ j v, C[j]? = some v → ((w.alloc (Obj.cells (madeCells #[Value.int IntKind.u8 0] (k - f)) 5)).drew).cell? (ad.add j) = some v := by
    rw [hC]
    exact piece_cells (w := (w.alloc (Obj.cells (madeCells #[Value.int IntKind.u8 0] (k - f)) 5)).drew) (hz.below ((Below.refl _ _).alloc (Nat.le_refl _) _).drew) hf h1
  have hsp : splice (madeCells #[.int .u8 0] (k - f)).toList 0 C = C := by
    have : C.length = (madeCells #[.int .u8 0] (k - f)).toList.length := by rw [hC, List.length_map, length_piece hz.1 h1]; simp [size_madeCells]
    simp [splice, this]
  have L1 := Lib.hid l1
  have L2 := Lib.hid l2
  have L3 := Lib.hid l3
  have L4 := Lib.hid l4
  have HS := Lib.hid hsp
  have HC := Lib.hid hC
  clear l1 l2 l3 l4 hC hsp
  go_enter Tryz.func158, Tryz.ntmps158
  go_wp2
  go_region_law (refine step_copy_splice rfl (.tmp 13) (.tmp 27) 28 28 rfl 5 Tryz.underlying28 size5 _ _ _ _ _ _ rfl rfl w.heap.size 0 (madeCells #[.int .u8 0] (k - f)).toList 5 (heap_alloc_new _ _) C L1.out (fun _ => ⟨rfl, L4.out⟩) L2.out L3.out w.heap.size w ((Below.refl _ _).alloc (Nat.le_refl _) _).drew (Nat.le_refl _) ?_; intro w4 hg4 hb4)
  all_goals
    go_wp2
    go_ret
    exact ⟨w.heap.size, rfl, Nat.le_refl _, hb4, by have := hg4.out; rw [HS.out, HC.out] at this; exact this⟩
set_option maxHeartbeats 400000 in
theorem cut_nil (b : Nat) (a : Option Addr) (n m : Nat) (z : List Int) (c q : Int) (k : Nat) (w : World) (h : IsRd w b (.slice a n m) k c q) (h1 : k ≤ n) (hm : n ≤ m) :
    Calls Tryz.prog 158 #[.pointer (some ⟨b, 0, none⟩), .int .i64 k] w (CutPost z k k w) := by
  obtain ⟨i0, hi, hz0, hz1, hz2⟩ := info_parts info5
  have hmk := fun w => run_make (P := Tryz.prog) w 28 5 i0 (.int .u8 0) Tryz.underlying28 hi hz0 .i64 .i64 0 0 (by omega) (by omega) (by rw [hz2]; omega) (by omega)
  obtain ⟨c0, c1, c2, c3⟩ := h.cells
  clear c2 c3
  have hb := h.lt
  have f2 : (k : Int) ≤ m := by omega
  have hsub : (k : Int) - k = 0 := by omega
  have L2 : Hid (0 + ([] : List Value).length ≤ (madeCells #[.int .u8 0] 0).toList.length) := by unfold Hid; simp
  go_enter Tryz.func158, Tryz.ntmps158
  go_wp2
  go_region_law (refine step_copy_splice rfl (.tmp 13) (.tmp 27) 28 28 rfl 5 Tryz.underlying28 size5 _ _ _ _ _ _ rfl rfl w.heap.size 0 (madeCells #[.int .u8 0] 0).toList 5 (heap_alloc_new _ _) [] (by simp) (fun h => absurd h (by simp)) (by simp) (by simp) w.heap.size w ((Below.refl _ _).alloc (Nat.le_refl _) _).drew (Nat.le_refl _) ?_; intro w4 hg4 hb4)
  all_goals
    go_wp2
    go_ret
    refine ⟨w.heap.size, by rw [Nat.sub_self]; rfl, Nat.le_refl _, hb4, ?_⟩
    have := hg4.out
    simpa [piece, splice, madeCells] using this
theorem cut_any (b : Nat) (a : Option Addr) (n m : Nat) (z : List Int) (p c q f : Int) (w : World) (h : IsRd w b (.slice a n m) p c q) (hz : Bs w a n z) (h0 : 0 ≤ f) (hf : f ≤ p) (h1 : p ≤ n) (hm : n ≤ m) (hn : n ≤ 1000000) :
    Calls Tryz.prog 158 #[.pointer (some ⟨b, 0, none⟩), .int .i64 f] w (CutPost z f.toNat p.toNat w) := by
  obtain ⟨f, rfl⟩ := Int.eq_ofNat_of_zero_le h0
  obtain ⟨k, rfl⟩ := Int.eq_ofNat_of_zero_le (Int.le_trans h0 hf)
  rw [Int.toNat_natCast, Int.toNat_natCast]
  by_cases hk : f = k
  · subst hk
    exact cut_nil b a n m z c q f w h (by omega) hm
  · exact cut_some b a n m z c q f k w h hz (by omega) (by omega) hm hn
end Go.Proofs.YtlealkfkddhnnaaGreat.Cur
namespace Go.Proofs.YtlealkfkddhnnaaGreat.Cur
open Go.RowKit
set_option linter.unusedVariables false
def TakePost (b : Nat) (s : Value) (n : Nat) (z : List Int) (p c q x : Int) (w : World) (e : Ending) (w' : World) : Prop :=
  ∃ ok p' c' q', Kp b w w' ∧ IsRd w' b s p' c' q' ∧ SkipSt n p c q x ok p' c' q' ∧
    ((ok = true ∧ ∃ g, e = .returned (.slice (some ⟨g, 0, none⟩) x.toNat x.toNat) ∧ w.heap.size ≤ g ∧ w'.heap[g]? = some (.cells ((piece z p.toNat (p + x).toNat).map (Value.int .u8)).toArray 5 (0, 0))) ∨
     (ok = false ∧ e = .returned (.slice none 0 0)))
set_option maxHeartbeats 400000 in
theorem take_any (b : Nat) (a : Option Addr) (n m : Nat) (z : List Int) (p c q x : Int) (w : World) (h : IsRd w b (.slice a n m) p c q) (hz : Bs w a n z) (h0 : 0 ≤ p) (h1 : p ≤ n) (hm : n ≤ m) (hn : n ≤ 1000000) :
    Calls Tryz.prog 153 #[.pointer (some ⟨b, 0, none⟩), .int .i64 x] w (TakePost b (.slice a n m) n z p c q x w) := by
  go_enter Tryz.func153, Tryz.ntmps153
  go_wp2_with fail
  refine (skip_any _ _ _ _ _ _ _ _ _ h h0 h1 hn).mono ?_
  rintro e w1 ⟨ok, p', c', q', rfl, hk, h2, hs⟩
  have HS := Lib.hid hs
  clear hs
  cases ok
  · go_wp2
    go_ret
    exact ⟨false, p', c', q', hk, h2, HS.out, .inr ⟨rfl, rfl⟩⟩
  · have hz2 := hz.kp h (by simp) hk
    have hx : c = 0 ∧ 0 ≤ x ∧ x ≤ n - p ∧ p' = p + x := by
      rcases HS.out with ⟨_, h, _⟩ | ⟨_, _, h, _⟩ | ⟨_, _, h, _⟩ | ⟨a1, a2, a3, _, a4, _⟩
      · cases h
      · cases h
      · cases h
      · exact ⟨a1, a2, a3, a4⟩
    obtain ⟨hc0, x0, x1, rfl⟩ := hx
    have HC := Lib.hid hc0
    clear hc0
    obtain ⟨d0, d1, d2, d3⟩ := h2.cells
    clear d0 d2 d3
    have e1 : p + x - x = p := by omega
    have E1 := Lib.hid e1
    clear e1
    go_wp2_with fail
    refine (cut_any _ _ _ _ _ _ _ _ _ _ h2 hz2 h0 (by omega) (by omega) hm hn).mono ?_
    rintro e w2 ⟨g, rfl, hg, hb2, hc⟩
    go_wp2
    go_ret
    have e2 : (p + x).toNat - p.toNat = x.toNat := by omega
    exact ⟨true, p + x, c', q', hk.trans (Kp.of_below hb2), h2.below hb2, HS.out, .inl ⟨rfl, g, by rw [← e2]; rfl, Nat.le_trans hk.size hg, hc⟩⟩
def BytePost (b : Nat) (s : Value) (n : Nat) (z : List Int) (p c q : Int) (w : World) (e : Ending) (w' : World) : Prop :=
  ∃ ok p' c' q', Kp b w w' ∧ IsRd w' b s p' c' q' ∧ SkipSt n p c q 1 ok p' c' q' ∧ e = .returned (.int .u8 (if ok = true then z.getD p.toNat 0 else 0))
set_option maxHeartbeats 400000 in
theorem byte_any (b : Nat) (a : Option Addr) (n m : Nat) (z : List Int) (p c q : Int) (w : World) (h : IsRd w b (.slice a n m) p c q) (hz : Bs w a n z) (h0 : 0 ≤ p) (h1 : p ≤ n) (hn : n ≤ 1000000) :
    Calls Tryz.prog 127 #[.pointer (some ⟨b, 0, none⟩)] w (BytePost b (.slice a n m) n z p c q w) := by
  obtain ⟨k, rfl⟩ := Int.eq_ofNat_of_zero_le h0
  go_enter Tryz.func127, Tryz.ntmps127
  go_wp2_with fail
  refine (skip_any _ _ _ _ _ _ _ _ _ h h0 h1 hn).mono ?_
  rintro e w1 ⟨ok, p', c', q', rfl, hk, h2, hs⟩
  have HS := Lib.hid hs
  clear hs
  cases ok
  · go_wp2
    go_ret
    exact ⟨false, p', c', q', hk, h2, HS.out, rfl⟩
  · have hz2 := hz.kp h (by simp) hk
    have hx : (1 : Int) ≤ n - k ∧ p' = k + 1 := by
      rcases HS.out with ⟨_, h, _⟩ | ⟨_, _, h, _⟩ | ⟨_, _, h, _⟩ | ⟨_, _, a3, _, a4, _⟩
      · cases h
      · cases h
      · cases h
      · exact ⟨a3, a4⟩
    obtain ⟨x1, rfl⟩ := hx
    obtain ⟨d0, d1, d2, d3⟩ := h2.cells
    clear d2 d3
    obtain ⟨g, o, rfl, hcell⟩ := hz2.at_ (k := k) (by omega)
    have k1 : (k : Int) < n := by omega
    go_wp2
    go_quiet (fail)
    go_wp2
    go_ret
    exact ⟨true, k + 1, c', q', hk.trans (Kp.drewN _ _ _), h2, HS.out, rfl⟩
def SincePost (z : List Int) (p f : Int) (w : World) (e : Ending) (w' : World) : Prop :=
  Below w.heap.size w w' ∧ ((0 ≤ f ∧ f ≤ p ∧ ∃ g, e = .returned (.slice (some ⟨g, 0, none⟩) (p.toNat - f.toNat) (p.toNat - f.toNat)) ∧ w.heap.size ≤ g ∧ w'.heap[g]? = some (.cells ((piece z f.toNat p.toNat).map (Value.int .u8)).toArray 5 (0, 0))) ∨
    ((f < 0 ∨ p < f) ∧ e = .returned (.slice none 0 0)))
set_option maxHeartbeats 400000 in
theorem since_any (b : Nat) (a : Option Addr) (n m : Nat) (z : List Int) (p c q f : Int) (w : World) (h : IsRd w b (.slice a n m) p c q) (hz : Bs w a n z) (h0 : 0 ≤ p) (h1 : p ≤ n) (hm : n ≤ m) (hn : n ≤ 1000000) :
    Calls Tryz.prog 130 #[.pointer (some ⟨b, 0, none⟩), .int .i64 f] w (SincePost z p f w) := by
  obtain ⟨c0, c1, c2, c3⟩ := h.cells
  clear c0 c2 c3
  by_cases hf0 : f < 0
  · have hd : decide (f < 0) = true := by simpa using hf0
    go_enter Tryz.func130, Tryz.ntmps130
    go_wp2
    go_ret
    exact ⟨Below.refl _ _, .inr ⟨.inl hf0, rfl⟩⟩
  · by_cases hf1 : p < f
    · go_enter Tryz.func130, Tryz.ntmps130
      go_wp2
      go_ret
      exact ⟨Below.refl _ _, .inr ⟨.inr hf1, rfl⟩⟩
    · go_enter Tryz.func130, Tryz.ntmps130
      go_wp2_with fail
      refine (cut_any _ _ _ _ _ _ _ _ _ _ h hz (by omega) (by omega) h1 hm hn).mono ?_
      rintro e w2 ⟨g, rfl, hg, hb2, hc⟩
      go_wp2
      go_ret
      exact ⟨hb2, .inl ⟨by omega, by omega, g, rfl, hg, hc⟩⟩
end Go.Proofs.YtlealkfkddhnnaaGreat.Cur
namespace Go.Proofs.YtlealkfkddhnnaaGreat.Cur
open Go.RowKit
set_option linter.unusedVariables false
theorem skip_yes {n : Nat} {p q x : Int} {ok : Bool} {p' c' q' : Int} (h : SkipSt n p 0 q x ok p' c' q') (h0 : 0 ≤ x) (h1 : x ≤ n - p) : ok = true ∧ p' = p + x ∧ c' = 0 ∧ q' = q := by
  rcases h with ⟨h, _⟩ | ⟨_, h, _⟩ | ⟨_, h, _⟩ | ⟨_, _, _, a, b, c, d⟩
  · exact absurd rfl h
  · omega
  · omega
  · exact ⟨a, b, c, d⟩
theorem skip_over {n : Nat} {p q x : Int} {ok : Bool} {p' c' q' : Int} (h : SkipSt n p 0 q x ok p' c' q') (h0 : 0 ≤ x) (h1 : (n : Int) - p < x) : ok = false ∧ p' = p ∧ c' = 1 ∧ q' = n := by
  rcases h with ⟨h, _⟩ | ⟨_, h, _⟩ | ⟨_, _, a, b, c, d⟩ | ⟨_, _, h, _⟩
  · exact absurd rfl h
  · omega
  · exact ⟨a, b, c, d⟩
  · omega
end Go.Proofs.YtlealkfkddhnnaaGreat.Cur
namespace Go.Proofs.YtlealkfkddhnnaaGreat.Cur
open Go.RowKit
set_option linter.unusedVariables false
theorem Own.ne_rd {w : World} {B b : Nat} {v s : Value} {z : List Int} {p c q : Int} (h : Own w B v z) (hr : IsRd w b s p c q) : v.ownBlock ≠ some b := by
  rcases h.2 with ⟨rfl, _⟩ | ⟨g, cap, cur, rfl, _, hh, _⟩
  · simp [Value.ownBlock]
  · intro he
    have : g = b := by simpa [Value.ownBlock] using he
    subst this
    unfold IsRd at hr
    rw [hh] at hr
    simp at hr
theorem Own.kp {w w' : World} {B b : Nat} {v s : Value} {z : List Int} {p c q : Int} (h : Own w B v z) (hr : IsRd w b s p c q) (hb : Kp b w w') : Own w' B v z :=
  h.block fun k hk => hb.block k (World.ownsRow.lt h k hk).2 (fun e => h.ne_rd hr (by rw [hk, e]))
theorem IsRd.grown {w w' : World} {b B : Nat} {s v : Value} {p c q : Int} {z : List Int} (h : IsRd w b s p c q) (hown : Own w B v z) (hg : w.grownBy w' v.ownBlock) : IsRd w' b s p c q :=
  (hg.block b h.lt (fun e => hown.ne_rd h e.symm)).trans h
end Go.Proofs.YtlealkfkddhnnaaGreat.Cur
namespace Go.Proofs.YtlealkfkddhnnaaGreat.Cur
open Go.RowKit Go.ChangeShapes Go.WideShapes
set_option linter.unusedVariables false
section
variable {H : Type} {enc : TypeId × Value → H} {w : World} {base : Nat} {v : Value} {d : DataW H} {p : List MemPlace}
def IsDos (w : World) (A : Option Addr) (n : Nat) : Prop :=
  ∀ i, i < n → ∃ b o x y u, A = some ⟨b, o, none⟩ ∧ w.cell? ⟨b, o + i * 3, none⟩ = some (.int .i64 x) ∧ w.cell? ⟨b, o + i * 3 + 1, none⟩ = some (.int .i64 y) ∧ w.cell? ⟨b, o + i * 3 + 2, none⟩ = some (.int .i64 u) ∧
    (Lit.int .i64 x).wf = true ∧ (Lit.int .i64 y).wf = true ∧ (Lit.int .i64 u).wf = true
theorem IsDos.below {w w' : World} {A : Option Addr} {n : Nat} (h : IsDos w A n) (hb : Below w.heap.size w w') : IsDos w' A n := fun i hi => by
  obtain ⟨b, o, x, y, u, e, h0, h1, h2, r⟩ := h i hi
  exact ⟨b, o, x, y, u, e, (hb.cell (lt_of_cell h0)).trans h0, (hb.cell (lt_of_cell h1)).trans h1, (hb.cell (lt_of_cell h2)).trans h2, r⟩
end
end Go.Proofs.YtlealkfkddhnnaaGreat.Cur
namespace Go.Proofs.YtlealkfkddhnnaaGreat.Cur
open Go.RowKit Mem
set_option linter.unusedVariables false
abbrev cv (s : Value) (p c q : Int) : Value := .agg #[s, .int .i64 p, .int .i64 c, .int .i64 q]
set_option maxHeartbeats 400000 in
theorem rat_any (c q : Int) (w : World) :
    Calls Tryz.prog 98 #[.int .i64 c, .int .i64 q] w fun e w' => e = .returned (.agg #[.int .i64 c, .int .i64 (fq c q)]) ∧ Below w.heap.size w w' := by
  by_cases hc : c = 0
  · obtain rfl := hc
    go_enter Tryz.func98, Tryz.ntmps98
    go_wp2
    refine bodyPost_ret (v := .agg #[.int .i64 0, .int .i64 0]) (by simp [results, Tryz.results98, go_sem]) rfl ⟨rfl, ?_⟩
    exact (((Below.refl _ _).alloc (Nat.le_refl _) _).alloc (by simp) _)
  · have hb : (c != 0) = true := by simp [hc]
    have e : fq c q = q := by simp [fq, hc]
    rw [e]
    clear e
    go_enter Tryz.func98, Tryz.ntmps98
    go_wp2
    refine bodyPost_ret (v := .agg #[.int .i64 c, .int .i64 q]) (by simp [results, Tryz.results98, go_sem]) rfl ⟨rfl, ?_⟩
    exact (((Below.refl _ _).alloc (Nat.le_refl _) _).alloc (by simp) _)
set_option maxHeartbeats 400000 in
theorem rfail_yes (s : Value) (p q c' q' : Int) (w : World) (hs : ∃ A n m, s = .slice A n m) :
    Calls Tryz.prog 58 #[cv s p 0 q, .int .i64 c', .int .i64 q'] w fun e w' => e = .returned (cv s p c' (fq c' q')) ∧ Below w.heap.size w w' := by
  obtain ⟨A, n, m, rfl⟩ := hs
  go_enter Tryz.func58, Tryz.ntmps58
  go_wp2_with fail
  refine (rat_any _ _ _).mono ?_
  rintro e w1 ⟨rfl, hb⟩
  obtain ⟨h0, h1, hb⟩ := two_new hb
  obtain ⟨c0, c1, c2, c3⟩ := h0.c4
  obtain ⟨f0, f1, f2, f3⟩ := h0.f4
  obtain ⟨d0, d1, d2, d3⟩ := h1.c4
  obtain ⟨g0, g1, g2, g3⟩ := h1.f4
  clear f0 f1
  go_wp2
  refine bodyPost_ret (v := cv (.slice A n m) p c' (fq c' q')) (by simp [results, Tryz.results58, go_sem, d0, d1, d2, d3]) rfl ⟨rfl, ?_⟩
  iterate 6 (refine Below.setCell ?_ (by simp) _)
  exact hb
set_option maxHeartbeats 400000 in
theorem rfail_no (s : Value) (p c q c' q' : Int) (w : World) (hs : ∃ A n m, s = .slice A n m) (hc : (c == 0) = false) :
    Calls Tryz.prog 58 #[cv s p c q, .int .i64 c', .int .i64 q'] w fun e w' => e = .returned (cv s p c q) ∧ Below w.heap.size w w' := by
  obtain ⟨A, n, m, rfl⟩ := hs
  go_enter Tryz.func58, Tryz.ntmps58
  go_wp2
  refine bodyPost_ret (v := cv (.slice A n m) p c q) (by simp [results, Tryz.results58, go_sem]) rfl ⟨rfl, ?_⟩
  exact below_two _ _ _
def REndPost (s : Value) (n : Nat) (p c q : Int) (w : World) (e : Ending) (w' : World) : Prop :=
  ∃ c' q', e = .returned (cv s p c' q') ∧ Below w.heap.size w w' ∧ (if c = 0 ∧ p < n then c' = 9 ∧ q' = p else c' = c ∧ q' = q)
set_option maxHeartbeats 400000 in
theorem rend_any (A : Option Addr) (n m : Nat) (p c q : Int) (w : World) :
    Calls Tryz.prog 29 #[cv (.slice A n m) p c q] w (REndPost (.slice A n m) n p c q w) := by
  by_cases hp : p < n
  · by_cases hc : c = 0
    · subst hc
      go_enter Tryz.func29, Tryz.ntmps29
      go_wp2_with fail
      refine (rfail_yes _ _ _ _ _ _ ⟨_, _, _, rfl⟩).mono ?_
      rintro e w1 ⟨rfl, hb⟩
      obtain ⟨h0, h1, hb⟩ := two_new hb
      obtain ⟨d0, d1, d2, d3⟩ := h1.c4
      obtain ⟨g0, g1, g2, g3⟩ := h1.f4
      go_wp2
      refine bodyPost_ret (v := cv (.slice A n m) p 9 (fq 9 p)) (by simp [results, Tryz.results29, go_sem, d0, d1, d2, d3]) rfl ⟨_, _, rfl, ?_, by rw [if_pos ⟨rfl, hp⟩]; simp [fq]⟩
      iterate 4 (refine Below.setCell ?_ (by simp) _)
      exact hb
    · have hcb : (c == 0) = false := by simpa using hc
      have H := Lib.hid hc
      clear hc
      go_enter Tryz.func29, Tryz.ntmps29
      go_wp2_with fail
      refine (rfail_no _ _ _ _ _ _ _ ⟨_, _, _, rfl⟩ hcb).mono ?_
      rintro e w1 ⟨rfl, hb⟩
      obtain ⟨h0, h1, hb⟩ := two_new hb
      obtain ⟨d0, d1, d2, d3⟩ := h1.c4
      obtain ⟨g0, g1, g2, g3⟩ := h1.f4
      go_wp2
      refine bodyPost_ret (v := cv (.slice A n m) p c q) (by simp [results, Tryz.results29, go_sem, d0, d1, d2, d3]) rfl ⟨_, _, rfl, ?_, by rw [if_neg (fun h => H.out h.1)]; exact ⟨rfl, rfl⟩⟩
      iterate 4 (refine Below.setCell ?_ (by simp) _)
      exact hb
  · go_enter Tryz.func29, Tryz.ntmps29
    go_wp2
    refine bodyPost_ret (v := cv (.slice A n m) p c q) (by simp [results, Tryz.results29, go_sem]) rfl ⟨_, _, rfl, below_two _ _ _, by rw [if_neg (by omega)]; exact ⟨rfl, rfl⟩⟩
def RFailPost (s : Value) (p c q c' q' : Int) (w : World) (e : Ending) (w' : World) : Prop := ∃ c2 q2, e = .returned (cv s p c2 q2) ∧ Below w.heap.size w w' ∧ FailSt c q c' q' c2 q2
theorem rfail_any (A : Option Addr) (n m : Nat) (p c q c' q' : Int) (w : World) :
    Calls Tryz.prog 58 #[cv (.slice A n m) p c q, .int .i64 c', .int .i64 q'] w (RFailPost (.slice A n m) p c q c' q' w) := by
  by_cases hc : c = 0
  · subst hc
    exact (rfail_yes _ p q c' q' w ⟨_, _, _, rfl⟩).mono fun e w' ⟨he, hb⟩ => ⟨_, _, he, hb, .inl ⟨rfl, rfl, rfl⟩⟩
  · exact (rfail_no _ p c q c' q' w ⟨_, _, _, rfl⟩ (by simpa using hc)).mono fun e w' ⟨he, hb⟩ => ⟨_, _, he, hb, .inr ⟨hc, rfl, rfl⟩⟩
end Go.Proofs.YtlealkfkddhnnaaGreat.Cur
