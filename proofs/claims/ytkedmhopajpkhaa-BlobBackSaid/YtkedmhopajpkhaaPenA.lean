/- The contracts of the writer's functions (package pen), first part: what a writer is in memory; New, Code, Fail, Len, Room, fits. -/
import Derived.Test.YtkedmhopajpkhaaByw
import Derived.WalkKit
import Derived.WalkSpells
import Derived.WalkLawsBesides
import Derived.Lib.Hide
import Derived.Deep.QuietTactic
import Derived.BigQuiet
import Derived.IntWalk
namespace Go.Proofs.Ytkedmhopajpkhaa.Cur
open Go.RowKit Mem
set_option linter.unusedVariables false

/-- A writer at block b, of the call's own from block B on: its row r has the bytes z; the bound M, the code c. -/
def Wr (w : World) (B b : Nat) (r : Option Nat) (z : List Int) (M c : Int) : Prop :=
  ∃ v, v.ownBlock = r ∧ Blk w b #[v, .int .i64 M, .int .i64 c] 63 ∧ Own w B v z ∧ B ≤ b ∧ (z.length : Int) ≤ M ∧ M ≤ 9223372036854775807
/-- The writer's blocks. -/
def WS (b : Nat) (r : Option Nat) (k : Nat) : Prop := k = b ∨ r = some k

theorem WS.ge {w : World} {B b : Nat} {r : Option Nat} {z : List Int} {M c : Int} (h : Wr w B b r z M c) : ∀ k, WS b r k → B ≤ k := by
  obtain ⟨v, rfl, _, ho, hB, _⟩ := h
  rintro k (rfl | e)
  · exact hB
  · exact ho.ge k e
theorem Ks.wr {w w1 w2 : World} {b : Nat} {r r1 : Option Nat} (h : Ks (WS b r) w w1) (g : Gr r r1 w) (k : Ks (WS b r1) w1 w2) : Ks (WS b r) w w2 :=
  h.trans' k fun i hi hs => by
    rcases hs with rfl | e
    · exact .inl rfl
    · rcases g with rfl | ⟨j, rfl, hj⟩
      · exact .inr e
      · injection e with e; omega
theorem Wr.lt {w : World} {B b : Nat} {r : Option Nat} {z : List Int} {M c : Int} (h : Wr w B b r z M c) : b < w.heap.size := by
  obtain ⟨v, _, hb, _⟩ := h; exact hb.lt
theorem Wr.most {w : World} {B b : Nat} {r : Option Nat} {z : List Int} {M c : Int} (h : Wr w B b r z M c) : (z.length : Int) ≤ M ∧ M ≤ 9223372036854775807 := by
  obtain ⟨v, _, _, _, _, h1, h2⟩ := h; exact ⟨h1, h2⟩
theorem Wr.below {w w' : World} {B b : Nat} {r : Option Nat} {z : List Int} {M c : Int} (h : Wr w B b r z M c) (k : Below w.heap.size w w') : Wr w' B b r z M c := by
  obtain ⟨v, hr, hb, ho, h1⟩ := h
  exact ⟨v, hr, hb.below k, ho.below k, h1⟩
theorem Wr.ks {w w' : World} {S : Nat → Prop} {B b : Nat} {r : Option Nat} {z : List Int} {M c : Int} (h : Wr w B b r z M c) (k : Ks S w w') (hS : ∀ i, S i → ¬ WS b r i) : Wr w' B b r z M c := by
  obtain ⟨v, rfl, hb, ho, h1⟩ := h
  exact ⟨v, rfl, hb.ks k (fun e => hS _ e (.inl rfl)), ho.ks k (fun g hg e => hS _ e (.inr hg)), h1⟩
theorem Wr.drewN {w : World} {B b : Nat} {r : Option Nat} {z : List Int} {M c : Int} (h : Wr w B b r z M c) (k : Nat) : Wr (w.drewN k) B b r z M c := h
theorem Wr.ne {w : World} {B b k t : Nat} {r : Option Nat} {z : List Int} {M c : Int} {cs : Array Value} (h : Wr w B b r z M c) (hk : Blk w k cs t) (ht : t ≠ 5) (hne : k ≠ b) : ¬ WS b r k := by
  obtain ⟨v, rfl, _, ho, _⟩ := h
  rintro (e | e)
  · exact hne e
  · exact ho.ne_blk hk ht e
theorem Wr.belowOf {w0 w w' : World} {B0 B b : Nat} {r : Option Nat} {z : List Int} {M c : Int} (h0 : Below B0 w0 w) (hB : B0 ≤ w0.heap.size) (h : Wr w B b r z M c) (k : Ks (WS b r) w w') (hb : B0 ≤ B) : Below B0 w0 w' :=
  k.below h0 hB fun i hi => Nat.le_trans hb (WS.ge h i hi)

def WNewPost (M : Int) (w : World) (e : Ending) (w' : World) : Prop := ∃ b, e = .returned (.pointer (some ⟨b, 0, none⟩)) ∧ w.heap.size ≤ b ∧ Below w.heap.size w w' ∧ Wr w' w.heap.size b none [] M 0

set_option maxHeartbeats 400000 in
theorem wnew_any (x : Int) (w : World) (hx : x ≤ 9223372036854775807) :
    Calls Try.prog 8 #[.int .i64 x] w (WNewPost (if x < 0 then 0 else x) w) := by
  by_cases h0 : x < 0
  · rw [if_pos h0]
    have h0' : ¬ 0 ≤ x := by omega
    go_enter Try.func8, Try.ntmps8
    go_wp2
    go_ret
    exact ⟨_, rfl, Nat.le_refl _, below_one _ _, .slice none 0 0, rfl, Blk.new _ _ _, Own.nil _ _, Nat.le_refl _, by simp, by omega⟩
  · rw [if_neg h0]
    have h0' : 0 ≤ x := by omega
    go_enter Try.func8, Try.ntmps8
    go_wp2
    go_ret
    exact ⟨_, rfl, Nat.le_refl _, below_one _ _, .slice none 0 0, rfl, Blk.new _ _ _, Own.nil _ _, Nat.le_refl _, by simpa using h0', by omega⟩

set_option maxHeartbeats 400000 in
theorem wcode_any {w : World} {B b : Nat} {r : Option Nat} {z : List Int} {M c : Int} (h : Wr w B b r z M c) :
    Calls Try.prog 32 #[.pointer (some ⟨b, 0, none⟩)] w fun e w' => e = .returned (.int .i64 c) ∧ w = w' := by
  obtain ⟨v, rfl, hb, ho, _, h1, h2⟩ := h
  obtain ⟨c0, c1, c2⟩ := hb.c3
  clear c0 c1 hb ho h1 h2
  go_enter Try.func32, Try.ntmps32
  go_wp2
  go_ret
  exact ⟨rfl, rfl⟩

set_option maxHeartbeats 400000 in
theorem wcode_none (w : World) :
    Calls Try.prog 32 #[.pointer none] w fun e w' => e = .returned (.int .i64 19) ∧ w = w' := by
  go_enter Try.func32, Try.ntmps32
  go_wp2
  go_ret
  exact ⟨rfl, rfl⟩

set_option maxHeartbeats 400000 in
theorem wroom_any {w : World} {B b : Nat} {r : Option Nat} {z : List Int} {M c : Int} (h : Wr w B b r z M c) :
    Calls Try.prog 56 #[.pointer (some ⟨b, 0, none⟩)] w fun e w' => e = .returned (.int .i64 (M - z.length)) ∧ ∃ k, w' = w.drewN k := by
  obtain ⟨v, rfl, hb, ho, _, h1, h2⟩ := h
  obtain ⟨A, cap, rfl⟩ := ho.slice
  obtain ⟨c0, c1, c2⟩ := hb.c3
  clear c2 hb ho
  go_enter Try.func56, Try.ntmps56
  go_wp2
  go_quiet (fail)
  go_wp2
  go_ret
  exact ⟨rfl, nq, rfl⟩

set_option maxHeartbeats 400000 in
theorem wroom_none (w : World) :
    Calls Try.prog 56 #[.pointer none] w fun e w' => e = .returned (.int .i64 0) ∧ w = w' := by
  go_enter Try.func56, Try.ntmps56
  go_wp2
  go_ret
  exact ⟨rfl, rfl⟩

theorem Wr.setCode {w : World} {B b : Nat} {r : Option Nat} {z : List Int} {M c : Int} (h : Wr w B b r z M c) (c' : Int) : Wr (w.setCell ⟨b, 2, none⟩ (.int .i64 c')) B b r z M c' := by
  obtain ⟨v, rfl, hb, ho, h1⟩ := h
  refine ⟨v, rfl, hb.set 2 _, ho.block fun k hk => Below.heap_setCell w _ _ k ?_, h1⟩
  rintro rfl
  exact ho.ne_blk hb (by decide) hk

def WFailPost (B b : Nat) (r : Option Nat) (z : List Int) (M c c' : Int) (w : World) (e : Ending) (w' : World) : Prop :=
  e = .returned (.tuple #[]) ∧ Ks (WS b r) w w' ∧ Wr w' B b r z M (if c = 0 then c' else c)

set_option maxHeartbeats 400000 in
theorem wfail_any {w : World} {B b : Nat} {r : Option Nat} {z : List Int} {M c : Int} (c' : Int) (h : Wr w B b r z M c) :
    Calls Try.prog 57 #[.pointer (some ⟨b, 0, none⟩), .int .i64 c'] w (WFailPost B b r z M c c' w) := by
  by_cases hc : c = 0
  · subst hc
    go_enter Try.func57, Try.ntmps57
    go_wp2_with fail
    refine (wcode_any h).mono ?_
    rintro e w1 ⟨rfl, rfl⟩
    have h' := h
    obtain ⟨v, rfl, hb, ho, _, h1, h2⟩ := h'
    obtain ⟨c0, c1, c2⟩ := hb.c3
    have f2 := hb.free 2
    clear c0 c1 hb ho h1 h2
    go_wp2
    go_end0
    exact ⟨rfl, Ks.setCell _ _ _ _ (.inl rfl), by rw [if_pos rfl]; exact h.setCode c'⟩
  · have hcb : (c == 0) = false := by simpa using hc
    have H := Lib.hid hc
    clear hc
    go_enter Try.func57, Try.ntmps57
    go_wp2_with fail
    refine (wcode_any h).mono ?_
    rintro e w1 ⟨rfl, rfl⟩
    go_wp2
    go_end0
    exact ⟨rfl, Ks.refl _ _, by rw [if_neg H.out]; exact h⟩

set_option maxHeartbeats 400000 in
theorem wfail_none (c' : Int) (w : World) :
    Calls Try.prog 57 #[.pointer none, .int .i64 c'] w fun e w' => e = .returned (.tuple #[]) ∧ w = w' := by
  go_enter Try.func57, Try.ntmps57
  go_wp2_with fail
  refine (wcode_none _).mono ?_
  rintro e w1 ⟨rfl, rfl⟩
  go_wp2
  go_end0
  exact ⟨rfl, rfl⟩

/-- Do n more bytes fit, and which code is there then? -/
def fitsB (M c : Int) (l : Nat) (n : Int) : Bool := decide (c = 0 ∧ n ≤ M - l)
def fitsC (M c : Int) (l : Nat) (n : Int) : Int := if c = 0 ∧ M - l < n then 2 else c
def WFitsPost (B b : Nat) (r : Option Nat) (z : List Int) (M c n : Int) (w : World) (e : Ending) (w' : World) : Prop :=
  e = .returned (.bool (fitsB M c z.length n)) ∧ Ks (WS b r) w w' ∧ Wr w' B b r z M (fitsC M c z.length n)

set_option maxHeartbeats 400000 in
theorem wfits_any {w : World} {B b : Nat} {r : Option Nat} {z : List Int} {M c : Int} (n : Int) (h : Wr w B b r z M c) :
    Calls Try.prog 43 #[.pointer (some ⟨b, 0, none⟩), .int .i64 n] w (WFitsPost B b r z M c n w) := by
  by_cases hn : M - z.length < n
  · have hC : (if c = 0 then 2 else c) = fitsC M c z.length n := by
      unfold fitsC
      by_cases hc : c = 0 <;> simp [hc, hn]
    have hB : ((fitsC M c z.length n) == 0) = fitsB M c z.length n := by
      rw [← hC]; unfold fitsB
      by_cases hc : c = 0
      · simp [hc]; omega
      · simp [hc]
    have HC := Lib.hid hC
    have HB := Lib.hid hB
    clear hC hB
    go_enter Try.func43, Try.ntmps43
    go_wp2_with fail
    refine (wroom_any h).mono ?_
    rintro e w1 ⟨rfl, k, rfl⟩
    go_wp2_with fail
    refine (wfail_any _ (h.drewN k)).mono ?_
    rintro e w2 ⟨rfl, hk, h2⟩
    rw [HC.out] at h2
    go_wp2_with fail
    refine (wcode_any h2).mono ?_
    rintro e w3 ⟨rfl, rfl⟩
    go_wp2
    go_ret
    exact ⟨by rw [← HB.out]; rfl, (Ks.drewN _ _ _).trans hk, h2⟩
  · have hC : fitsC M c z.length n = c := by
      unfold fitsC; rw [if_neg (by omega)]
    have hB : (c == 0) = fitsB M c z.length n := by
      unfold fitsB
      by_cases hc : c = 0
      · simp [hc]; omega
      · simp [hc]
    have HC := Lib.hid hC
    have HB := Lib.hid hB
    clear hC hB
    go_enter Try.func43, Try.ntmps43
    go_wp2_with fail
    refine (wroom_any h).mono ?_
    rintro e w1 ⟨rfl, k, rfl⟩
    go_wp2_with fail
    refine (wcode_any (h.drewN k)).mono ?_
    rintro e w3 ⟨rfl, rfl⟩
    go_wp2
    go_ret
    exact ⟨by rw [← HB.out]; rfl, Ks.drewN _ _ _, by rw [HC.out]; exact h.drewN k⟩

set_option maxHeartbeats 400000 in
theorem wfits_none (n : Int) (w : World) :
    Calls Try.prog 43 #[.pointer none, .int .i64 n] w fun e w' => e = .returned (.bool false) ∧ w = w' := by
  by_cases hn : 0 < n
  · go_enter Try.func43, Try.ntmps43
    go_wp2_with fail
    refine (wroom_none _).mono ?_
    rintro e w1 ⟨rfl, rfl⟩
    go_wp2_with fail
    refine (wfail_none _ _).mono ?_
    rintro e w1 ⟨rfl, rfl⟩
    go_wp2_with fail
    refine (wcode_none _).mono ?_
    rintro e w1 ⟨rfl, rfl⟩
    go_wp2
    go_ret
    exact ⟨rfl, rfl⟩
  · go_enter Try.func43, Try.ntmps43
    go_wp2_with fail
    refine (wroom_none _).mono ?_
    rintro e w1 ⟨rfl, rfl⟩
    go_wp2_with fail
    refine (wcode_none _).mono ?_
    rintro e w1 ⟨rfl, rfl⟩
    go_wp2
    go_ret
    exact ⟨rfl, rfl⟩
end Go.Proofs.Ytkedmhopajpkhaa.Cur
