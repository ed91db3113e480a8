/- The contracts of the reader's own functions (package cursor), fourth part: Take, Byte, Since, Part. -/
import Derived.Test.YtkedmhopajpkhaaCurC
import Derived.Deep.RegionWith
namespace Go.Proofs.Ytkedmhopajpkhaa.Cur
open Go.RowKit
set_option linter.unusedVariables false

/-- What Take hands back: a new row of bytes, or nil. -/
def TakePost (b : Nat) (s : Value) (n : Nat) (z : List Int) (p c q x : Int) (w : World) (e : Ending) (w' : World) : Prop :=
  ∃ ok p' c' q', Kp b w w' ∧ IsRd w' b s p' c' q' ∧ SkipSt n p c q x ok p' c' q' ∧
    ((ok = true ∧ ∃ g, e = .returned (.slice (some ⟨g, 0, none⟩) x.toNat x.toNat) ∧ w.heap.size ≤ g ∧ w'.heap[g]? = some (.cells ((piece z p.toNat (p + x).toNat).map (Value.int .u8)).toArray 5 (0, 0))) ∨
     (ok = false ∧ e = .returned (.slice none 0 0)))

set_option maxHeartbeats 400000 in
theorem take_any (b : Nat) (a : Option Addr) (n m : Nat) (z : List Int) (p c q x : Int) (w : World) (h : IsRd w b (.slice a n m) p c q) (hz : Bs w a n z) (h0 : 0 ≤ p) (h1 : p ≤ n) (hm : n ≤ m) (hn : n ≤ 1000000) :
    Calls Try.prog 39 #[.pointer (some ⟨b, 0, none⟩), .int .i64 x] w (TakePost b (.slice a n m) n z p c q x w) := by
  go_enter Try.func39, Try.ntmps39
  go_wp2_with fail
  refine (skip_any _ _ _ _ _ _ _ _ _ h h0 h1 hn).mono ?_
  rintro e w1 ⟨ok, p', c', q', rfl, hk, h2, hs⟩
  have HS := Lib.hid hs
  clear hs
  cases ok
  · go_wp2
    go_ret
    exact ⟨false, p', c', q', hk, h2, HS.out, .inr ⟨rfl, rfl⟩⟩
  · have hz2 := hz.kp h (by simp) hk
    have hx : c = 0 ∧ 0 ≤ x ∧ x ≤ n - p ∧ p' = p + x := by
      rcases HS.out with ⟨_, h, _⟩ | ⟨_, _, h, _⟩ | ⟨_, _, h, _⟩ | ⟨a1, a2, a3, _, a4, _⟩
      · cases h
      · cases h
      · cases h
      · exact ⟨a1, a2, a3, a4⟩
    obtain ⟨hc0, x0, x1, rfl⟩ := hx
    have HC := Lib.hid hc0
    clear hc0
    obtain ⟨d0, d1, d2, d3⟩ := h2.cells
    clear d0 d2 d3
    have e1 : p + x - x = p := by omega
    have E1 := Lib.hid e1
    clear e1
    go_wp2_with fail
    refine (cut_any _ _ _ _ _ _ _ _ _ _ h2 hz2 h0 (by omega) (by omega) hm hn).mono ?_
    rintro e w2 ⟨g, rfl, hg, hb2, hc⟩
    go_wp2
    go_ret
    have e2 : (p + x).toNat - p.toNat = x.toNat := by omega
    exact ⟨true, p + x, c', q', hk.trans (Kp.of_below hb2), h2.below hb2, HS.out, .inl ⟨rfl, g, by rw [← e2]; rfl, Nat.le_trans hk.size hg, hc⟩⟩

set_option maxHeartbeats 400000 in
theorem take_none (x : Int) (w : World) :
    Calls Try.prog 39 #[.pointer none, .int .i64 x] w fun e w' => e = .returned (.slice none 0 0) ∧ Below w.heap.size w w' := by
  go_enter Try.func39, Try.ntmps39
  go_wp2_with fail
  refine (skip_none _ _).mono ?_
  rintro e w1 ⟨rfl, hb1⟩
  go_wp2
  go_ret
  exact ⟨rfl, hb1⟩

/-- What Byte hands back. -/
def BytePost (b : Nat) (s : Value) (n : Nat) (z : List Int) (p c q : Int) (w : World) (e : Ending) (w' : World) : Prop :=
  ∃ ok p' c' q', Kp b w w' ∧ IsRd w' b s p' c' q' ∧ SkipSt n p c q 1 ok p' c' q' ∧ e = .returned (.int .u8 (if ok = true then z.getD p.toNat 0 else 0))

set_option maxHeartbeats 400000 in
theorem byte_any (b : Nat) (a : Option Addr) (n m : Nat) (z : List Int) (p c q : Int) (w : World) (h : IsRd w b (.slice a n m) p c q) (hz : Bs w a n z) (h0 : 0 ≤ p) (h1 : p ≤ n) (hn : n ≤ 1000000) :
    Calls Try.prog 55 #[.pointer (some ⟨b, 0, none⟩)] w (BytePost b (.slice a n m) n z p c q w) := by
  obtain ⟨k, rfl⟩ := Int.eq_ofNat_of_zero_le h0
  go_enter Try.func55, Try.ntmps55
  go_wp2_with fail
  refine (skip_any _ _ _ _ _ _ _ _ _ h h0 h1 hn).mono ?_
  rintro e w1 ⟨ok, p', c', q', rfl, hk, h2, hs⟩
  have HS := Lib.hid hs
  clear hs
  cases ok
  · go_wp2
    go_ret
    exact ⟨false, p', c', q', hk, h2, HS.out, rfl⟩
  · have hz2 := hz.kp h (by simp) hk
    have hx : (1 : Int) ≤ n - k ∧ p' = k + 1 := by
      rcases HS.out with ⟨_, h, _⟩ | ⟨_, _, h, _⟩ | ⟨_, _, h, _⟩ | ⟨_, _, a3, _, a4, _⟩
      · cases h
      · cases h
      · cases h
      · exact ⟨a3, a4⟩
    obtain ⟨x1, rfl⟩ := hx
    obtain ⟨d0, d1, d2, d3⟩ := h2.cells
    clear d2 d3
    obtain ⟨g, o, rfl, hcell⟩ := hz2.at_ (k := k) (by omega)
    have k1 : (k : Int) < n := by omega
    go_wp2
    go_quiet (fail)
    go_wp2
    go_ret
    exact ⟨true, k + 1, c', q', hk.trans (Kp.drewN _ _ _), h2, HS.out, rfl⟩

set_option maxHeartbeats 400000 in
theorem byte_none (w : World) :
    Calls Try.prog 55 #[.pointer none] w fun e w' => e = .returned (.int .u8 0) ∧ Below w.heap.size w w' := by
  go_enter Try.func55, Try.ntmps55
  go_wp2_with fail
  refine (skip_none _ _).mono ?_
  rintro e w1 ⟨rfl, hb1⟩
  go_wp2
  go_ret
  exact ⟨rfl, hb1⟩

/-- What Since hands back. -/
def SincePost (z : List Int) (p f : Int) (w : World) (e : Ending) (w' : World) : Prop :=
  Below w.heap.size w w' ∧ ((0 ≤ f ∧ f ≤ p ∧ ∃ g, e = .returned (.slice (some ⟨g, 0, none⟩) (p.toNat - f.toNat) (p.toNat - f.toNat)) ∧ w.heap.size ≤ g ∧ w'.heap[g]? = some (.cells ((piece z f.toNat p.toNat).map (Value.int .u8)).toArray 5 (0, 0))) ∨
    ((f < 0 ∨ p < f) ∧ e = .returned (.slice none 0 0)))

end Go.Proofs.Ytkedmhopajpkhaa.Cur
