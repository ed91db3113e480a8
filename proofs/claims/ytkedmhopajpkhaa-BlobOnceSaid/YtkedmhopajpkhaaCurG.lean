/- What a law's arguments hold, read off the memory in which it is called: bytes, calls, a start. The calls of a reader that has a fault. -/
import Derived.Test.YtkedmhopajpkhaaCurF
import Derived.Deep.Slices
import Derived.Deep.Strs
import Derived.ProofKit
import Derived.OpenShut
namespace Go.Proofs.Ytkedmhopajpkhaa.Cur
open Go.RowKit Go.ChangeShapes Go.WideShapes
set_option linter.unusedVariables false

section
variable {H : Type} {enc : TypeId × Value → H} {w : World} {base : Nat} {v : Value} {d : DataW H} {p : List MemPlace}

/-- At an address lie n calls: kind, number, place of each. -/
def IsDos (w : World) (A : Option Addr) (n : Nat) : Prop :=
  ∀ i, i < n → ∃ b o x y u, A = some ⟨b, o, none⟩ ∧ w.cell? ⟨b, o + i * 3, none⟩ = some (.int .i64 x) ∧ w.cell? ⟨b, o + i * 3 + 1, none⟩ = some (.int .i64 y) ∧ w.cell? ⟨b, o + i * 3 + 2, none⟩ = some (.int .i64 u) ∧
    (Lit.int .i64 x).wf = true ∧ (Lit.int .i64 y).wf = true ∧ (Lit.int .i64 u).wf = true

theorem IsDos.below {w w' : World} {A : Option Addr} {n : Nat} (h : IsDos w A n) (hb : Below w.heap.size w w') : IsDos w' A n := fun i hi => by
  obtain ⟨b, o, x, y, u, e, h0, h1, h2, r⟩ := h i hi
  exact ⟨b, o, x, y, u, e, (hb.cell (lt_of_cell h0)).trans h0, (hb.cell (lt_of_cell h1)).trans h1, (hb.cell (lt_of_cell h2)).trans h2, r⟩

theorem addr_flat {b o i j : Nat} : ((⟨b, o, none⟩ : Addr).add (i * 3)).add j = ⟨b, o + i * 3 + j, none⟩ := by
  rw [addr_add_add]
  unfold Addr.add
  split
  · rename_i h
    have h1 : o + i * 3 + j = o := by omega
    rw [h1]
  · simp [Nat.add_assoc]

end

/-! ### A reader that has a fault: nothing is read, and it stays as it is. -/
def Stays (b : Nat) (s : Value) (p c q : Int) (w w' : World) : Prop := Kp b w w' ∧ IsRd w' b s p c q

theorem take_bad (b : Nat) (a : Option Addr) (n m : Nat) (z : List Int) (p c q x : Int) (w : World) (h : IsRd w b (.slice a n m) p c q) (hz : Bs w a n z) (h0 : 0 ≤ p) (h1 : p ≤ n) (hm : n ≤ m) (hn : n ≤ 1000000) (hc : c ≠ 0) :
    Calls Try.prog 39 #[.pointer (some ⟨b, 0, none⟩), .int .i64 x] w fun e w' => e = .returned (.slice none 0 0) ∧ Stays b (.slice a n m) p c q w w' :=
  (take_any b a n m z p c q x w h hz h0 h1 hm hn).mono fun e w' ⟨ok, p', c', q', hk, hr, hs, ht⟩ => by
    rcases hs with ⟨_, rfl, rfl, rfl, rfl⟩ | ⟨h, _⟩ | ⟨h, _⟩ | ⟨h, _⟩
    · rcases ht with ⟨h, _⟩ | ⟨_, he⟩
      · cases h
      · exact ⟨he, hk, hr⟩
    · exact absurd h hc
    · exact absurd h hc
    · exact absurd h hc
theorem skip_stays (b : Nat) (a : Option Addr) (n m : Nat) (p c q x : Int) (w : World) (h : IsRd w b (.slice a n m) p c q) (h0 : 0 ≤ p) (h1 : p ≤ n) (hn : n ≤ 1000000) (hc : c ≠ 0) :
    Calls Try.prog 53 #[.pointer (some ⟨b, 0, none⟩), .int .i64 x] w fun e w' => e = .returned (.bool false) ∧ Stays b (.slice a n m) p c q w w' :=
  (skip_any b a n m p c q x w h h0 h1 hn).mono fun e w' ⟨ok, p', c', q', he, hk, hr, hs⟩ => by
    rcases hs with ⟨_, rfl, rfl, rfl, rfl⟩ | ⟨h, _⟩ | ⟨h, _⟩ | ⟨h, _⟩
    · exact ⟨he, hk, hr⟩
    · exact absurd h hc
    · exact absurd h hc
    · exact absurd h hc
theorem byte_stays (b : Nat) (a : Option Addr) (n m : Nat) (z : List Int) (p c q : Int) (w : World) (h : IsRd w b (.slice a n m) p c q) (hz : Bs w a n z) (h0 : 0 ≤ p) (h1 : p ≤ n) (hn : n ≤ 1000000) (hc : c ≠ 0) :
    Calls Try.prog 55 #[.pointer (some ⟨b, 0, none⟩)] w fun e w' => e = .returned (.int .u8 0) ∧ Stays b (.slice a n m) p c q w w' :=
  (byte_any b a n m z p c q w h hz h0 h1 hn).mono fun e w' ⟨ok, p', c', q', hk, hr, hs, he⟩ => by
    rcases hs with ⟨_, rfl, rfl, rfl, rfl⟩ | ⟨h, _⟩ | ⟨h, _⟩ | ⟨h, _⟩
    · exact ⟨he, hk, hr⟩
    · exact absurd h hc
    · exact absurd h hc
    · exact absurd h hc
theorem fail_stays (b : Nat) (s : Value) (p c q c' q' : Int) (w : World) (h : IsRd w b s p c q) (hc : c ≠ 0) :
    Calls Try.prog 52 #[.pointer (some ⟨b, 0, none⟩), .int .i64 c', .int .i64 q'] w fun e w' => e = .returned (.tuple #[]) ∧ Stays b s p c q w w' :=
  (fail_no b s p c q c' q' w h (by simpa using hc)).mono fun e w' ⟨he, hb⟩ => ⟨he, Kp.of_below hb, h.below hb⟩
end Go.Proofs.Ytkedmhopajpkhaa.Cur
