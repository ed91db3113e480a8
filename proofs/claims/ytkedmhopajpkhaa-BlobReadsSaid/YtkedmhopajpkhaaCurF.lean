/- Bytes that are appended to a row of the call's own; Take where there are enough bytes. -/
import Derived.Test.YtkedmhopajpkhaaCurE
import Derived.Maps.AppendAt
import Derived.Laws.AppendOwnNone
namespace Go.Proofs.Ytkedmhopajpkhaa.Cur
open Go.RowKit
set_option linter.unusedVariables false

theorem Own.ne_rd {w : World} {B b : Nat} {v s : Value} {z : List Int} {p c q : Int} (h : Own w B v z) (hr : IsRd w b s p c q) : v.ownBlock ≠ some b := by
  rcases h.2 with ⟨rfl, _⟩ | ⟨g, cap, cur, rfl, _, hh, _⟩
  · simp [Value.ownBlock]
  · intro he
    have : g = b := by simpa [Value.ownBlock] using he
    subst this
    unfold IsRd at hr
    rw [hh] at hr
    simp at hr
theorem Own.kp {w w' : World} {B b : Nat} {v s : Value} {z : List Int} {p c q : Int} (h : Own w B v z) (hr : IsRd w b s p c q) (hb : Kp b w w') : Own w' B v z :=
  h.block fun k hk => hb.block k (World.ownsRow.lt h k hk).2 (fun e => h.ne_rd hr (by rw [hk, e]))
theorem IsRd.grown {w w' : World} {b B : Nat} {s v : Value} {p c q : Int} {z : List Int} (h : IsRd w b s p c q) (hown : Own w B v z) (hg : w.grownBy w' v.ownBlock) : IsRd w' b s p c q :=
  (hg.block b h.lt (fun e => hown.ne_rd h e.symm)).trans h
def TakenPost (b : Nat) (s : Value) (z : List Int) (p q x : Int) (w : World) (e : Ending) (w' : World) : Prop :=
  ∃ g, e = .returned (.slice (some ⟨g, 0, none⟩) x.toNat x.toNat) ∧ w.heap.size ≤ g ∧ Kp b w w' ∧ IsRd w' b s (p + x) 0 q ∧ Bs w' (some ⟨g, 0, none⟩) x.toNat (piece z p.toNat (p + x).toNat)

theorem take_yes (b : Nat) (a : Option Addr) (n m : Nat) (z : List Int) (p q x : Int) (w : World) (h : IsRd w b (.slice a n m) p 0 q) (hz : Bs w a n z) (h0 : 0 ≤ p) (hm : n ≤ m) (hn : n ≤ 1000000) (hx0 : 0 ≤ x) (hx1 : x ≤ n - p) :
    Calls Try.prog 39 #[.pointer (some ⟨b, 0, none⟩), .int .i64 x] w (TakenPost b (.slice a n m) z p q x w) := by
  refine (take_any _ _ _ _ _ _ _ _ _ _ h hz h0 (by omega) hm hn).mono ?_
  rintro e w2 ⟨ok, p', c', q', hk, hr2, hs, ht⟩
  obtain ⟨rfl, rfl, rfl, rfl⟩ := skip_yes hs hx0 hx1
  rcases ht with ⟨_, g, rfl, hg, hrow⟩ | ⟨h, _⟩
  · refine ⟨g, rfl, hg, hk, hr2, ?_⟩
    have := Bs.of_block hrow
    rw [length_piece hz.1 (by omega)] at this
    rw [show x.toNat = (p + x).toNat - p.toNat by omega]
    exact this
  · cases h
end Go.Proofs.Ytkedmhopajpkhaa.Cur
