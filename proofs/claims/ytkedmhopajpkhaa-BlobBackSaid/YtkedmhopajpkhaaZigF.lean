/- ReadRising: the next numbers of a rising list, or nothing with a fault. -/
import Derived.Test.YtkedmhopajpkhaaZigE
namespace Go.Proofs.Ytkedmhopajpkhaa.Cur
open Go.RowKit Mem
set_option linter.unusedVariables false

theorem rw_new (w : World) (xs : List Value) (t : Nat) : Rw (w.alloc (.cells xs.toArray t)) (some ⟨w.heap.size, 0, none⟩) xs := fun _ =>
  ⟨_, _, rfl, fun i v hi => by
    rw [Nat.zero_add]
    exact (Blk.new w xs.toArray t).cell i (by simpa using hi)⟩
theorem own_ge {w : World} {B e size n : Nat} {v : Value} {xs : List Value} (h : w.ownsRow B e size v n xs) : ∀ g, v.ownBlock = some g → B ≤ g := fun g hg => (World.ownsRow.lt h g hg).1
theorem Kp.grown {b : Nat} {w w1 w2 : World} {r : Option Nat} (h : Kp b w w1) (k : w1.grownBy w2 r) (hr : ∀ g, r = some g → w.heap.size ≤ g) : Kp b w w2 :=
  ⟨k.os.trans h.os, k.tape.trans h.tape, k.output.trans h.output, Nat.le_trans h.size k.size, fun i hi hb => (k.block i (Nat.lt_of_lt_of_le hi h.size) (fun e => by have := hr i e.symm; omega)).trans (h.block i hi hb)⟩
theorem rd_grown {w w' : World} {b : Nat} {s : Value} {p c q : Int} {r : Option Nat} (h : IsRd w b s p c q) (k : w.grownBy w' r) (hr : r ≠ some b) : IsRd w' b s p c q := (k.block b h.lt (fun e => hr e.symm)).trans h
theorem OwnU.ne_rd {w : World} {B b : Nat} {v s : Value} {z : List Int} {p c q : Int} (h : OwnU w B v z) (hr : IsRd w b s p c q) : v.ownBlock ≠ some b := own_ne_blk h hr (by decide)

theorem rg_fault {n : Nat} {z : List Int} {p q : Int} {N : Nat} {p' c' q' : Int} (e : rgo z N p [] = ([], 0, c', q')) (hc : c' ≠ 0) (h0 : 0 ≤ p') (h1 : p' ≤ n) : RgSt n z p 0 q N [] p' c' q' :=
  ⟨h0, h1, .inr (.inr ⟨rfl, by rw [e]; exact hc, rfl, by rw [e], by rw [e]⟩)⟩
theorem rg_done {n : Nat} {z : List Int} {p q : Int} {N : Nat} {l : List Int} {p' : Int} (e : rgo z N p [] = (l, p', 0, 0)) (h0 : 0 ≤ p') (h1 : p' ≤ n) : RgSt n z p 0 q N l p' 0 q :=
  ⟨h0, h1, .inr (.inl ⟨rfl, by rw [e], by rw [e], by rw [e], rfl, rfl⟩)⟩
def RRgPost (b : Nat) (s : Value) (n : Nat) (z : List Int) (p c q : Int) (N : Nat) (w : World) (e : Ending) (w' : World) : Prop :=
  ∃ v l p' c' q', e = .returned v ∧ OwnU w' w.heap.size v l ∧ Kp b w w' ∧ IsRd w' b s p' c' q' ∧ RgSt n z p c q N l p' c' q' ∧ ∀ x ∈ l, 0 ≤ x ∧ x < 18446744073709551616


end Go.Proofs.Ytkedmhopajpkhaa.Cur
