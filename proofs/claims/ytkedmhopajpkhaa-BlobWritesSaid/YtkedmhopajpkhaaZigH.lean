/- The document's reader of a rising list. -/
import Derived.Test.YtkedmhopajpkhaaZigG
import Derived.Deep.Cut
namespace Go.Proofs.Ytkedmhopajpkhaa.Cur
open Go.RowKit Mem
set_option linter.unusedVariables false

abbrev cvs (s : Value) (p c q : Int) : Array Value := #[s, .int .i64 p, .int .i64 c, .int .i64 q]
theorem below_set {w w' : World} {B b : Nat} (h : Below B w w') (hb : B ≤ b) (o : Nat) (v : Value) : Below B w (w'.setCell ⟨b, o, none⟩ v) := Below.setCell h hb v
/-- The state of the loop. -/
def RL (a : Option Addr) (n m : Nat) (z : List Int) (p q : Int) (N : Nat) (w : World) (v i : Value) (wr : World) : Prop :=
  ∃ (k : Nat) (pk : Int) (acc : List Int), (k : Int) ≤ pk - p ∧ i = .int .i64 k ∧ OwnU wr (w.heap.size + 2) v acc ∧ acc.length = k ∧ Blk wr w.heap.size (cvs (.slice a n m) pk 0 q) 43 ∧ Blk wr (w.heap.size + 1) (cvs (.slice none 0 0) 0 0 0) 43 ∧ Below w.heap.size w wr ∧ 0 ≤ pk ∧ pk ≤ n ∧
    Hid (k ≤ N ∧ rgo z N p [] = rgo z (N - k) pk acc ∧ ∀ x ∈ acc, 0 ≤ x ∧ x < 18446744073709551616)

/-- Behind the copy of what was read. -/
theorem copied {w wr : World} {v : Value} {acc : List Int} {s : Value} {p c q : Int} (p' c' q' : Int) {a' : Array Value}
    (hC : Blk wr w.heap.size (cvs s p c q) 43) (hR : Blk wr (w.heap.size + 1) a' 43) (ho : OwnU wr (w.heap.size + 2) v acc) (hb : Below w.heap.size w wr) :
    ∃ w1, (((((wr.setCell ⟨w.heap.size, 0, none⟩ s).setCell ⟨w.heap.size, 1, none⟩ (.int .i64 p')).setCell ⟨w.heap.size, 2, none⟩ (.int .i64 c')).setCell ⟨w.heap.size, 3, none⟩ (.int .i64 q'))).alloc (.cells #[s, .int .i64 p', .int .i64 c', .int .i64 q'] 43) = w1 ∧
    Blk w1 w.heap.size (cvs s p' c' q') 43 ∧ Blk w1 (w.heap.size + 1) a' 43 ∧ OwnU w1 (w.heap.size + 2) v acc ∧ Below w.heap.size w w1 := by
  obtain ⟨h1, h2⟩ := set4 hC s (.int .i64 p') (.int .i64 c') (.int .i64 q')
  have h3 := Kp.below hb (Nat.le_refl _) h2 (Nat.le_refl _)
  exact ⟨_, rfl, h1.alloc _, (blk_kp hR h2 (by omega)).alloc _, own_below (own_kp ho h2 (fun e => by have := own_ge ho _ e; omega)) (below_one _ _), h3.alloc h3.size _⟩
theorem set4_below {w wr : World} {B g : Nat} (h : Below B w wr) (hg : B ≤ g) (u0 u1 u2 u3 : Value) : Below B w ((((wr.setCell ⟨g, 0, none⟩ u0).setCell ⟨g, 1, none⟩ u1).setCell ⟨g, 2, none⟩ u2).setCell ⟨g, 3, none⟩ u3) :=
  (((h.setCell hg _).setCell hg _).setCell hg _).setCell hg _
theorem set4_own {wr : World} {B g : Nat} {v : Value} {acc : List Int} (h : OwnU wr B v acc) (hg : g < B) (u0 u1 u2 u3 : Value) : OwnU ((((wr.setCell ⟨g, 0, none⟩ u0).setCell ⟨g, 1, none⟩ u1).setCell ⟨g, 2, none⟩ u2).setCell ⟨g, 3, none⟩ u3) B v acc := by
  have one : ∀ {w : World} (o : Nat) (u : Value), OwnU w B v acc → OwnU (w.setCell ⟨g, o, none⟩ u) B v acc := fun o u h =>
    own_block h fun k hk => Below.heap_setCell _ _ _ k (fun e => by have := own_ge h k hk; have e : k = g := e; omega)
  exact one _ _ (one _ _ (one _ _ (one _ _ h)))
theorem OwnU.base {w : World} {B B' : Nat} {v : Value} {acc : List Int} (h : OwnU w B v acc) (hB : B' ≤ B) : OwnU w B' v acc := own_base h fun g hg => Nat.le_trans hB (own_ge h g hg)


end Go.Proofs.Ytkedmhopajpkhaa.Cur
