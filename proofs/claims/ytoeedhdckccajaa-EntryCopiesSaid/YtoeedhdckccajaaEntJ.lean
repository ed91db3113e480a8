/- Entries: what two copies and two boxes are, made in no order; a copy that is written to; two entries in a row. -/
import Derived.Test.YtoeedhdckccajaaEntI
import Derived.Test.YtoeedhdckccajaaSeqG
namespace Go.Proofs.Ytoeedhdckccajaa.Cur
open Go.RowKit Mem
set_option linter.unusedVariables false
set_option maxRecDepth 100000

def EcG (B0 n r : Nat) (L : List Lk) (D : List Int) (o : Oper) (v : SeqG.Gv) (w' : World) : Prop :=
  ((o.dst = some 17 ∨ o.dst = some 19) ∧ v.2.1 ≤ v.2.2 ∧ v.2.2 ≤ w'.heap.size ∧ B0 ≤ v.2.1 ∧ ∃ A m B k, v.1 = enagg A n m B r k ∧ CpIn w' v.2.1 v.2.2 A n m B r k L D) ∨
  ((o.dst = some 5 ∨ o.dst = some 6) ∧ ∃ b, v.1 = .pointer (some ⟨b, 0, none⟩) ∧ v.2 = (b, b + 1) ∧ B0 ≤ b ∧ Blk w' b (enc' none 0 0 none 0 0) 26)
def EcD (u v : SeqG.Gv) : Prop := u.2.2 ≤ v.2.1 ∨ v.2.2 ≤ u.2.1
theorem ecg_hi {B0 n r : Nat} {L : List Lk} {D : List Int} {o : Oper} {v : SeqG.Gv} {w : World} (h : EcG B0 n r L D o v w) : v.2.2 ≤ w.heap.size := by
  rcases h with ⟨_, _, h, _⟩ | ⟨_, b, _, e, _, h⟩
  · exact h
  · rw [e]; exact h.lt
theorem ecg_keep {B0 n r : Nat} {L : List Lk} {D : List Int} {o : Oper} {v : SeqG.Gv} {w w' : World} (h : EcG B0 n r L D o v w) (hb : Below w.heap.size w w') : EcG B0 n r L D o v w' := by
  rcases h with ⟨h1, h2, h3, h4, A, m, B, k, e, h5⟩ | ⟨h1, b, e1, e2, h2, h3⟩
  · exact .inl ⟨h1, h2, Nat.le_trans h3 hb.size, h4, A, m, B, k, e, h5.below hb⟩
  · exact .inr ⟨h1, b, e1, e2, h2, h3.below hb⟩
theorem set2e {w : World} {b : Nat} {x y : Value} {t : Nat} (h : Blk w b #[x, y] t) (u v : Value) : Blk ((w.setCell ⟨b, 0, none⟩ u).setCell ⟨b, 1, none⟩ v) b #[u, v] t ∧ ∀ g, g ≠ b → ((w.setCell ⟨b, 0, none⟩ u).setCell ⟨b, 1, none⟩ v).heap[g]? = w.heap[g]? :=
  ⟨(h.set 0 u).set 1 v, fun g hg => by rw [Below.heap_setCell _ _ _ _ hg, Below.heap_setCell _ _ _ _ hg]⟩
/-- Bytes that may be written to; links. -/
def DtS (w : World) (B : Option Addr) (r lo hi : Nat) : Prop := 0 < r → ∃ g cur, B = some ⟨g, 0, none⟩ ∧ lo ≤ g ∧ g < hi ∧ Blk w g cur 5 ∧ ∀ i, i < r → ∃ y, cur[i]? = some (.int .u8 y)
def LkS2 (w : World) (A : Option Addr) (n lo hi : Nat) : Prop := 0 < n → ∃ g cur, A = some ⟨g, 0, none⟩ ∧ lo ≤ g ∧ g < hi ∧ Blk w g cur 66 ∧ ∀ i, i < n → ∃ x, cur[i * 2]? = some (.int .u64 x)
theorem DtS.below {w w' : World} {B : Option Addr} {r lo hi : Nat} (h : DtS w B r lo hi) (hb : Below w.heap.size w w') : DtS w' B r lo hi := fun h0 => by
  obtain ⟨g, cur, e, q1, q2, q3, q4⟩ := h h0
  exact ⟨g, cur, e, q1, q2, q3.below hb, q4⟩
theorem LkS2.below {w w' : World} {A : Option Addr} {n lo hi : Nat} (h : LkS2 w A n lo hi) (hb : Below w.heap.size w w') : LkS2 w' A n lo hi := fun h0 => by
  obtain ⟨g, cur, e, q1, q2, q3, q4⟩ := h h0
  exact ⟨g, cur, e, q1, q2, q3.below hb, q4⟩
theorem LkS2.bset {w : World} {A : Option Addr} {n lo hi g o : Nat} {cur : Array Value} {v : Value} (h : LkS2 w A n lo hi) (hg : Blk w g cur 5) : LkS2 (w.setCell ⟨g, o, none⟩ v) A n lo hi := fun h0 => by
  obtain ⟨g', cur', e, q1, q2, q3, q4⟩ := h h0
  have hne : g' ≠ g := fun e => by
    subst e
    have h1 : w.heap[g']? = some (.cells cur 5) := hg
    have h2 : w.heap[g']? = some (.cells cur' 66) := q3
    rw [h1] at h2
    injection h2 with h2
    injection h2 with _ h2
    exact absurd h2 (by decide)
  exact ⟨g', cur', e, q1, q2, q3.far (g := g) o v hne, q4⟩
theorem DtS.set {w : World} {g r lo hi k : Nat} {cur : Array Value} (z : Int) (q1 : lo ≤ g) (q2 : g < hi) (hg : Blk w g cur 5) (hc : ∀ i, i < r → ∃ y, cur[i]? = some (.int .u8 y)) : DtS (w.setCell ⟨g, k, none⟩ (.int .u8 z)) (some ⟨g, 0, none⟩) r lo hi := fun _ =>
  ⟨g, cur.set! k (.int .u8 z), rfl, q1, q2, hg.set k _, fun i hi => by
    obtain ⟨y, hy⟩ := hc i hi
    simp only [Array.set!_eq_setIfInBounds, Array.getElem?_setIfInBounds]
    by_cases h : k = i
    · subst h
      have := (Array.getElem?_eq_some_iff.1 hy).1
      exact ⟨z, by rw [if_pos rfl, if_pos this]⟩
    · exact ⟨y, by rw [if_neg h]; exact hy⟩⟩
theorem LkS2.set {w : World} {g n lo hi k : Nat} {cur : Array Value} (z : Int) (q1 : lo ≤ g) (q2 : g < hi) (hg : Blk w g cur 66) (hc : ∀ i, i < n → ∃ x, cur[i * 2]? = some (.int .u64 x)) : LkS2 (w.setCell ⟨g, k * 2, none⟩ (.int .u64 z)) (some ⟨g, 0, none⟩) n lo hi := fun _ =>
  ⟨g, cur.set! (k * 2) (.int .u64 z), rfl, q1, q2, hg.set (k * 2) _, fun i hi => by
    obtain ⟨y, hy⟩ := hc i hi
    simp only [Array.set!_eq_setIfInBounds, Array.getElem?_setIfInBounds]
    by_cases h : k * 2 = i * 2
    · rw [h]
      have := (Array.getElem?_eq_some_iff.1 hy).1
      exact ⟨z, by rw [if_pos rfl, if_pos this]⟩
    · exact ⟨y, by rw [if_neg h]; exact hy⟩⟩
theorem ens_two {w : World} {g : Nat} {P Q : Nat → Prop} {A A2 B B2 : Option Addr} {n n2 m m2 r r2 k k2 : Nat} {L L2 : List Lk} {D D2 : List Int} (h : Blk w g #[.slice A n m, .slice B r k, .slice A2 n2 m2, .slice B2 r2 k2] 26)
    (hz : Lks w P A n L) (hm : n ≤ m) (hnil : A = none → m = 0) (hd : Bs w B r D) (hk : r ≤ k) (hnb : B = none → k = 0) (hb : ∀ x ∈ D, 0 ≤ x ∧ x < 256)
    (hz2 : Lks w Q A2 n2 L2) (hm2 : n2 ≤ m2) (hnil2 : A2 = none → m2 = 0) (hd2 : Bs w B2 r2 D2) (hk2 : r2 ≤ k2) (hnb2 : B2 = none → k2 = 0) (hb2 : ∀ x ∈ D2, 0 ≤ x ∧ x < 256) :
    Ens w (fun _ => True) (some ⟨g, 0, none⟩) 2 [(L, D), (L2, D2)] := by
  refine ens_of_cells rfl trivial fun i hi => ?_
  rcases i with _ | _ | i
  · exact ⟨_, _, ⟨h.cell 0 rfl, h.cell 1 rfl⟩, EnE.mk (hz.mono fun _ _ _ => trivial) hm hnil hd.1 hk hnb (hd.sq hb fun _ _ _ => trivial)⟩
  · exact ⟨_, _, ⟨h.cell 2 rfl, h.cell 3 rfl⟩, EnE.mk (hz2.mono fun _ _ _ => trivial) hm2 hnil2 hd2.1 hk2 hnb2 (hd2.sq hb2 fun _ _ _ => trivial)⟩
  · omega
theorem esm_two {x y : En} (hx : x.1.length ≤ 50 ∧ blen 50 x.1 ∧ x.2.length ≤ 500) (hy : y.1.length ≤ 50 ∧ blen 50 y.1 ∧ y.2.length ≤ 500) : esm [x, y] := fun k => by
  rcases k with _ | _ | k
  · exact hx
  · exact hy
  · exact ⟨by simp [en0], fun s hs => by simp [en0] at hs, by simp [en0]⟩
theorem two_dec (x y : En) : decide ([x, y] = [x, x]) = decide (x = y) := by
  by_cases h : x = y
  · subst h; simp
  · have h2 : ¬ y = x := fun e => h e.symm
    simp [h, h2]
end Go.Proofs.Ytoeedhdckccajaa.Cur
