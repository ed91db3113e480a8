/- Chains: the places with a key, yielded; the first so many of them. -/
import Derived.Test.YtgiemddiiognlaaChnC
import Derived.RangeFuncBox
import Derived.RangeFuncNested
import Derived.RangeFuncLeaves
import Derived.Shelf.Abstract
import Derived.Shelf.RegionOpen
import Derived.WalkKit
import Derived.OwnWalkIn
import Derived.TacticsInMore
import Derived.LoopNIn
import Derived.LoopIn
import Derived.Maps.AppendAt
namespace Go.Proofs.Ytgiemddiiognlaa.Cur
open Go.RowKit Go.Shelf Mem
attribute [local go_sem] Oper.semAt_some
set_option linter.unusedVariables false
set_option maxRecDepth 100000

/-- What a yielding function that goes along a row finds there: the next place stands at each place. -/
def Lnk (w : World) (g o k : Nat) (i : Int) : List Nat → Prop
  | [] => True
  | x :: r => x < k ∧ i - x ≤ 65536 ∧ -9000000000000000000 ≤ i - x ∧ (∀ y s, r = y :: s → y < x) ∧ w.cell? ⟨g, o + x, none⟩ = some (.int .i64 (nh r)) ∧ Lnk w g o k i r
theorem Lnk.keep {w w' : World} {g o k : Nat} {i : Int} (hg : w'.heap[g]? = w.heap[g]?) : ∀ {L : List Nat}, Lnk w g o k i L → Lnk w' g o k i L
  | [], _ => trivial
  | x :: r, ⟨h1, h2, h3, h4, h5, h6⟩ => ⟨h1, h2, h3, h4, (World.cell?_of_block (w := w) hg).trans h5, Lnk.keep hg h6⟩
theorem Lnk.drop {w : World} {g o k : Nat} {i : Int} {rest : List Nat} : ∀ {pre : List Nat}, Lnk w g o k i (pre ++ rest) → Lnk w g o k i rest
  | [], h => h
  | x :: pre, ⟨_, _, _, _, _, h⟩ => Lnk.drop h
/-- The blocks that are read between two rounds. -/
def PT (p q c g : Nat) : Nat → Prop := fun k => k = p ∨ k = q ∨ k = c ∨ k = g
def KpT (p q c g : Nat) (W W' : World) : Prop := ∀ k, PT p q c g k → W'.heap[k]? = W.heap[k]?
theorem KpT.trans {p q c g : Nat} {A B C : World} (h : KpT p q c g A B) (k : KpT p q c g B C) : KpT p q c g A C := fun i hi => (k i hi).trans (h i hi)
theorem KpT.refl (p q c g : Nat) (A : World) : KpT p q c g A A := fun _ _ => rfl
def Pls (w : World) (f p q c g o k : Nat) (i : Int) (L : List Nat) : Prop :=
  w.cell? ⟨f, 0, none⟩ = some (.int .i64 (nh L)) ∧ w.cell? ⟨p, 0, none⟩ = some (.int .i64 i) ∧ (L ≠ [] → ∃ cv, w.cell? ⟨q, 0, none⟩ = some (.pointer (some ⟨c, 0, none⟩)) ∧ w.cell? ⟨c, 2, none⟩ = some (.slice (some ⟨g, o, none⟩) k cv)) ∧ Lnk w g o k i L

theorem cell_kpt {p q c g : Nat} {W W' : World} (h : KpT p q c g W W') {b o : Nat} (hb : PT p q c g b) : W'.cell? ⟨b, o, none⟩ = W.cell? ⟨b, o, none⟩ := World.cell?_of_block (w := W) (h b hb)

set_option maxHeartbeats 2000000 in
theorem places1_in (F : Fence) (n : Nat) (hf : F.fn 27) (hro : F.round = none) (hn : 1 ≤ n) (l f p q c g o k : Nat) (i : Int) (L : List Nat) (J Jx : List Nat → World → Prop)
    (hY : ∀ pre x W, J pre W → pre.length < L.length → YieldAt F (n - 1) Try.prog l #[.int .i64 ((x : Nat) : Int)] W fun e W' =>
      (e = .returned (.bool true) ∧ J (pre ++ [x]) W' ∧ KpT p q c g W W') ∨ (e = .returned (.bool false) ∧ Jx (pre ++ [x]) W'))
    (W : World) (hP : Pls W f p q c g o k i L) (h0 : J [] W) (hi : -9223372036854775808 ≤ i ∧ i ≤ 9223372036854775807) (hk : k ≤ 100000) :
    CallsIn F n Try.prog 27 #[.func (.yield l) #[] #[], .pointer (some ⟨f, 0, none⟩), .pointer (some ⟨p, 0, none⟩), .pointer (some ⟨q, 0, none⟩)] W fun e W' => (∃ v, e = .returned v) ∧
      ((∃ ys, ys = L ∧ J ys W') ∨ (∃ pre, pre <+: L ∧ Jx pre W')) := by
  obtain ⟨c1, c2, c3, hL⟩ := hP
  refine callsIn_of_wp Try.func27 rfl hf ?_ hro
  simp only [Try.ntmps27, List.size_toArray, List.length_cons, List.length_nil, Nat.reduceAdd, Nat.reduceSub, Array.replicate_succ, Array.replicate_zero, List.push_toArray, List.append_toArray, List.nil_append, List.cons_append]
  have C2 := Lib.hid c2
  have C3 := Lib.hid c3
  have HL := Lib.hid hL
  clear c2 c3 hL
  gi_wp2
  clear c1
  gi_loopw [5] (fun v wr => ∃ (pre rest : List Nat), v = .int .i64 (nh rest) ∧ L = pre ++ rest ∧ KpT p q c g W wr ∧ J pre wr) (fun v wr => (intOf v + 1).toNat)
  case atStart => exact ⟨[], L, rfl, rfl, KpT.refl _ _ _ _ _, h0⟩
  case round =>
    obtain ⟨pre, rest, rfl, hx, hkp, hJ⟩ := hrel
    cases rest with
    | nil =>
      rw [show nh [] = -1 from rfl]
      gi_wp2
      refine ⟨fun _ h => (by cases h), ?_⟩
      gi_wp2
      go_end0
      exact ⟨⟨_, rfl⟩, .inl ⟨pre, by simp [hx], hJ⟩⟩
    | cons x r =>
      have hl := HL.out
      rw [hx] at hl
      obtain ⟨b1, b2, b3, b4, b5, _⟩ := hl.drop
      rw [show nh (x :: r) = (x : Int) from rfl]
      obtain ⟨cv, d1, d2⟩ := C3.out (by rw [hx]; simp)
      have m2 := (cell_kpt (o := 0) hkp (.inl rfl)).trans C2.out
      obtain ⟨fn, tmps, assign, body, hy, hR⟩ := hY pre x wr hJ (by rw [hx]; simp)
      have e1 : ((x : Int) != -1) = true := by simp <;> omega
      have e2 : ¬ (x : Int) = -1 := by omega
      have HX := Lib.hid hx
      have B4 := Lib.hid b4
      have B5 := Lib.hid b5
      have D1 := Lib.hid d1
      have D2 := Lib.hid d2
      clear hx b4 b5 d1 d2 hl
      gi_wp2
      refine hR.mono ?_
      rintro e W3 (⟨rfl, hJ3, hk3⟩ | ⟨rfl, hJx3⟩)
      · have hkk := hkp.trans hk3
        have m3 := (cell_kpt (o := 0) hkk (.inr (.inl rfl))).trans D1.out
        have m4 := (cell_kpt (o := 2) hkk (.inr (.inr (.inl rfl)))).trans D2.out
        have m5 := (cell_kpt (o := o + x) hkk (.inr (.inr (.inr rfl)))).trans B5.out
        clear hy hR
        gi_wp2
        go_roundw
        case rel => exact ⟨pre ++ [x], r, rfl, by rw [HX.out]; simp, hkk, hJ3⟩
        case measure =>
          have := B4.out
          cases r with
          | nil => simp [intOf, nh] <;> omega
          | cons y s => have := this y s rfl; simp [intOf, nh] <;> omega
      · gi_wp2
        go_end0
        exact ⟨⟨_, rfl⟩, .inr ⟨pre ++ [x], ⟨r, by rw [HX.out]; simp⟩, hJx3⟩⟩
/-- They are what Places' own function yields. -/
theorem places_stops (F : Fence) (n : Nat) (hf : F.fn 27) (hro : F.round = none) (hn : 1 ≤ n) (f p q c g o k : Nat) (i : Int) (L : List Nat) (w : World) (hP : Pls w f p q c g o k i L) (hi : -9223372036854775808 ≤ i ∧ i ≤ 9223372036854775807) (hk : k ≤ 100000)
    (hlt : f < w.heap.size ∧ p < w.heap.size ∧ q < w.heap.size ∧ (L ≠ [] → c < w.heap.size ∧ g < w.heap.size)) :
    SeqStopsK F n Try.prog 27 #[.pointer (some ⟨f, 0, none⟩), .pointer (some ⟨p, 0, none⟩), .pointer (some ⟨q, 0, none⟩)] (fun x : Nat => #[Value.int .i64 (x : Int)]) (KpT p q c g) (fun ys => ys = L) (fun pre => pre <+: L) L.length w := fun l J Jx W hW _ _ hY h0 =>
  places1_in F n hf hro hn l f p q c g o k i L J Jx hY W
    ⟨(hW.cell (p := ⟨f, 0, none⟩) hlt.1).trans hP.1, (hW.cell (p := ⟨p, 0, none⟩) hlt.2.1).trans hP.2.1, fun h => by
      obtain ⟨cv, h1, h2⟩ := hP.2.2.1 h
      exact ⟨cv, (hW.cell (p := ⟨q, 0, none⟩) hlt.2.2.1).trans h1, (hW.cell (p := ⟨c, 2, none⟩) (hlt.2.2.2 h).1).trans h2⟩, by
      by_cases h : L = []
      · subst h; trivial
      · exact Lnk.keep (hW.block g (hlt.2.2.2 h).2) hP.2.2.2⟩ h0 hi hk

/-- From a chain: the places ahead of i are found so. -/
theorem Chn.lnk {w : World} {B c mb : Nat} {r : Option Nat} {A : Option Addr} {n m : Nat} {z : List Int} {a : Nat} {g o : Nat} (hc : ∀ i, i < a → w.cell? ⟨g, o + i, none⟩ = some (.int .i64 (nh (nrs z i i)))) (hz : z.length ≤ 60000) {i : Int} (hi : i ≤ 60000 ∧ -1 ≤ i) : ∀ (L : List Nat) (b : Nat) (j : Int), b ≤ a → j ≤ i → L = nrs z b j → Lnk w g o a i L
  | [], _, _, _, _, _ => trivial
  | x :: s, b, j, hb, hj, h => by
    obtain ⟨h1, h2, h3, h4, h5⟩ := nrs_cons h.symm
    refine ⟨by omega, by omega, by omega, ?_, ?_, Chn.lnk (B := B) (c := c) (mb := mb) (r := r) (A := A) (n := n) (m := m) hc hz hi s x x (by omega) (by omega) h5⟩
    · rintro y t rfl
      have := nrs_cons h5.symm
      omega
    · rw [h5]
      exact hc x (by omega)
end Go.Proofs.Ytgiemddiiognlaa.Cur
