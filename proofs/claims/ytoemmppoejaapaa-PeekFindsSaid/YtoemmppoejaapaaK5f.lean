/- As the seat's text, without what nothing here names. -/
import Derived.Test.YtoemmppoejaapaaK4f
import Derived.Laws.BitsAllLaws
import Derived.Test.YtoemmppoejaapaaK1f
import Derived.IntWalk
import Derived.Deep.Cut
namespace Go.Proofs.Ytoemmppoejaapaa.Cur
open Go.RowKit Mem
set_option linter.unusedVariables false
end Go.Proofs.Ytoemmppoejaapaa.Cur
namespace Go.Proofs.Ytoemmppoejaapaa.Cur
open Go.RowKit Mem
set_option linter.unusedVariables false
def risesB : List Int → Bool
  | a :: b :: l => decide (a < b) && risesB (b :: l)
  | _ => true
theorem risesB_iff : ∀ z : List Int, risesB z = true ↔ ∀ i, i + 1 < z.length → z.getD i 0 < z.getD (i + 1) 0
  | [] => by simp [risesB]
  | [a] => by simp [risesB]
  | a :: b :: l => by
    rw [risesB, Bool.and_eq_true, risesB_iff (b :: l), decide_eq_true_eq]
    constructor
    · rintro ⟨h1, h2⟩ i hi
      cases i with
      | zero => simpa using h1
      | succ i => have := h2 i (by simp at hi ⊢; omega); simpa using this
    · intro h
      refine ⟨by simpa using h 0 (by simp), fun i hi => ?_⟩
      have := h (i + 1) (by simp at hi ⊢; omega)
      simpa using this
theorem rises_true {z : List Int} {n k : Nat} (hz : z.length = n) (h : ∀ j, j < k → z.getD j 0 < z.getD (j + 1) 0) (hk : n ≤ k + 1) : risesB z = true :=
  (risesB_iff z).2 fun i hi => h i (by omega)
theorem rises_false {z : List Int} {n k : Nat} (hz : z.length = n) (hk : k + 1 < n) (h : ¬ z.getD k 0 < z.getD (k + 1) 0) : risesB z = false := by
  cases e : risesB z with
  | false => rfl
  | true => exact absurd ((risesB_iff z).1 e k (by omega)) h
theorem Us.cells {w : World} {A : Option Addr} {n : Nat} {z : List Int} (h : Us w A n z) (hn : 0 < n) : ∃ g o, A = some ⟨g, o, none⟩ ∧ g < w.heap.size ∧ ∀ w', Below w.heap.size w w' → ∀ k, k < n → w'.cell? ⟨g, o + k, none⟩ = some (.int .u64 (z.getD k 0)) := by
  obtain ⟨g, o, e, h0⟩ := h.at_ hn
  refine ⟨g, o, e, lt_of_cell h0, fun w' hb k hk => ?_⟩
  obtain ⟨g', o', e', hc⟩ := (h.below hb).at_ hk
  rw [e] at e'
  injection e' with e'
  injection e' with e1 e2
  subst e1 e2
  exact hc
set_option maxHeartbeats 1000000 in
theorem rrises_any (A : Option Addr) (n m : Nat) (z : List Int) (w : World) (hz : Us w A n z) (hn : n ≤ 1000000) (hby : ∀ x ∈ z, 0 ≤ x ∧ x < 18446744073709551616) :
    Calls Try.prog 13 #[.slice A n m] w (BPost (.bool (risesB z)) w) := by
  unfold BPost
  by_cases hn0 : n = 0
  · subst hn0
    have HT := Lib.hid (rises_true (n := 0) (k := 0) hz.1 (by intro j hj; omega) (by omega))
    go_enter Try.func13, Try.ntmps13
    go_wp2
    go_loopw [3] (fun i wr => i = .int .i64 0 ∧ wr = w) (fun i _ => 0)
    case atStart => exact ⟨rfl, rfl⟩
    case round =>
      obtain ⟨rfl, rfl⟩ := hrel
      go_wp2
      go_ret
      exact ⟨by rw [HT.out]; rfl, Below.refl _ _⟩
  · obtain ⟨g, o, rfl, hg, hc⟩ := hz.cells (by omega)
    have HC := Lib.hid hc
    have HZ := Lib.hid hz.1
    have HB := Lib.hid hby
    clear hc hz hby
    go_enter Try.func13, Try.ntmps13
    go_wp2
    go_loopw [3] (fun i wr => ∃ k : Nat, k < n ∧ i = .int .i64 k ∧ Hid (∀ j, j < k → z.getD j 0 < z.getD (j + 1) 0) ∧ Below w.heap.size w wr) (fun i _ => n - (intOf i).toNat)
    case atStart => exact ⟨0, by omega, rfl, Lib.hid (by intro j hj; omega), Below.refl _ _⟩
    case round =>
      obtain ⟨k, hk, rfl, hj, hb⟩ := hrel
      by_cases hlt : k + 1 < n
      · have c0 := HC.out wr hb k hk
        have c1 := HC.out wr hb (k + 1) hlt
        obtain ⟨x0, hx0⟩ : ∃ x, x = z.getD k 0 := ⟨_, rfl⟩
        obtain ⟨x1, hx1⟩ : ∃ x, x = z.getD (k + 1) 0 := ⟨_, rfl⟩
        have b0 := HB.out x0 (by rw [hx0]; exact getD_mem (by rw [HZ.out]; omega))
        have b1 := HB.out x1 (by rw [hx1]; exact getD_mem (by rw [HZ.out]; omega))
        rw [← hx0] at c0
        rw [← hx1] at c1
        have HX0 := Lib.hid hx0
        have HX1 := Lib.hid hx1
        clear hx0 hx1
        have e1 : (k : Int) + 1 < n := by omega
        have e2 : (k : Int) < n := by omega
        have e3 : IntKind.i64.wrap ((k : Int) + 1) = ((k + 1 : Nat) : Int) := IntWalk.i64_in _ (by omega)
        by_cases hle : x0 < x1
        · go_wp2
          go_quiet (fail)
          go_wp2
          go_roundw
          case rel => exact ⟨k + 1, hlt, by go_num, Lib.hid (fun j hjk => by
            rcases Nat.lt_or_ge j k with h | h
            · exact hj.out j h
            · obtain rfl : j = k := by omega
              rw [← HX0.out, ← HX1.out]; exact hle), below_drewN hb _⟩
          case measure => simp [intOf]; omega
        · go_wp2
          go_quiet (fail)
          go_wp2
          go_ret
          exact ⟨by rw [rises_false HZ.out hlt (by rw [← HX0.out, ← HX1.out]; omega)]; rfl, below_drewN hb _⟩
      · go_wp2
        go_ret
        exact ⟨by rw [rises_true HZ.out hj.out (by omega)]; rfl, hb⟩
end Go.Proofs.Ytoemmppoejaapaa.Cur
namespace Go.Proofs.Ytoemmppoejaapaa.Cur
open Go.RowKit Mem
set_option linter.unusedVariables false
end Go.Proofs.Ytoemmppoejaapaa.Cur
namespace Go.Proofs.Ytoemmppoejaapaa.Cur
open Go.RowKit Mem
set_option linter.unusedVariables false
end Go.Proofs.Ytoemmppoejaapaa.Cur
namespace Go.Proofs.Ytoemmppoejaapaa.Cur
open Go.RowKit Mem
set_option linter.unusedVariables false
def rgo (z : List Int) : Nat → Int → List Int → List Int × Int × Int × Int
  | 0, p, acc => (acc, p, 0, 0)
  | n + 1, p, acc =>
    if (vgo (z.drop p.toNat) 0 0).2.2.1 ≠ 0 then ([], 0, (vgo (z.drop p.toNat) 0 0).2.2.1, p + (vgo (z.drop p.toNat) 0 0).2.2.2)
    else if acc = [] then rgo z n (p + (vgo (z.drop p.toNat) 0 0).2.1) [(vgo (z.drop p.toNat) 0 0).1]
    else if 18446744073709551615 - acc.getD (acc.length - 1) 0 ≤ (vgo (z.drop p.toNat) 0 0).1 then ([], 0, 13, p)
    else rgo z n (p + (vgo (z.drop p.toNat) 0 0).2.1) (acc ++ [acc.getD (acc.length - 1) 0 + (vgo (z.drop p.toNat) 0 0).1 + 1])
theorem rgo_bad {z : List Int} {k : Nat} {p : Int} {acc : List Int} (h : (vgo (z.drop p.toNat) 0 0).2.2.1 ≠ 0) : rgo z (k + 1) p acc = ([], 0, (vgo (z.drop p.toNat) 0 0).2.2.1, p + (vgo (z.drop p.toNat) 0 0).2.2.2) := by
  unfold rgo; rw [if_pos h]
theorem rgo_first {z : List Int} {k : Nat} {p : Int} (h : (vgo (z.drop p.toNat) 0 0).2.2.1 = 0) : rgo z (k + 1) p [] = rgo z k (p + (vgo (z.drop p.toNat) 0 0).2.1) [(vgo (z.drop p.toNat) 0 0).1] := by
  rw [rgo, if_neg (by simp [h]), if_pos rfl]
theorem rgo_over {z : List Int} {k : Nat} {p : Int} {acc : List Int} (h : (vgo (z.drop p.toNat) 0 0).2.2.1 = 0) (ha : acc ≠ []) (ho : 18446744073709551615 - acc.getD (acc.length - 1) 0 ≤ (vgo (z.drop p.toNat) 0 0).1) : rgo z (k + 1) p acc = ([], 0, 13, p) := by
  rw [rgo, if_neg (by simp [h]), if_neg ha, if_pos ho]
theorem rgo_next {z : List Int} {k : Nat} {p : Int} {acc : List Int} (h : (vgo (z.drop p.toNat) 0 0).2.2.1 = 0) (ha : acc ≠ []) (ho : ¬ 18446744073709551615 - acc.getD (acc.length - 1) 0 ≤ (vgo (z.drop p.toNat) 0 0).1) :
    rgo z (k + 1) p acc = rgo z k (p + (vgo (z.drop p.toNat) 0 0).2.1) (acc ++ [acc.getD (acc.length - 1) 0 + (vgo (z.drop p.toNat) 0 0).1 + 1]) := by
  rw [rgo, if_neg (by simp [h]), if_neg ha, if_neg ho]
def RgSt (n : Nat) (z : List Int) (p c q : Int) (N : Nat) (l : List Int) (p' c' q' : Int) : Prop :=
  0 ≤ p' ∧ p' ≤ n ∧ ((c ≠ 0 ∧ l = [] ∧ c' = c ∧ q' = q) ∨
  (c = 0 ∧ (rgo z N p []).2.2.1 = 0 ∧ l = (rgo z N p []).1 ∧ p' = (rgo z N p []).2.1 ∧ c' = 0 ∧ q' = q) ∨
  (c = 0 ∧ (rgo z N p []).2.2.1 ≠ 0 ∧ l = [] ∧ c' = (rgo z N p []).2.2.1 ∧ q' = (rgo z N p []).2.2.2))
theorem RgSt.det {n : Nat} {z : List Int} {p c q : Int} {N : Nat} {l l2 : List Int} {p' c' q' p2 c2 q2 : Int} (h : RgSt n z p c q N l p' c' q') (k : RgSt n z p c q N l2 p2 c2 q2) : l = l2 ∧ c' = c2 ∧ q' = q2 ∧ (c' = 0 → p' = p2) := by
  obtain ⟨_, _, h⟩ := h
  obtain ⟨_, _, k⟩ := k
  rcases h with ⟨a0, rfl, rfl, rfl⟩ | ⟨a0, a1, rfl, rfl, rfl, rfl⟩ | ⟨a0, a1, rfl, rfl, rfl⟩ <;>
  rcases k with ⟨b0, rfl, rfl, rfl⟩ | ⟨b0, b1, rfl, rfl, rfl, rfl⟩ | ⟨b0, b1, rfl, rfl, rfl⟩ <;>
  first | exact absurd a0 b0 | exact absurd b0 a0 | exact absurd a1 b1 | exact absurd b1 a1 | exact ⟨rfl, rfl, rfl, fun h => absurd h (by assumption)⟩ | exact ⟨rfl, rfl, rfl, fun _ => rfl⟩
end Go.Proofs.Ytoemmppoejaapaa.Cur
namespace Go.Proofs.Ytoemmppoejaapaa.Cur
open Go.RowKit Mem
set_option linter.unusedVariables false
abbrev Rs (α : Type) := α × Int × Int × Int
def St {α : Type} (d : α) (n : Nat) (g : Rs α) (p c q : Int) (v : α) (p' c' q' : Int) : Prop :=
  0 ≤ p' ∧ p' ≤ n ∧ ((c ≠ 0 ∧ v = d ∧ c' = c ∧ q' = q) ∨ (c = 0 ∧ g.2.2.1 = 0 ∧ v = g.1 ∧ p' = g.2.1 ∧ c' = 0 ∧ q' = q) ∨ (c = 0 ∧ g.2.2.1 ≠ 0 ∧ v = d ∧ c' = g.2.2.1 ∧ q' = g.2.2.2))
theorem St.det {α : Type} {d : α} {n : Nat} {g : Rs α} {p c q : Int} {v v2 : α} {p' c' q' p2 c2 q2 : Int} (h : St d n g p c q v p' c' q') (k : St d n g p c q v2 p2 c2 q2) : v = v2 ∧ c' = c2 ∧ q' = q2 ∧ (c' = 0 → p' = p2) := by
  obtain ⟨_, _, h⟩ := h
  obtain ⟨_, _, k⟩ := k
  rcases h with ⟨a0, rfl, rfl, rfl⟩ | ⟨a0, a1, rfl, rfl, rfl, rfl⟩ | ⟨a0, a1, rfl, rfl, rfl⟩ <;>
  rcases k with ⟨b0, rfl, rfl, rfl⟩ | ⟨b0, b1, rfl, rfl, rfl, rfl⟩ | ⟨b0, b1, rfl, rfl, rfl⟩ <;>
  first | exact absurd a0 b0 | exact absurd b0 a0 | exact absurd a1 b1 | exact absurd b1 a1 | exact ⟨rfl, rfl, rfl, fun h => absurd h (by assumption)⟩ | exact ⟨rfl, rfl, rfl, fun _ => rfl⟩
theorem St.place {α : Type} {d : α} {n : Nat} {g : Rs α} {p c q : Int} {v : α} {p' c' q' : Int} (h : St d n g p c q v p' c' q') : 0 ≤ p' ∧ p' ≤ n := ⟨h.1, h.2.1⟩
theorem St.good {α : Type} {d : α} {n : Nat} {g : Rs α} {p c q : Int} {v : α} {p' q' : Int} (h : St d n g p c q v p' 0 q') : c = 0 ∧ g.2.2.1 = 0 ∧ v = g.1 ∧ p' = g.2.1 ∧ q' = q := by
  obtain ⟨_, _, ⟨h0, _, h1, _⟩ | ⟨h0, h1, h2, h3, _, h4⟩ | ⟨_, h0, _, h1, _⟩⟩ := h
  · exact absurd h1.symm h0
  · exact ⟨h0, h1, h2, h3, h4⟩
  · exact absurd h1.symm h0
theorem St.nil {α : Type} {d : α} {n : Nat} {g : Rs α} {p c q : Int} {v : α} {p' c' q' : Int} (h : St d n g p c q v p' c' q') (hc : c' ≠ 0) : v = d := by
  obtain ⟨_, _, ⟨_, h1, _⟩ | ⟨_, _, _, _, h1, _⟩ | ⟨_, _, h1, _⟩⟩ := h
  · exact h1
  · exact absurd h1 hc
  · exact h1
theorem St.bad {α : Type} {d : α} {n : Nat} {g : Rs α} {p c q : Int} {v : α} {p' c' q' : Int} (h : St d n g p c q v p' c' q') (hc : c ≠ 0) : v = d ∧ c' = c ∧ q' = q := by
  obtain ⟨_, _, ⟨_, h1⟩ | ⟨h0, _⟩ | ⟨h0, _⟩⟩ := h
  · exact h1
  · exact absurd h0 hc
  · exact absurd h0 hc
theorem St.stay {α : Type} {d : α} {n : Nat} {g : Rs α} {p c q p' : Int} (h0 : 0 ≤ p') (h1 : p' ≤ n) (hc : c ≠ 0) : St d n g p c q d p' c q := ⟨h0, h1, .inl ⟨hc, rfl, rfl, rfl⟩⟩
def Rs.bind {α β : Type} (g : Rs α) (d : β) (f : α → Int → Rs β) : Rs β := if g.2.2.1 ≠ 0 then (d, 0, g.2.2.1, g.2.2.2) else f g.1 g.2.1
theorem St.bind {α β : Type} {d1 : α} {d : β} {n : Nat} {g : Rs α} {f : α → Int → Rs β} {p c q : Int} {v : α} {p1 c1 q1 : Int} {u : β} {p2 c2 q2 : Int} (h : St d1 n g p c q v p1 c1 q1) (k : St d n (f v p1) p1 c1 q1 u p2 c2 q2) :
    St d n (g.bind d f) p c q u p2 c2 q2 := by
  obtain ⟨_, _, h⟩ := h
  obtain ⟨k0, k1, k⟩ := k
  refine ⟨k0, k1, ?_⟩
  rcases h with ⟨a0, rfl, rfl, rfl⟩ | ⟨a0, a1, rfl, rfl, rfl, rfl⟩ | ⟨a0, a1, rfl, rfl, rfl⟩
  · rcases k with ⟨b0, rfl, rfl, rfl⟩ | ⟨b0, _⟩ | ⟨b0, _⟩
    · exact .inl ⟨a0, rfl, rfl, rfl⟩
    · exact absurd b0 a0
    · exact absurd b0 a0
  · rcases k with ⟨b0, _⟩ | ⟨b0, b1, rfl, rfl, rfl, rfl⟩ | ⟨b0, b1, rfl, rfl, rfl⟩
    · exact absurd rfl b0
    · refine .inr (.inl ⟨a0, ?_⟩)
      unfold Rs.bind
      rw [if_neg (by simp [a1])]
      exact ⟨b1, rfl, rfl, rfl, rfl⟩
    · refine .inr (.inr ⟨a0, ?_⟩)
      unfold Rs.bind
      rw [if_neg (by simp [a1])]
      exact ⟨b1, rfl, rfl, rfl⟩
  · rcases k with ⟨b0, rfl, rfl, rfl⟩ | ⟨b0, _⟩ | ⟨b0, _⟩
    · refine .inr (.inr ⟨a0, ?_⟩)
      unfold Rs.bind
      rw [if_pos a1]
      exact ⟨a1, rfl, rfl, rfl⟩
    · exact absurd b0 a1
    · exact absurd b0 a1
def Rs.map {α β : Type} (g : Rs α) (f : α → β) : Rs β := (f g.1, g.2.1, g.2.2.1, g.2.2.2)
theorem St.map {α β : Type} {d : α} {n : Nat} {g : Rs α} (f : α → β) {p c q : Int} {v : α} {p' c' q' : Int} (h : St d n g p c q v p' c' q') : St (f d) n (g.map f) p c q (f v) p' c' q' := by
  obtain ⟨h0, h1, h⟩ := h
  refine ⟨h0, h1, ?_⟩
  rcases h with ⟨a0, rfl, rfl, rfl⟩ | ⟨a0, a1, rfl, rfl, rfl, rfl⟩ | ⟨a0, a1, rfl, rfl, rfl⟩
  · exact .inl ⟨a0, rfl, rfl, rfl⟩
  · exact .inr (.inl ⟨a0, a1, rfl, rfl, rfl, rfl⟩)
  · exact .inr (.inr ⟨a0, a1, rfl, rfl, rfl⟩)
def vg (z : List Int) (p : Int) : Rs Int := ((vgo (z.drop p.toNat) 0 0).1, p + (vgo (z.drop p.toNat) 0 0).2.1, (vgo (z.drop p.toNat) 0 0).2.2.1, if (vgo (z.drop p.toNat) 0 0).2.2.1 = 0 then 0 else p + (vgo (z.drop p.toNat) 0 0).2.2.2)
def vm (z : List Int) (mo p : Int) : Rs Int := if (vg z p).2.2.1 ≠ 0 then (0, 0, (vg z p).2.2.1, (vg z p).2.2.2) else if mo < (vg z p).1 then (0, 0, 2, p) else vg z p
end Go.Proofs.Ytoemmppoejaapaa.Cur
namespace Go.Proofs.Ytoemmppoejaapaa.Cur
open Go.RowKit Mem
set_option linter.unusedVariables false
theorem rw_new (w : World) (xs : List Value) (t : Nat) : Rw (w.alloc (.cells xs.toArray t)) (some ⟨w.heap.size, 0, none⟩) xs := fun _ =>
  ⟨_, _, rfl, fun i v hi => by
    rw [Nat.zero_add]
    exact (Blk.new w xs.toArray t).cell i (by simpa using hi)⟩
theorem own_ge {w : World} {B e size n : Nat} {v : Value} {xs : List Value} (h : w.ownsRow B e size v n xs) : ∀ g, v.ownBlock = some g → B ≤ g := fun g hg => (World.ownsRow.lt h g hg).1
theorem Kp.grown {b : Nat} {w w1 w2 : World} {r : Option Nat} (h : Kp b w w1) (k : w1.grownBy w2 r) (hr : ∀ g, r = some g → w.heap.size ≤ g) : Kp b w w2 :=
  ⟨k.os.trans h.os, k.tape.trans h.tape, k.output.trans h.output, Nat.le_trans h.size k.size, fun i hi hb => (k.block i (Nat.lt_of_lt_of_le hi h.size) (fun e => by have := hr i e.symm; omega)).trans (h.block i hi hb)⟩
end Go.Proofs.Ytoemmppoejaapaa.Cur
namespace Go.Proofs.Ytoemmppoejaapaa.Cur
open Go.RowKit Mem
set_option linter.unusedVariables false
end Go.Proofs.Ytoemmppoejaapaa.Cur
namespace Go.Proofs.Ytoemmppoejaapaa.Cur
open Go.RowKit Mem
set_option linter.unusedVariables false
theorem OwnU.base {w : World} {B B' : Nat} {v : Value} {acc : List Int} (h : OwnU w B v acc) (hB : B' ≤ B) : OwnU w B' v acc := own_base h fun g hg => Nat.le_trans hB (own_ge h g hg)
end Go.Proofs.Ytoemmppoejaapaa.Cur
namespace Go.Proofs.Ytoemmppoejaapaa.Cur
open Go.RowKit Mem
set_option linter.unusedVariables false
theorem rgo_shape {z : List Int} : ∀ (N : Nat) (p : Int) (acc : List Int), (rgo z N p acc).2.2.1 = 0 → (rgo z N p acc).2.2.2 = 0
  | 0, _, _, _ => rfl
  | N + 1, p, acc, h => by
    by_cases hg : (vgo (z.drop p.toNat) 0 0).2.2.1 = 0
    · by_cases ha : acc = []
      · subst ha
        rw [rgo_first hg] at h ⊢
        exact rgo_shape N _ _ h
      · by_cases ho : 18446744073709551615 - acc.getD (acc.length - 1) 0 ≤ (vgo (z.drop p.toNat) 0 0).1
        · rw [rgo_over hg ha ho] at h
          exact absurd h (by show ¬ (13 : Int) = 0; decide)
        · rw [rgo_next hg ha ho] at h ⊢
          exact rgo_shape N _ _ h
    · rw [rgo_bad hg] at h
      exact absurd h hg
theorem RgSt.ok {n : Nat} {z : List Int} {p q : Int} {N : Nat} {l : List Int} {p' q' : Int} (h : RgSt n z p 0 q N l p' 0 q') : rgo z N p [] = (l, p', 0, 0) := by
  obtain ⟨_, _, ⟨h, _⟩ | ⟨_, h1, h2, h3, _⟩ | ⟨_, h1, _, h2, _⟩⟩ := h
  · exact absurd rfl h
  · have h4 := rgo_shape _ _ _ h1
    rw [h2, h3]
    refine Prod.ext rfl (Prod.ext rfl (Prod.ext h1 h4))
  · exact absurd h2.symm h1
theorem RgSt.nil {n : Nat} {z : List Int} {p c q : Int} {N : Nat} {l : List Int} {p' c' q' : Int} (h : RgSt n z p c q N l p' c' q') (hc : c' ≠ 0) : l = [] := by
  obtain ⟨_, _, ⟨_, h1, _⟩ | ⟨_, _, _, _, h1, _⟩ | ⟨_, _, h1, _⟩⟩ := h
  · exact h1
  · exact absurd h1 hc
  · exact h1
end Go.Proofs.Ytoemmppoejaapaa.Cur
