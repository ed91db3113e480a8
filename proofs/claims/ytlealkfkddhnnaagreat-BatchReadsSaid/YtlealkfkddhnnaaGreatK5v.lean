/- As the seat's text, without what nothing here names. -/
import Derived.Test.YtlealkfkddhnnaaGreatK4v
import Derived.Laws.BitsAllLaws
import Derived.Test.YtlealkfkddhnnaaGreatK1v
import Derived.IntWalk
import Derived.Deep.Cut
namespace Go.Proofs.YtlealkfkddhnnaaGreat.Cur
open Go.RowKit Mem
set_option linter.unusedVariables false
theorem wrapu (x : Int) : IntKind.u64.wrap x = x % 18446744073709551616 := rfl
end Go.Proofs.YtlealkfkddhnnaaGreat.Cur
namespace Go.Proofs.YtlealkfkddhnnaaGreat.Cur
open Go.RowKit Mem
set_option linter.unusedVariables false
theorem Us.cells {w : World} {A : Option Addr} {n : Nat} {z : List Int} (h : Us w A n z) (hn : 0 < n) : ∃ g o, A = some ⟨g, o, none⟩ ∧ g < w.heap.size ∧ ∀ w', Below w.heap.size w w' → ∀ k, k < n → w'.cell? ⟨g, o + k, none⟩ = some (.int .u64 (z.getD k 0)) := by
  obtain ⟨g, o, e, h0⟩ := h.at_ hn
  refine ⟨g, o, e, lt_of_cell h0, fun w' hb k hk => ?_⟩
  obtain ⟨g', o', e', hc⟩ := (h.below hb).at_ hk
  rw [e] at e'
  injection e' with e'
  injection e' with e1 e2
  subst e1 e2
  exact hc
end Go.Proofs.YtlealkfkddhnnaaGreat.Cur
namespace Go.Proofs.YtlealkfkddhnnaaGreat.Cur
open Go.RowKit Mem
set_option linter.unusedVariables false
end Go.Proofs.YtlealkfkddhnnaaGreat.Cur
namespace Go.Proofs.YtlealkfkddhnnaaGreat.Cur
open Go.RowKit Mem
set_option linter.unusedVariables false
end Go.Proofs.YtlealkfkddhnnaaGreat.Cur
namespace Go.Proofs.YtlealkfkddhnnaaGreat.Cur
open Go.RowKit Mem
set_option linter.unusedVariables false
def rgo (z : List Int) : Nat → Int → List Int → List Int × Int × Int × Int
  | 0, p, acc => (acc, p, 0, 0)
  | n + 1, p, acc =>
    if (vgo (z.drop p.toNat) 0 0).2.2.1 ≠ 0 then ([], 0, (vgo (z.drop p.toNat) 0 0).2.2.1, p + (vgo (z.drop p.toNat) 0 0).2.2.2)
    else if acc = [] then rgo z n (p + (vgo (z.drop p.toNat) 0 0).2.1) [(vgo (z.drop p.toNat) 0 0).1]
    else if 18446744073709551615 - acc.getD (acc.length - 1) 0 ≤ (vgo (z.drop p.toNat) 0 0).1 then ([], 0, 13, p)
    else rgo z n (p + (vgo (z.drop p.toNat) 0 0).2.1) (acc ++ [acc.getD (acc.length - 1) 0 + (vgo (z.drop p.toNat) 0 0).1 + 1])
theorem rgo_bad {z : List Int} {k : Nat} {p : Int} {acc : List Int} (h : (vgo (z.drop p.toNat) 0 0).2.2.1 ≠ 0) : rgo z (k + 1) p acc = ([], 0, (vgo (z.drop p.toNat) 0 0).2.2.1, p + (vgo (z.drop p.toNat) 0 0).2.2.2) := by
  unfold rgo; rw [if_pos h]
theorem rgo_first {z : List Int} {k : Nat} {p : Int} (h : (vgo (z.drop p.toNat) 0 0).2.2.1 = 0) : rgo z (k + 1) p [] = rgo z k (p + (vgo (z.drop p.toNat) 0 0).2.1) [(vgo (z.drop p.toNat) 0 0).1] := by
  rw [rgo, if_neg (by simp [h]), if_pos rfl]
theorem rgo_over {z : List Int} {k : Nat} {p : Int} {acc : List Int} (h : (vgo (z.drop p.toNat) 0 0).2.2.1 = 0) (ha : acc ≠ []) (ho : 18446744073709551615 - acc.getD (acc.length - 1) 0 ≤ (vgo (z.drop p.toNat) 0 0).1) : rgo z (k + 1) p acc = ([], 0, 13, p) := by
  rw [rgo, if_neg (by simp [h]), if_neg ha, if_pos ho]
theorem rgo_next {z : List Int} {k : Nat} {p : Int} {acc : List Int} (h : (vgo (z.drop p.toNat) 0 0).2.2.1 = 0) (ha : acc ≠ []) (ho : ¬ 18446744073709551615 - acc.getD (acc.length - 1) 0 ≤ (vgo (z.drop p.toNat) 0 0).1) :
    rgo z (k + 1) p acc = rgo z k (p + (vgo (z.drop p.toNat) 0 0).2.1) (acc ++ [acc.getD (acc.length - 1) 0 + (vgo (z.drop p.toNat) 0 0).1 + 1]) := by
  rw [rgo, if_neg (by simp [h]), if_neg ha, if_neg ho]
def RgSt (n : Nat) (z : List Int) (p c q : Int) (N : Nat) (l : List Int) (p' c' q' : Int) : Prop :=
  0 ≤ p' ∧ p' ≤ n ∧ ((c ≠ 0 ∧ l = [] ∧ c' = c ∧ q' = q) ∨
  (c = 0 ∧ (rgo z N p []).2.2.1 = 0 ∧ l = (rgo z N p []).1 ∧ p' = (rgo z N p []).2.1 ∧ c' = 0 ∧ q' = q) ∨
  (c = 0 ∧ (rgo z N p []).2.2.1 ≠ 0 ∧ l = [] ∧ c' = (rgo z N p []).2.2.1 ∧ q' = (rgo z N p []).2.2.2))
theorem RgSt.det {n : Nat} {z : List Int} {p c q : Int} {N : Nat} {l l2 : List Int} {p' c' q' p2 c2 q2 : Int} (h : RgSt n z p c q N l p' c' q') (k : RgSt n z p c q N l2 p2 c2 q2) : l = l2 ∧ c' = c2 ∧ q' = q2 ∧ (c' = 0 → p' = p2) := by
  obtain ⟨_, _, h⟩ := h
  obtain ⟨_, _, k⟩ := k
  rcases h with ⟨a0, rfl, rfl, rfl⟩ | ⟨a0, a1, rfl, rfl, rfl, rfl⟩ | ⟨a0, a1, rfl, rfl, rfl⟩ <;>
  rcases k with ⟨b0, rfl, rfl, rfl⟩ | ⟨b0, b1, rfl, rfl, rfl, rfl⟩ | ⟨b0, b1, rfl, rfl, rfl⟩ <;>
  first | exact absurd a0 b0 | exact absurd b0 a0 | exact absurd a1 b1 | exact absurd b1 a1 | exact ⟨rfl, rfl, rfl, fun h => absurd h (by assumption)⟩ | exact ⟨rfl, rfl, rfl, fun _ => rfl⟩
theorem vgo_pos (l : List Int) : ∀ (i : Nat) (X : Int), (vgo l i X).2.2.1 = 0 → (i : Int) + 1 ≤ (vgo l i X).2.1 := by
  induction l with
  | nil => intro i X h; exact absurd h (by show (1 : Int) ≠ 0; omega)
  | cons b l ih =>
    intro i X h
    unfold vgo at h ⊢
    split at h
    · exact absurd h (by show (5 : Int) ≠ 0; omega)
    · rename_i h1
      rw [if_neg h1]
      split at h
      · exact absurd h (by show (4 : Int) ≠ 0; omega)
      · rename_i h2
        rw [if_neg h2]
        split at h
        · rename_i h3
          rw [if_pos h3]
          show (i : Int) + 1 ≤ i + 1
          omega
        · rename_i h3
          rw [if_neg h3]
          have := ih (i + 1) _ h
          omega
theorem rd_ways {n : Nat} {z : List Int} {p q v p' c' q' : Int} (h : RdSt n z p 0 q v p' c' q') (hz : z.length = n) (h0 : 0 ≤ p) (h1 : p ≤ n) (hby : ∀ x ∈ z, 0 ≤ x ∧ x < 256) :
    ((vgo (z.drop p.toNat) 0 0).2.2.1 = 0 ∧ v = (vgo (z.drop p.toNat) 0 0).1 ∧ p' = p + (vgo (z.drop p.toNat) 0 0).2.1 ∧ c' = 0 ∧ q' = q ∧ p + 1 ≤ p' ∧ p' ≤ n ∧ 0 ≤ v ∧ v < 18446744073709551616) ∨
    ((vgo (z.drop p.toNat) 0 0).2.2.1 ≠ 0 ∧ v = 0 ∧ c' = (vgo (z.drop p.toNat) 0 0).2.2.1 ∧ q' = p + (vgo (z.drop p.toNat) 0 0).2.2.2 ∧ 0 ≤ p' ∧ p' ≤ n) := by
  obtain ⟨_, l2, l3, l4, l5⟩ := vgo_place (z.drop p.toNat) 0 0
  have hlen : ((0 : Nat) : Int) + (z.drop p.toNat).length = n - p := by rw [List.length_drop, hz]; omega
  rw [hlen] at l2 l4 l5
  rcases h with ⟨a, _⟩ | ⟨_, ⟨a0, a1, a2, a3, a4⟩ | ⟨a0, a1, a2, a3, a4⟩⟩
  · exact absurd rfl a
  · have hp := vgo_pos _ _ _ a0
    obtain ⟨y, j, _, _, _, hy, hy0, hy1, _⟩ := vgo_once (z.drop p.toNat) 0 0 (fun x hx => hby x (List.mem_of_mem_drop hx)) (by omega) a0
    rw [Int.pow_zero, Int.mul_one] at hy hy1
    refine .inl ⟨a0, a1, a2, a3, a4, by omega, by omega, by omega, by omega⟩
  · refine .inr ⟨a0, a1, a2, a3, ?_, ?_⟩ <;> rw [a4] <;> split <;> first | omega | skip
    rename_i h5
    have : (vgo (z.drop p.toNat) 0 0).2.2.1 ≠ 1 → (vgo (z.drop p.toNat) 0 0).2.2.1 ≠ 0 → (vgo (z.drop p.toNat) 0 0).2.2.2 + 1 ≤ n - p := by
      intro h h'
      have key : ∀ (l : List Int) (i : Nat) (X : Int), (vgo l i X).2.2.1 ≠ 1 → (vgo l i X).2.2.1 ≠ 0 → (vgo l i X).2.2.2 + 1 ≤ i + l.length := by
        intro l
        induction l with
        | nil => intro i X h; exact absurd rfl h
        | cons b l ih =>
          intro i X h h'
          unfold vgo at h h' ⊢
          rw [List.length_cons]
          split at h
          · rename_i h1; rw [if_pos h1]; show (i : Int) + 1 ≤ _; omega
          · rename_i h1
            rw [if_neg h1] at h' ⊢
            split at h
            · rename_i h2; rw [if_pos h2]; show (i : Int) + 1 ≤ _; omega
            · rename_i h2
              rw [if_neg h2] at h' ⊢
              split at h
              · rename_i h3; rw [if_pos h3] at h'; exact absurd rfl h'
              · rename_i h3
                rw [if_neg h3] at h' ⊢
                have := ih (i + 1) _ h h'
                omega
      have := key (z.drop p.toNat) 0 0 h h'
      rw [hlen] at this
      exact this
    have := this h5 a0
    omega
theorem rd_lt {n : Nat} {z : List Int} {p c q v p' c' q' : Int} (h : RdSt n z p c q v p' c' q') (hz : z.length = n) (h0 : 0 ≤ p) (h1 : p ≤ n) (hby : ∀ x ∈ z, 0 ≤ x ∧ x < 256) : 0 ≤ v ∧ v < 18446744073709551616 := by
  by_cases hc : c = 0
  · subst hc
    rcases rd_ways h hz h0 h1 hby with ⟨_, _, _, _, _, _, _, h⟩ | ⟨_, rfl, _⟩
    · exact h
    · omega
  · rcases h with ⟨_, rfl, _⟩ | ⟨h, _⟩
    · omega
    · exact absurd h hc
end Go.Proofs.YtlealkfkddhnnaaGreat.Cur
namespace Go.Proofs.YtlealkfkddhnnaaGreat.Cur
open Go.RowKit Mem
set_option linter.unusedVariables false
abbrev Rs (α : Type) := α × Int × Int × Int
def St {α : Type} (d : α) (n : Nat) (g : Rs α) (p c q : Int) (v : α) (p' c' q' : Int) : Prop :=
  0 ≤ p' ∧ p' ≤ n ∧ ((c ≠ 0 ∧ v = d ∧ c' = c ∧ q' = q) ∨ (c = 0 ∧ g.2.2.1 = 0 ∧ v = g.1 ∧ p' = g.2.1 ∧ c' = 0 ∧ q' = q) ∨ (c = 0 ∧ g.2.2.1 ≠ 0 ∧ v = d ∧ c' = g.2.2.1 ∧ q' = g.2.2.2))
theorem St.det {α : Type} {d : α} {n : Nat} {g : Rs α} {p c q : Int} {v v2 : α} {p' c' q' p2 c2 q2 : Int} (h : St d n g p c q v p' c' q') (k : St d n g p c q v2 p2 c2 q2) : v = v2 ∧ c' = c2 ∧ q' = q2 ∧ (c' = 0 → p' = p2) := by
  obtain ⟨_, _, h⟩ := h
  obtain ⟨_, _, k⟩ := k
  rcases h with ⟨a0, rfl, rfl, rfl⟩ | ⟨a0, a1, rfl, rfl, rfl, rfl⟩ | ⟨a0, a1, rfl, rfl, rfl⟩ <;>
  rcases k with ⟨b0, rfl, rfl, rfl⟩ | ⟨b0, b1, rfl, rfl, rfl, rfl⟩ | ⟨b0, b1, rfl, rfl, rfl⟩ <;>
  first | exact absurd a0 b0 | exact absurd b0 a0 | exact absurd a1 b1 | exact absurd b1 a1 | exact ⟨rfl, rfl, rfl, fun h => absurd h (by assumption)⟩ | exact ⟨rfl, rfl, rfl, fun _ => rfl⟩
theorem St.place {α : Type} {d : α} {n : Nat} {g : Rs α} {p c q : Int} {v : α} {p' c' q' : Int} (h : St d n g p c q v p' c' q') : 0 ≤ p' ∧ p' ≤ n := ⟨h.1, h.2.1⟩
theorem St.good {α : Type} {d : α} {n : Nat} {g : Rs α} {p c q : Int} {v : α} {p' q' : Int} (h : St d n g p c q v p' 0 q') : c = 0 ∧ g.2.2.1 = 0 ∧ v = g.1 ∧ p' = g.2.1 ∧ q' = q := by
  obtain ⟨_, _, ⟨h0, _, h1, _⟩ | ⟨h0, h1, h2, h3, _, h4⟩ | ⟨_, h0, _, h1, _⟩⟩ := h
  · exact absurd h1.symm h0
  · exact ⟨h0, h1, h2, h3, h4⟩
  · exact absurd h1.symm h0
theorem St.nil {α : Type} {d : α} {n : Nat} {g : Rs α} {p c q : Int} {v : α} {p' c' q' : Int} (h : St d n g p c q v p' c' q') (hc : c' ≠ 0) : v = d := by
  obtain ⟨_, _, ⟨_, h1, _⟩ | ⟨_, _, _, _, h1, _⟩ | ⟨_, _, h1, _⟩⟩ := h
  · exact h1
  · exact absurd h1 hc
  · exact h1
theorem St.bad {α : Type} {d : α} {n : Nat} {g : Rs α} {p c q : Int} {v : α} {p' c' q' : Int} (h : St d n g p c q v p' c' q') (hc : c ≠ 0) : v = d ∧ c' = c ∧ q' = q := by
  obtain ⟨_, _, ⟨_, h1⟩ | ⟨h0, _⟩ | ⟨h0, _⟩⟩ := h
  · exact h1
  · exact absurd h0 hc
  · exact absurd h0 hc
theorem St.stay {α : Type} {d : α} {n : Nat} {g : Rs α} {p c q p' : Int} (h0 : 0 ≤ p') (h1 : p' ≤ n) (hc : c ≠ 0) : St d n g p c q d p' c q := ⟨h0, h1, .inl ⟨hc, rfl, rfl, rfl⟩⟩
theorem St.done {α : Type} {d : α} {n : Nat} {g : Rs α} {p q : Int} {v : α} {p' : Int} (e : g = (v, p', 0, 0)) (h0 : 0 ≤ p') (h1 : p' ≤ n) : St d n g p 0 q v p' 0 q := by
  subst e; exact ⟨h0, h1, .inr (.inl ⟨rfl, rfl, rfl, rfl, rfl, rfl⟩)⟩
theorem St.fault {α : Type} {d x : α} {n : Nat} {g : Rs α} {p q : Int} {p' c' q' y : Int} (e : g = (x, y, c', q')) (hc : c' ≠ 0) (h0 : 0 ≤ p') (h1 : p' ≤ n) : St d n g p 0 q d p' c' q' := by
  subst e; exact ⟨h0, h1, .inr (.inr ⟨rfl, hc, rfl, rfl, rfl⟩)⟩
def Rs.bind {α β : Type} (g : Rs α) (d : β) (f : α → Int → Rs β) : Rs β := if g.2.2.1 ≠ 0 then (d, 0, g.2.2.1, g.2.2.2) else f g.1 g.2.1
theorem St.bind {α β : Type} {d1 : α} {d : β} {n : Nat} {g : Rs α} {f : α → Int → Rs β} {p c q : Int} {v : α} {p1 c1 q1 : Int} {u : β} {p2 c2 q2 : Int} (h : St d1 n g p c q v p1 c1 q1) (k : St d n (f v p1) p1 c1 q1 u p2 c2 q2) :
    St d n (g.bind d f) p c q u p2 c2 q2 := by
  obtain ⟨_, _, h⟩ := h
  obtain ⟨k0, k1, k⟩ := k
  refine ⟨k0, k1, ?_⟩
  rcases h with ⟨a0, rfl, rfl, rfl⟩ | ⟨a0, a1, rfl, rfl, rfl, rfl⟩ | ⟨a0, a1, rfl, rfl, rfl⟩
  · rcases k with ⟨b0, rfl, rfl, rfl⟩ | ⟨b0, _⟩ | ⟨b0, _⟩
    · exact .inl ⟨a0, rfl, rfl, rfl⟩
    · exact absurd b0 a0
    · exact absurd b0 a0
  · rcases k with ⟨b0, _⟩ | ⟨b0, b1, rfl, rfl, rfl, rfl⟩ | ⟨b0, b1, rfl, rfl, rfl⟩
    · exact absurd rfl b0
    · refine .inr (.inl ⟨a0, ?_⟩)
      unfold Rs.bind
      rw [if_neg (by simp [a1])]
      exact ⟨b1, rfl, rfl, rfl, rfl⟩
    · refine .inr (.inr ⟨a0, ?_⟩)
      unfold Rs.bind
      rw [if_neg (by simp [a1])]
      exact ⟨b1, rfl, rfl, rfl⟩
  · rcases k with ⟨b0, rfl, rfl, rfl⟩ | ⟨b0, _⟩ | ⟨b0, _⟩
    · refine .inr (.inr ⟨a0, ?_⟩)
      unfold Rs.bind
      rw [if_pos a1]
      exact ⟨a1, rfl, rfl, rfl⟩
    · exact absurd b0 a1
    · exact absurd b0 a1
def Rs.map {α β : Type} (g : Rs α) (f : α → β) : Rs β := (f g.1, g.2.1, g.2.2.1, g.2.2.2)
theorem St.map {α β : Type} {d : α} {n : Nat} {g : Rs α} (f : α → β) {p c q : Int} {v : α} {p' c' q' : Int} (h : St d n g p c q v p' c' q') : St (f d) n (g.map f) p c q (f v) p' c' q' := by
  obtain ⟨h0, h1, h⟩ := h
  refine ⟨h0, h1, ?_⟩
  rcases h with ⟨a0, rfl, rfl, rfl⟩ | ⟨a0, a1, rfl, rfl, rfl, rfl⟩ | ⟨a0, a1, rfl, rfl, rfl⟩
  · exact .inl ⟨a0, rfl, rfl, rfl⟩
  · exact .inr (.inl ⟨a0, a1, rfl, rfl, rfl, rfl⟩)
  · exact .inr (.inr ⟨a0, a1, rfl, rfl, rfl⟩)
theorem Rs.bind_ok {α β : Type} {g : Rs α} {d : β} {f : α → Int → Rs β} (h : (g.bind d f).2.2.1 = 0) : g.2.2.1 = 0 ∧ g.bind d f = f g.1 g.2.1 := by
  unfold Rs.bind at h ⊢
  split at h
  · rename_i hg; exact absurd h hg
  · rename_i hg; rw [if_neg hg]; exact ⟨by simpa using hg, rfl⟩
theorem Rs.bind_of {α β : Type} {g : Rs α} {d : β} {f : α → Int → Rs β} {v : α} {p' : Int} (h : g = (v, p', 0, 0)) : g.bind d f = f v p' := by
  subst h; unfold Rs.bind; rw [if_neg (by simp)]
def vg (z : List Int) (p : Int) : Rs Int := ((vgo (z.drop p.toNat) 0 0).1, p + (vgo (z.drop p.toNat) 0 0).2.1, (vgo (z.drop p.toNat) 0 0).2.2.1, if (vgo (z.drop p.toNat) 0 0).2.2.1 = 0 then 0 else p + (vgo (z.drop p.toNat) 0 0).2.2.2)
theorem RdSt.st {n : Nat} {z : List Int} {p c q v p' c' q' : Int} (h : RdSt n z p c q v p' c' q') (hz : z.length = n) (h0 : 0 ≤ p) (h1 : p ≤ n) (hby : ∀ x ∈ z, 0 ≤ x ∧ x < 256) : St 0 n (vg z p) p c q v p' c' q' := by
  by_cases hc : c = 0
  · subst hc
    rcases rd_ways h hz h0 h1 hby with ⟨g0, rfl, rfl, rfl, rfl, p1, p2, _⟩ | ⟨g0, rfl, rfl, rfl, p1, p2⟩
    · exact ⟨by omega, by omega, .inr (.inl ⟨rfl, g0, rfl, rfl, rfl, rfl⟩)⟩
    · exact ⟨p1, p2, .inr (.inr ⟨rfl, g0, rfl, rfl, by unfold vg; rw [if_neg g0]⟩)⟩
  · rcases h with ⟨_, rfl, rfl, rfl, rfl⟩ | ⟨h, _⟩
    · exact ⟨h0, h1, .inl ⟨hc, rfl, rfl, rfl⟩⟩
    · exact absurd h hc
def vm (z : List Int) (mo p : Int) : Rs Int := if (vg z p).2.2.1 ≠ 0 then (0, 0, (vg z p).2.2.1, (vg z p).2.2.2) else if mo < (vg z p).1 then (0, 0, 2, p) else vg z p
theorem most_st {n : Nat} {z : List Int} {p c q mo v0 p' c0 q0 v c' q' : Int} (h : RdSt n z p c q v0 p' c0 q0) (hz : z.length = n) (h0 : 0 ≤ p) (h1 : p ≤ n) (hby : ∀ x ∈ z, 0 ≤ x ∧ x < 256)
    (hv : (mo < v0 ∧ v = 0 ∧ FailSt c0 q0 2 p c' q') ∨ (v0 ≤ mo ∧ v = v0 ∧ c' = c0 ∧ q' = q0)) : St 0 n (vm z mo p) p c q v p' c' q' := by
  have hs := h.st hz h0 h1 hby
  obtain ⟨k0, k1, k⟩ := hs
  refine ⟨k0, k1, ?_⟩
  rcases k with ⟨a0, rfl, rfl, rfl⟩ | ⟨a0, a1, rfl, rfl, rfl, rfl⟩ | ⟨a0, a1, rfl, rfl, rfl⟩
  · refine .inl ⟨a0, ?_⟩
    rcases hv with ⟨_, rfl, hf⟩ | ⟨_, rfl, rfl, rfl⟩
    · rcases hf with ⟨hf, _⟩ | ⟨_, rfl, rfl⟩
      · exact absurd hf a0
      · exact ⟨rfl, rfl, rfl⟩
    · exact ⟨rfl, rfl, rfl⟩
  · rcases hv with ⟨hm, rfl, hf⟩ | ⟨hm, rfl, rfl, rfl⟩
    · rcases hf with ⟨_, rfl, hq⟩ | ⟨hf, _⟩
      · refine .inr (.inr ⟨a0, ?_⟩)
        unfold vm
        rw [if_neg (by simp [a1]), if_pos hm]
        exact ⟨by show (2 : Int) ≠ 0; decide, rfl, rfl, hq⟩
      · exact absurd rfl hf
    · refine .inr (.inl ⟨a0, ?_⟩)
      unfold vm
      rw [if_neg (by simp [a1]), if_neg (by omega)]
      exact ⟨a1, rfl, rfl, rfl, rfl⟩
  · refine .inr (.inr ⟨a0, ?_⟩)
    unfold vm
    rw [if_pos a1]
    rcases hv with ⟨_, rfl, hf⟩ | ⟨_, rfl, rfl, rfl⟩
    · rcases hf with ⟨hf, _⟩ | ⟨_, rfl, rfl⟩
      · exact absurd hf a1
      · exact ⟨a1, rfl, rfl, rfl⟩
    · exact ⟨a1, rfl, rfl, rfl⟩
theorem MostSt.st {n : Nat} {z : List Int} {p c q mo v p' c' q' : Int} (h : MostSt n z p c q mo v p' c' q') (hz : z.length = n) (h0 : 0 ≤ p) (h1 : p ≤ n) (hby : ∀ x ∈ z, 0 ≤ x ∧ x < 256) : St 0 n (vm z mo p) p c q v p' c' q' := by
  obtain ⟨v0, c0, q0, hr, hv⟩ := h
  exact most_st hr hz h0 h1 hby hv
theorem IntSt.st {n : Nat} {z : List Int} {p c q mo v p' c' q' : Int} (h : IntSt n z p c q mo v p' c' q') (hz : z.length = n) (h0 : 0 ≤ p) (h1 : p ≤ n) (hby : ∀ x ∈ z, 0 ≤ x ∧ x < 256) : St 0 n (vm z mo p) p c q v p' c' q' := by
  rcases h with ⟨_, h⟩ | ⟨hm, rfl, v0, c0, q0, hr, hf⟩
  · exact h.st hz h0 h1 hby
  · have := hr.nonneg hby
    exact most_st hr hz h0 h1 hby (.inl ⟨by omega, rfl, hf⟩)
theorem vg_bd (z : List Int) (p : Int) (hby : ∀ x ∈ z, 0 ≤ x ∧ x < 256) : 0 ≤ (vg z p).1 := vgo_nonneg _ (fun x hx => hby x (List.mem_of_mem_drop hx)) 0 0 (Int.le_refl _)
theorem vm_ok {z : List Int} {mo p : Int} (h : (vm z mo p).2.2.1 = 0) : (vg z p).2.2.1 = 0 ∧ (vg z p).1 ≤ mo ∧ vm z mo p = vg z p := by
  unfold vm at h ⊢
  split at h
  · rename_i hg; exact absurd h hg
  · rename_i hg
    split at h
    · exact absurd h (by show ¬ (2 : Int) = 0; decide)
    · rename_i hm; rw [if_neg hg, if_neg hm]; exact ⟨by simpa using hg, by omega, rfl⟩
theorem vm_bd {n : Nat} {z : List Int} {mo p c q v p' c' q' : Int} (h : St 0 n (vm z mo p) p c q v p' c' q') (hby : ∀ x ∈ z, 0 ≤ x ∧ x < 256) : 0 ≤ v ∧ (v ≤ mo ∨ v = 0) := by
  obtain ⟨_, _, ⟨_, rfl, _⟩ | ⟨_, h1, rfl, _⟩ | ⟨_, _, rfl, _⟩⟩ := h
  · exact ⟨Int.le_refl _, .inr rfl⟩
  · obtain ⟨_, h2, h3⟩ := vm_ok h1
    rw [h3]
    exact ⟨vg_bd z p hby, .inl h2⟩
  · exact ⟨Int.le_refl _, .inr rfl⟩
def tk (z : List Int) (x p : Int) : Rs (List Int) := if x < 0 then ([], 0, 17, p) else if (z.length : Int) - p < x then ([], 0, 1, z.length) else (piece z p.toNat (p + x).toNat, p + x, 0, 0)
theorem SkipSt.st {n : Nat} {z : List Int} {p c q x : Int} {ok : Bool} {p' c' q' : Int} (h : SkipSt n p c q x ok p' c' q') (hz : z.length = n) (h0 : 0 ≤ p) (h1 : p ≤ n) : St [] n (tk z x p) p c q (if ok = true then piece z p.toNat (p + x).toNat else []) p' c' q' := by
  unfold tk
  rw [hz]
  rcases h with ⟨a0, rfl, rfl, rfl, rfl⟩ | ⟨rfl, a1, rfl, rfl, rfl, rfl⟩ | ⟨rfl, a1, rfl, rfl, rfl, rfl⟩ | ⟨rfl, a1, a2, rfl, rfl, rfl, rfl⟩
  · exact ⟨h0, h1, .inl ⟨a0, rfl, rfl, rfl⟩⟩
  · rw [if_pos a1]; exact ⟨h0, h1, .inr (.inr ⟨rfl, by show (17 : Int) ≠ 0; decide, rfl, rfl, rfl⟩)⟩
  · rw [if_neg (by omega), if_pos a1]; exact ⟨h0, h1, .inr (.inr ⟨rfl, by show (1 : Int) ≠ 0; decide, rfl, rfl, rfl⟩)⟩
  · rw [if_neg (by omega), if_neg (by omega)]; exact ⟨by omega, by omega, .inr (.inl ⟨rfl, rfl, rfl, rfl, rfl, rfl⟩)⟩
theorem vg_once {z : List Int} {p : Int} (hby : ∀ x ∈ z, 0 ≤ x ∧ x < 256) (h0 : 0 ≤ p) (h1 : p ≤ z.length) (h : (vg z p).2.2.1 = 0) :
    vz (vg z p).1 = piece z p.toNat (vg z p).2.1.toNat ∧ 0 ≤ (vg z p).1 ∧ (vg z p).1 < 18446744073709551616 ∧ p + 1 ≤ (vg z p).2.1 ∧ (vg z p).2.1 ≤ z.length := by
  obtain ⟨y, j, hj1, hj2, hj, hy, hy0, hy1, hvz, _⟩ := vgo_once (z.drop p.toNat) 0 0 (fun x hx => hby x (List.mem_of_mem_drop hx)) (by omega) h
  rw [Int.pow_zero, Int.mul_one, Int.zero_add] at hy
  rw [Int.pow_zero, Int.mul_one] at hy1
  rw [List.length_drop] at hj2
  have e1 : (vg z p).1 = y := hy
  have e2 : (vg z p).2.1 = p + j := by show p + _ = _; rw [hj]; omega
  rw [e1, e2]
  refine ⟨?_, hy0, by omega, by omega, by omega⟩
  rw [hvz]; unfold piece; congr 1; omega
theorem tk_once {z : List Int} {x p : Int} (h0 : 0 ≤ p) (h1 : p ≤ z.length) (h : (tk z x p).2.2.1 = 0) : 0 ≤ x ∧ x ≤ z.length - p ∧ tk z x p = (piece z p.toNat (p + x).toNat, p + x, 0, 0) := by
  unfold tk at h ⊢
  split at h
  · exact absurd h (by show ¬ (17 : Int) = 0; decide)
  · rename_i hx
    split at h
    · exact absurd h (by show ¬ (1 : Int) = 0; decide)
    · rename_i hy; rw [if_neg hx, if_neg hy]; exact ⟨by omega, by omega, rfl⟩
end Go.Proofs.YtlealkfkddhnnaaGreat.Cur
namespace Go.Proofs.YtlealkfkddhnnaaGreat.Cur
open Go.RowKit Mem
set_option linter.unusedVariables false
theorem rw_new (w : World) (xs : List Value) (t : Nat) : Rw (w.alloc (.cells xs.toArray t)) (some ⟨w.heap.size, 0, none⟩) xs := fun _ =>
  ⟨_, _, rfl, fun i v hi => by
    rw [Nat.zero_add]
    exact (Blk.new w xs.toArray t).cell i (by simpa using hi)⟩
theorem own_ge {w : World} {B e size n : Nat} {v : Value} {xs : List Value} (h : w.ownsRow B e size v n xs) : ∀ g, v.ownBlock = some g → B ≤ g := fun g hg => (World.ownsRow.lt h g hg).1
theorem Kp.grown {b : Nat} {w w1 w2 : World} {r : Option Nat} (h : Kp b w w1) (k : w1.grownBy w2 r) (hr : ∀ g, r = some g → w.heap.size ≤ g) : Kp b w w2 :=
  ⟨k.os.trans h.os, k.tape.trans h.tape, k.output.trans h.output, Nat.le_trans h.size k.size, fun i hi hb => (k.block i (Nat.lt_of_lt_of_le hi h.size) (fun e => by have := hr i e.symm; omega)).trans (h.block i hi hb)⟩
theorem rd_grown {w w' : World} {b : Nat} {s : Value} {p c q : Int} {r : Option Nat} (h : IsRd w b s p c q) (k : w.grownBy w' r) (hr : r ≠ some b) : IsRd w' b s p c q := (k.block b h.lt (fun e => hr e.symm)).trans h
theorem OwnU.ne_rd {w : World} {B b : Nat} {v s : Value} {z : List Int} {p c q : Int} (h : OwnU w B v z) (hr : IsRd w b s p c q) : v.ownBlock ≠ some b := own_ne_blk h hr (by decide)
end Go.Proofs.YtlealkfkddhnnaaGreat.Cur
namespace Go.Proofs.YtlealkfkddhnnaaGreat.Cur
open Go.RowKit Mem
set_option linter.unusedVariables false
end Go.Proofs.YtlealkfkddhnnaaGreat.Cur
namespace Go.Proofs.YtlealkfkddhnnaaGreat.Cur
open Go.RowKit Mem
set_option linter.unusedVariables false
abbrev cvs (s : Value) (p c q : Int) : Array Value := #[s, .int .i64 p, .int .i64 c, .int .i64 q]
theorem set4_below {w wr : World} {B g : Nat} (h : Below B w wr) (hg : B ≤ g) (u0 u1 u2 u3 : Value) : Below B w ((((wr.setCell ⟨g, 0, none⟩ u0).setCell ⟨g, 1, none⟩ u1).setCell ⟨g, 2, none⟩ u2).setCell ⟨g, 3, none⟩ u3) :=
  (((h.setCell hg _).setCell hg _).setCell hg _).setCell hg _
theorem set4_own {wr : World} {B g : Nat} {v : Value} {acc : List Int} (h : OwnU wr B v acc) (hg : g < B) (u0 u1 u2 u3 : Value) : OwnU ((((wr.setCell ⟨g, 0, none⟩ u0).setCell ⟨g, 1, none⟩ u1).setCell ⟨g, 2, none⟩ u2).setCell ⟨g, 3, none⟩ u3) B v acc := by
  have one : ∀ {w : World} (o : Nat) (u : Value), OwnU w B v acc → OwnU (w.setCell ⟨g, o, none⟩ u) B v acc := fun o u h =>
    own_block h fun k hk => Below.heap_setCell _ _ _ k (fun e => by have := own_ge h k hk; have e : k = g := e; omega)
  exact one _ _ (one _ _ (one _ _ (one _ _ h)))
theorem OwnU.base {w : World} {B B' : Nat} {v : Value} {acc : List Int} (h : OwnU w B v acc) (hB : B' ≤ B) : OwnU w B' v acc := own_base h fun g hg => Nat.le_trans hB (own_ge h g hg)
end Go.Proofs.YtlealkfkddhnnaaGreat.Cur
namespace Go.Proofs.YtlealkfkddhnnaaGreat.Cur
open Go.RowKit Mem
set_option linter.unusedVariables false
theorem piece_append {z : List Int} {a b c : Nat} (h1 : a ≤ b) (h2 : b ≤ c) (hc : c ≤ z.length) : piece z a b ++ piece z b c = piece z a c := by
  unfold piece
  rw [show c - a = (b - a) + (c - b) by omega, List.take_add, List.drop_drop, show a + (b - a) = b by omega]
theorem rgo_shape {z : List Int} : ∀ (N : Nat) (p : Int) (acc : List Int), (rgo z N p acc).2.2.1 = 0 → (rgo z N p acc).2.2.2 = 0
  | 0, _, _, _ => rfl
  | N + 1, p, acc, h => by
    by_cases hg : (vgo (z.drop p.toNat) 0 0).2.2.1 = 0
    · by_cases ha : acc = []
      · subst ha
        rw [rgo_first hg] at h ⊢
        exact rgo_shape N _ _ h
      · by_cases ho : 18446744073709551615 - acc.getD (acc.length - 1) 0 ≤ (vgo (z.drop p.toNat) 0 0).1
        · rw [rgo_over hg ha ho] at h
          exact absurd h (by show ¬ (13 : Int) = 0; decide)
        · rw [rgo_next hg ha ho] at h ⊢
          exact rgo_shape N _ _ h
    · rw [rgo_bad hg] at h
      exact absurd h hg
theorem RgSt.ok {n : Nat} {z : List Int} {p q : Int} {N : Nat} {l : List Int} {p' q' : Int} (h : RgSt n z p 0 q N l p' 0 q') : rgo z N p [] = (l, p', 0, 0) := by
  obtain ⟨_, _, ⟨h, _⟩ | ⟨_, h1, h2, h3, _⟩ | ⟨_, h1, _, h2, _⟩⟩ := h
  · exact absurd rfl h
  · have h4 := rgo_shape _ _ _ h1
    rw [h2, h3]
    refine Prod.ext rfl (Prod.ext rfl (Prod.ext h1 h4))
  · exact absurd h2.symm h1
theorem RgSt.nil {n : Nat} {z : List Int} {p c q : Int} {N : Nat} {l : List Int} {p' c' q' : Int} (h : RgSt n z p c q N l p' c' q') (hc : c' ≠ 0) : l = [] := by
  obtain ⟨_, _, ⟨_, h1, _⟩ | ⟨_, _, _, _, h1, _⟩ | ⟨_, _, h1, _⟩⟩ := h
  · exact h1
  · exact absurd h1 hc
  · exact h1
end Go.Proofs.YtlealkfkddhnnaaGreat.Cur
