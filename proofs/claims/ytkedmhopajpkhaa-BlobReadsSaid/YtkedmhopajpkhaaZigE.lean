/- Rising lists read: the plain mathematics; Put and Read of a number with a sign; above; ReadRising; PutRising. -/
import Derived.Test.YtkedmhopajpkhaaZigD
namespace Go.Proofs.Ytkedmhopajpkhaa.Cur
open Go.RowKit Mem
set_option linter.unusedVariables false


/-- The list of n numbers from place p on, some being read: the list, the place behind it; the fault's code and place. -/
def rgo (z : List Int) : Nat → Int → List Int → List Int × Int × Int × Int
  | 0, p, acc => (acc, p, 0, 0)
  | n + 1, p, acc =>
    if (vgo (z.drop p.toNat) 0 0).2.2.1 ≠ 0 then ([], 0, (vgo (z.drop p.toNat) 0 0).2.2.1, p + (vgo (z.drop p.toNat) 0 0).2.2.2)
    else if acc = [] then rgo z n (p + (vgo (z.drop p.toNat) 0 0).2.1) [(vgo (z.drop p.toNat) 0 0).1]
    else if 18446744073709551615 - acc.getD (acc.length - 1) 0 ≤ (vgo (z.drop p.toNat) 0 0).1 then ([], 0, 13, p)
    else rgo z n (p + (vgo (z.drop p.toNat) 0 0).2.1) (acc ++ [acc.getD (acc.length - 1) 0 + (vgo (z.drop p.toNat) 0 0).1 + 1])
theorem rgo_bad {z : List Int} {k : Nat} {p : Int} {acc : List Int} (h : (vgo (z.drop p.toNat) 0 0).2.2.1 ≠ 0) : rgo z (k + 1) p acc = ([], 0, (vgo (z.drop p.toNat) 0 0).2.2.1, p + (vgo (z.drop p.toNat) 0 0).2.2.2) := by
  unfold rgo; rw [if_pos h]
theorem rgo_first {z : List Int} {k : Nat} {p : Int} (h : (vgo (z.drop p.toNat) 0 0).2.2.1 = 0) : rgo z (k + 1) p [] = rgo z k (p + (vgo (z.drop p.toNat) 0 0).2.1) [(vgo (z.drop p.toNat) 0 0).1] := by
  rw [rgo, if_neg (by simp [h]), if_pos rfl]
theorem rgo_over {z : List Int} {k : Nat} {p : Int} {acc : List Int} (h : (vgo (z.drop p.toNat) 0 0).2.2.1 = 0) (ha : acc ≠ []) (ho : 18446744073709551615 - acc.getD (acc.length - 1) 0 ≤ (vgo (z.drop p.toNat) 0 0).1) : rgo z (k + 1) p acc = ([], 0, 13, p) := by
  rw [rgo, if_neg (by simp [h]), if_neg ha, if_pos ho]
theorem rgo_next {z : List Int} {k : Nat} {p : Int} {acc : List Int} (h : (vgo (z.drop p.toNat) 0 0).2.2.1 = 0) (ha : acc ≠ []) (ho : ¬ 18446744073709551615 - acc.getD (acc.length - 1) 0 ≤ (vgo (z.drop p.toNat) 0 0).1) :
    rgo z (k + 1) p acc = rgo z k (p + (vgo (z.drop p.toNat) 0 0).2.1) (acc ++ [acc.getD (acc.length - 1) 0 + (vgo (z.drop p.toNat) 0 0).1 + 1]) := by
  rw [rgo, if_neg (by simp [h]), if_neg ha, if_neg ho]

/-- What ReadRising does. -/
def RgSt (n : Nat) (z : List Int) (p c q : Int) (N : Nat) (l : List Int) (p' c' q' : Int) : Prop :=
  0 ≤ p' ∧ p' ≤ n ∧ ((c ≠ 0 ∧ l = [] ∧ c' = c ∧ q' = q) ∨
  (c = 0 ∧ (rgo z N p []).2.2.1 = 0 ∧ l = (rgo z N p []).1 ∧ p' = (rgo z N p []).2.1 ∧ c' = 0 ∧ q' = q) ∨
  (c = 0 ∧ (rgo z N p []).2.2.1 ≠ 0 ∧ l = [] ∧ c' = (rgo z N p []).2.2.1 ∧ q' = (rgo z N p []).2.2.2))
theorem RgSt.det {n : Nat} {z : List Int} {p c q : Int} {N : Nat} {l l2 : List Int} {p' c' q' p2 c2 q2 : Int} (h : RgSt n z p c q N l p' c' q') (k : RgSt n z p c q N l2 p2 c2 q2) : l = l2 ∧ c' = c2 ∧ q' = q2 ∧ (c' = 0 → p' = p2) := by
  obtain ⟨_, _, h⟩ := h
  obtain ⟨_, _, k⟩ := k
  rcases h with ⟨a0, rfl, rfl, rfl⟩ | ⟨a0, a1, rfl, rfl, rfl, rfl⟩ | ⟨a0, a1, rfl, rfl, rfl⟩ <;>
  rcases k with ⟨b0, rfl, rfl, rfl⟩ | ⟨b0, b1, rfl, rfl, rfl, rfl⟩ | ⟨b0, b1, rfl, rfl, rfl⟩ <;>
  first | exact absurd a0 b0 | exact absurd b0 a0 | exact absurd a1 b1 | exact absurd b1 a1 | exact ⟨rfl, rfl, rfl, fun h => absurd h (by assumption)⟩ | exact ⟨rfl, rfl, rfl, fun _ => rfl⟩

/-- A number takes at least a byte. -/
theorem vgo_pos (l : List Int) : ∀ (i : Nat) (X : Int), (vgo l i X).2.2.1 = 0 → (i : Int) + 1 ≤ (vgo l i X).2.1 := by
  induction l with
  | nil => intro i X h; exact absurd h (by show (1 : Int) ≠ 0; omega)
  | cons b l ih =>
    intro i X h
    unfold vgo at h ⊢
    split at h
    · exact absurd h (by show (5 : Int) ≠ 0; omega)
    · rename_i h1
      rw [if_neg h1]
      split at h
      · exact absurd h (by show (4 : Int) ≠ 0; omega)
      · rename_i h2
        rw [if_neg h2]
        split at h
        · rename_i h3
          rw [if_pos h3]
          show (i : Int) + 1 ≤ i + 1
          omega
        · rename_i h3
          rw [if_neg h3]
          have := ih (i + 1) _ h
          omega
/-- What Read leaves, in one of three ways. -/
theorem rd_ways {n : Nat} {z : List Int} {p q v p' c' q' : Int} (h : RdSt n z p 0 q v p' c' q') (hz : z.length = n) (h0 : 0 ≤ p) (h1 : p ≤ n) (hby : ∀ x ∈ z, 0 ≤ x ∧ x < 256) :
    ((vgo (z.drop p.toNat) 0 0).2.2.1 = 0 ∧ v = (vgo (z.drop p.toNat) 0 0).1 ∧ p' = p + (vgo (z.drop p.toNat) 0 0).2.1 ∧ c' = 0 ∧ q' = q ∧ p + 1 ≤ p' ∧ p' ≤ n ∧ 0 ≤ v ∧ v < 18446744073709551616) ∨
    ((vgo (z.drop p.toNat) 0 0).2.2.1 ≠ 0 ∧ v = 0 ∧ c' = (vgo (z.drop p.toNat) 0 0).2.2.1 ∧ q' = p + (vgo (z.drop p.toNat) 0 0).2.2.2 ∧ 0 ≤ p' ∧ p' ≤ n) := by
  obtain ⟨_, l2, l3, l4, l5⟩ := vgo_place (z.drop p.toNat) 0 0
  have hlen : ((0 : Nat) : Int) + (z.drop p.toNat).length = n - p := by rw [List.length_drop, hz]; omega
  rw [hlen] at l2 l4 l5
  rcases h with ⟨a, _⟩ | ⟨_, ⟨a0, a1, a2, a3, a4⟩ | ⟨a0, a1, a2, a3, a4⟩⟩
  · exact absurd rfl a
  · have hp := vgo_pos _ _ _ a0
    obtain ⟨y, j, _, _, _, hy, hy0, hy1, _⟩ := vgo_once (z.drop p.toNat) 0 0 (fun x hx => hby x (List.mem_of_mem_drop hx)) (by omega) a0
    rw [Int.pow_zero, Int.mul_one] at hy hy1
    refine .inl ⟨a0, a1, a2, a3, a4, by omega, by omega, by omega, by omega⟩
  · refine .inr ⟨a0, a1, a2, a3, ?_, ?_⟩ <;> rw [a4] <;> split <;> first | omega | skip
    rename_i h5
    -- a fault within the bytes: its place is one of theirs
    have : (vgo (z.drop p.toNat) 0 0).2.2.1 ≠ 1 → (vgo (z.drop p.toNat) 0 0).2.2.1 ≠ 0 → (vgo (z.drop p.toNat) 0 0).2.2.2 + 1 ≤ n - p := by
      intro h h'
      have key : ∀ (l : List Int) (i : Nat) (X : Int), (vgo l i X).2.2.1 ≠ 1 → (vgo l i X).2.2.1 ≠ 0 → (vgo l i X).2.2.2 + 1 ≤ i + l.length := by
        intro l
        induction l with
        | nil => intro i X h; exact absurd rfl h
        | cons b l ih =>
          intro i X h h'
          unfold vgo at h h' ⊢
          rw [List.length_cons]
          split at h
          · rename_i h1; rw [if_pos h1]; show (i : Int) + 1 ≤ _; omega
          · rename_i h1
            rw [if_neg h1] at h' ⊢
            split at h
            · rename_i h2; rw [if_pos h2]; show (i : Int) + 1 ≤ _; omega
            · rename_i h2
              rw [if_neg h2] at h' ⊢
              split at h
              · rename_i h3; rw [if_pos h3] at h'; exact absurd rfl h'
              · rename_i h3
                rw [if_neg h3] at h' ⊢
                have := ih (i + 1) _ h h'
                omega
      have := key (z.drop p.toNat) 0 0 h h'
      rw [hlen] at this
      exact this
    have := this h5 a0
    omega

def ZRdPost (b : Nat) (s : Value) (n : Nat) (z : List Int) (p c q : Int) (w : World) (e : Ending) (w' : World) : Prop :=
  ∃ v p' c' q', e = .returned (.int .i64 (zag v)) ∧ Kp b w w' ∧ IsRd w' b s p' c' q' ∧ RdSt n z p c q v p' c' q'
theorem rd_lt {n : Nat} {z : List Int} {p c q v p' c' q' : Int} (h : RdSt n z p c q v p' c' q') (hz : z.length = n) (h0 : 0 ≤ p) (h1 : p ≤ n) (hby : ∀ x ∈ z, 0 ≤ x ∧ x < 256) : 0 ≤ v ∧ v < 18446744073709551616 := by
  by_cases hc : c = 0
  · subst hc
    rcases rd_ways h hz h0 h1 hby with ⟨_, _, _, _, _, _, _, h⟩ | ⟨_, rfl, _⟩
    · exact h
    · omega
  · rcases h with ⟨_, rfl, _⟩ | ⟨h, _⟩
    · omega
    · exact absurd h hc
/-- above: the number that a step leads to, or 0 and a fault. -/
def AbPost (b : Nat) (s : Value) (p c q y x at_ : Int) (w : World) (e : Ending) (w' : World) : Prop :=
  ∃ v c' q', e = .returned (.int .u64 v) ∧ Kp b w w' ∧ IsRd w' b s p c' q' ∧ ((18446744073709551615 - y ≤ x ∧ v = 0 ∧ FailSt c q 13 at_ c' q') ∨ (¬ 18446744073709551615 - y ≤ x ∧ v = y + x + 1 ∧ c' = c ∧ q' = q))
end Go.Proofs.Ytkedmhopajpkhaa.Cur
