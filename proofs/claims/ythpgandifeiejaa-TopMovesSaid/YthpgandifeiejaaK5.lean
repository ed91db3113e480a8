/- K5: ZigA ZigB ZigC ZigD ZigE Spec ZigF ZigG ZigH ZigM -/
import Derived.Test.YthpgandifeiejaaK4
import Derived.Laws.BitsAllLaws
import Derived.Test.YthpgandifeiejaaK1
import Derived.IntWalk
import Derived.Deep.Cut
/- Numbers with a sign (package zigzag): the plain mathematics; Zig and Zag, the program's and the document's. -/
/- Rising lists (package zigzag): the plain mathematics; Rises, the program's and the document's; two lists of numbers are the same. -/
/- Rising lists: a step, the size; the document's bytes; two lists of numbers are the same or not. -/
/- Rising lists: the document's bytes; two lists of numbers that are the same are told the same. -/
/- Rising lists read: the plain mathematics; Put and Read of a number with a sign; above; ReadRising; PutRising. -/
/- What a reader reads, as a value: what is read from a place of bytes on, the place behind it, or the fault. -/
/- ReadRising: the next numbers of a rising list, or nothing with a fault. -/
/- The document's reader of a rising list; PutRising. -/
/- The document's reader of a rising list. -/
/- Rising lists: what is put is read, what is read is put so again: the plain mathematics. -/
namespace Go.Proofs.Ythpgandifeiejaa.Cur
open Go.RowKit Mem
set_option linter.unusedVariables false

def zg (n : Int) : Int := if n < 0 then -2 * n - 1 else 2 * n
def zag (x : Int) : Int := if x % 2 = 1 then -(x / 2) - 1 else x / 2
theorem zg_bd (n : Int) (h0 : -9223372036854775808 ≤ n) (h1 : n ≤ 9223372036854775807) : 0 ≤ zg n ∧ zg n < 18446744073709551616 := by unfold zg; split <;> omega
theorem zag_bd (x : Int) (h0 : 0 ≤ x) (h1 : x < 18446744073709551616) : -9223372036854775808 ≤ zag x ∧ zag x ≤ 9223372036854775807 := by unfold zag; split <;> omega
theorem zag_zg (n : Int) : zag (zg n) = n := by unfold zag zg; split <;> split <;> omega
theorem zg_zag (x : Int) (h0 : 0 ≤ x) : zg (zag x) = x := by unfold zag zg; split <;> split <;> omega

theorem wrapu (x : Int) : IntKind.u64.wrap x = x % 18446744073709551616 := rfl
theorem wrapi (x : Int) : IntKind.i64.wrap x = if x % 18446744073709551616 ≥ 9223372036854775808 then x % 18446744073709551616 - 18446744073709551616 else x % 18446744073709551616 := by
  show (if (true && decide (x % 18446744073709551616 ≥ 9223372036854775808)) = true then _ else _) = _
  simp only [Bool.true_and, decide_eq_true_eq]
  rfl
theorem wrap64_mod (x : Int) : wrap64 x % 18446744073709551616 = x % 18446744073709551616 := by
  unfold wrap64; omega
theorem ofInt_mod (x : Int) : (BitVec.ofInt 64 x).toNat = (x % 18446744073709551616).toNat := by
  rw [BitVec.toNat_ofInt]; rfl
theorem xor_zero_u64 (a b : Int) (h0 : 0 ≤ a) (h1 : a < 18446744073709551616) (hb : b % 18446744073709551616 = 0) : bits .xor .u64 a b = a := by
  show IntKind.u64.wrap ((BitVec.ofInt 64 a ^^^ BitVec.ofInt 64 b).toNat : Int) = _
  have : BitVec.ofInt 64 b = 0#64 := by
    apply BitVec.eq_of_toNat_eq
    rw [ofInt_mod, hb]; rfl
  rw [this, BitVec.xor_zero, ofInt_mod, wrapu]
  omega
theorem xor_ones_u64 (a b : Int) (h0 : 0 ≤ a) (h1 : a < 18446744073709551616) (hb : b % 18446744073709551616 = 18446744073709551615) : bits .xor .u64 a b = 18446744073709551615 - a := by
  show IntKind.u64.wrap ((BitVec.ofInt 64 a ^^^ BitVec.ofInt 64 b).toNat : Int) = _
  have : BitVec.ofInt 64 b = BitVec.allOnes 64 := by
    apply BitVec.eq_of_toNat_eq
    rw [ofInt_mod, hb]; rfl
  rw [this, BitVec.xor_allOnes, BitVec.toNat_not, ofInt_mod, wrapu]
  omega
theorem xor_zero_i64 (a b : Int) (h0 : 0 ≤ a) (h1 : a < 9223372036854775808) (hb : b % 18446744073709551616 = 0) : bits .xor .i64 a b = a := by
  show IntKind.i64.wrap ((BitVec.ofInt 64 a ^^^ BitVec.ofInt 64 b).toNat : Int) = _
  have : BitVec.ofInt 64 b = 0#64 := by
    apply BitVec.eq_of_toNat_eq
    rw [ofInt_mod, hb]; rfl
  rw [this, BitVec.xor_zero, ofInt_mod, wrapi]
  split <;> omega
theorem xor_ones_i64 (a b : Int) (h0 : 0 ≤ a) (h1 : a < 9223372036854775808) (hb : b % 18446744073709551616 = 18446744073709551615) : bits .xor .i64 a b = -a - 1 := by
  show IntKind.i64.wrap ((BitVec.ofInt 64 a ^^^ BitVec.ofInt 64 b).toNat : Int) = _
  have : BitVec.ofInt 64 b = BitVec.allOnes 64 := by
    apply BitVec.eq_of_toNat_eq
    rw [ofInt_mod, hb]; rfl
  rw [this, BitVec.xor_allOnes, BitVec.toNat_not, ofInt_mod, wrapi]
  split <;> omega
theorem and_one_u64 (a : Int) (h0 : 0 ≤ a) (h1 : a < 18446744073709551616) : bits .and .u64 a 1 = a % 2 := by
  obtain ⟨x, rfl⟩ := Int.eq_ofNat_of_zero_le h0
  have := u64_and_nat x 1 (by omega) (by omega)
  rw [show ((1 : Nat) : Int) = 1 from rfl] at this
  rw [this, Nat.and_one_is_mod]
  omega
theorem zg_bits (n : Int) (h0 : -9223372036854775808 ≤ n) (h1 : n ≤ 9223372036854775807) :
    bits .xor .u64 (IntKind.u64.wrap (wrap64 (n * 2))) (IntKind.u64.wrap (n / 9223372036854775808)) = zg n := by
  rw [wrapu, wrapu, wrap64_mod]
  unfold zg
  split
  · rw [xor_ones_u64 _ _ (by omega) (by omega) (by omega)]; omega
  · rw [xor_zero_u64 _ _ (by omega) (by omega) (by omega)]; omega
theorem zag_bits (x : Int) (h0 : 0 ≤ x) (h1 : x < 18446744073709551616) :
    bits .xor .i64 (x / 2) (wrap64 (-wrap64 (bits .and .u64 x 1))) = zag x := by
  rw [and_one_u64 x h0 h1]
  unfold zag
  split
  · rename_i h
    rw [h, xor_ones_i64 _ _ (by omega) (by omega) (by unfold wrap64; decide)]
  · rw [show x % 2 = 0 by omega, xor_zero_i64 _ _ (by omega) (by omega) (by unfold wrap64; decide)]

theorem ret_u64 {a b : Int} (h : a = b) : Ending.returned (.int .u64 a) = .returned (.int .u64 b) := by rw [h]
theorem ret_i64 {a b : Int} (h : a = b) : Ending.returned (.int .i64 a) = .returned (.int .i64 b) := by rw [h]

end Go.Proofs.Ythpgandifeiejaa.Cur

namespace Go.Proofs.Ythpgandifeiejaa.Cur
open Go.RowKit Mem
set_option linter.unusedVariables false


def risesB : List Int → Bool
  | a :: b :: l => decide (a < b) && risesB (b :: l)
  | _ => true
theorem risesB_iff : ∀ z : List Int, risesB z = true ↔ ∀ i, i + 1 < z.length → z.getD i 0 < z.getD (i + 1) 0
  | [] => by simp [risesB]
  | [a] => by simp [risesB]
  | a :: b :: l => by
    rw [risesB, Bool.and_eq_true, risesB_iff (b :: l), decide_eq_true_eq]
    constructor
    · rintro ⟨h1, h2⟩ i hi
      cases i with
      | zero => simpa using h1
      | succ i => have := h2 i (by simp at hi ⊢; omega); simpa using this
    · intro h
      refine ⟨by simpa using h 0 (by simp), fun i hi => ?_⟩
      have := h (i + 1) (by simp at hi ⊢; omega)
      simpa using this
theorem rises_true {z : List Int} {n k : Nat} (hz : z.length = n) (h : ∀ j, j < k → z.getD j 0 < z.getD (j + 1) 0) (hk : n ≤ k + 1) : risesB z = true :=
  (risesB_iff z).2 fun i hi => h i (by omega)
theorem rises_false {z : List Int} {n k : Nat} (hz : z.length = n) (hk : k + 1 < n) (h : ¬ z.getD k 0 < z.getD (k + 1) 0) : risesB z = false := by
  cases e : risesB z with
  | false => rfl
  | true => exact absurd ((risesB_iff z).1 e k (by omega)) h

theorem Us.cells {w : World} {A : Option Addr} {n : Nat} {z : List Int} (h : Us w A n z) (hn : 0 < n) : ∃ g o, A = some ⟨g, o, none⟩ ∧ g < w.heap.size ∧ ∀ w', Below w.heap.size w w' → ∀ k, k < n → w'.cell? ⟨g, o + k, none⟩ = some (.int .u64 (z.getD k 0)) := by
  obtain ⟨g, o, e, h0⟩ := h.at_ hn
  refine ⟨g, o, e, lt_of_cell h0, fun w' hb k hk => ?_⟩
  obtain ⟨g', o', e', hc⟩ := (h.below hb).at_ hk
  rw [e] at e'
  injection e' with e'
  injection e' with e1 e2
  subst e1 e2
  exact hc

set_option maxHeartbeats 1000000 in
theorem rises_any (A : Option Addr) (n m : Nat) (z : List Int) (w : World) (hz : Us w A n z) (hn : n ≤ 1000000) (hby : ∀ x ∈ z, 0 ≤ x ∧ x < 18446744073709551616) :
    Calls Try.prog 66 #[.slice A n m] w (BPost (.bool (risesB z)) w) := by
  unfold BPost
  by_cases hn0 : n = 0
  · subst hn0
    have HT := Lib.hid (rises_true (n := 0) (k := 0) hz.1 (by intro j hj; omega) (by omega))
    go_enter Try.func66, Try.ntmps66
    go_wp2
    go_loopw [7] (fun i wr => i = .int .i64 0 ∧ wr = w) (fun i _ => 0)
    case atStart => exact ⟨rfl, rfl⟩
    case round =>
      obtain ⟨rfl, rfl⟩ := hrel
      go_wp2
      go_ret
      exact ⟨by rw [HT.out]; rfl, Below.refl _ _⟩
  · obtain ⟨g, o, rfl, hg, hc⟩ := hz.cells (by omega)
    have HC := Lib.hid hc
    have HZ := Lib.hid hz.1
    have HB := Lib.hid hby
    clear hc hz hby
    go_enter Try.func66, Try.ntmps66
    go_wp2
    go_loopw [7] (fun i wr => ∃ k : Nat, k < n ∧ i = .int .i64 k ∧ Hid (∀ j, j < k → z.getD j 0 < z.getD (j + 1) 0) ∧ Below w.heap.size w wr) (fun i _ => n - (intOf i).toNat)
    case atStart => exact ⟨0, by omega, rfl, Lib.hid (by intro j hj; omega), Below.refl _ _⟩
    case round =>
      obtain ⟨k, hk, rfl, hj, hb⟩ := hrel
      by_cases hlt : k + 1 < n
      · have c0 := HC.out wr hb k hk
        have c1 := HC.out wr hb (k + 1) hlt
        obtain ⟨x0, hx0⟩ : ∃ x, x = z.getD k 0 := ⟨_, rfl⟩
        obtain ⟨x1, hx1⟩ : ∃ x, x = z.getD (k + 1) 0 := ⟨_, rfl⟩
        have b0 := HB.out x0 (by rw [hx0]; exact getD_mem (by rw [HZ.out]; omega))
        have b1 := HB.out x1 (by rw [hx1]; exact getD_mem (by rw [HZ.out]; omega))
        rw [← hx0] at c0
        rw [← hx1] at c1
        have HX0 := Lib.hid hx0
        have HX1 := Lib.hid hx1
        clear hx0 hx1
        have e1 : (k : Int) + 1 < n := by omega
        have e2 : (k : Int) < n := by omega
        have e3 : IntKind.i64.wrap ((k : Int) + 1) = ((k + 1 : Nat) : Int) := IntWalk.i64_in _ (by omega)
        by_cases hle : x0 < x1
        · go_wp2
          go_quiet (fail)
          go_wp2
          go_roundw
          case rel => exact ⟨k + 1, hlt, by go_num, Lib.hid (fun j hjk => by
            rcases Nat.lt_or_ge j k with h | h
            · exact hj.out j h
            · obtain rfl : j = k := by omega
              rw [← HX0.out, ← HX1.out]; exact hle), below_drewN hb _⟩
          case measure => simp [intOf]; omega
        · go_wp2
          go_quiet (fail)
          go_wp2
          go_ret
          exact ⟨by rw [rises_false HZ.out hlt (by rw [← HX0.out, ← HX1.out]; omega)]; rfl, below_drewN hb _⟩
      · go_wp2
        go_ret
        exact ⟨by rw [rises_true HZ.out hj.out (by omega)]; rfl, hb⟩
end Go.Proofs.Ythpgandifeiejaa.Cur

namespace Go.Proofs.Ythpgandifeiejaa.Cur
open Go.RowKit Mem
set_option linter.unusedVariables false


/-- The integer by which number k of a rising list is written. -/
def stp (z : List Int) (k : Nat) : Int := if k = 0 then z.getD 0 0 else z.getD k 0 - z.getD (k - 1) 0 - 1
def rzk (z : List Int) : Nat → List Int
  | 0 => []
  | k + 1 => rzk z k ++ vz (stp z k)
def rz (z : List Int) : List Int := rzk z z.length
theorem rzk_len (z : List Int) (k : Nat) : (rzk z k).length ≤ 10 * k := by
  induction k with
  | zero => simp [rzk]
  | succ k ih => rw [rzk, List.length_append, vz_length]; have := vsz_le (stp z k); omega
theorem rzk_succ_len (z : List Int) (k : Nat) : (rzk z (k + 1)).length = (rzk z k).length + vsz (stp z k) := by rw [rzk, List.length_append, vz_length]
theorem stp_bd {z : List Int} {n k : Nat} (hz : z.length = n) (hk : k < n) (hby : ∀ x ∈ z, 0 ≤ x ∧ x < 18446744073709551616) (hr : risesB z = true) : 0 ≤ stp z k ∧ stp z k < 18446744073709551616 := by
  have h1 := hby _ (getD_mem (z := z) (k := k) (by omega))
  unfold stp
  split
  · subst k; exact h1
  · have h2 := hby _ (getD_mem (z := z) (k := k - 1) (by omega))
    have h3 := (risesB_iff z).1 hr (k - 1) (by omega)
    rw [show k - 1 + 1 = k by omega] at h3
    omega

set_option maxHeartbeats 1000000 in
theorem step_any (A : Option Addr) (n m k : Nat) (z : List Int) (w : World) (hz : Us w A n z) (hk : k < n) (hn : n ≤ 1000000) (hby : ∀ x ∈ z, 0 ≤ x ∧ x < 18446744073709551616) (hr : risesB z = true) :
    Calls Try.prog 67 #[.slice A n m, .int .i64 k] w (BPost (.int .u64 (stp z k)) w) := by
  unfold BPost
  have b0 := hby _ (getD_mem (z := z) (k := k) (by rw [hz.1]; exact hk))
  obtain ⟨g, o, rfl, hg, hc⟩ := hz.cells (by omega)
  have c0 := hc w (Below.refl _ _) k hk
  by_cases h0 : k = 0
  · subst h0
    have HS := Lib.hid (show stp z 0 = z.getD 0 0 by unfold stp; rw [if_pos rfl])
    clear hc hz hby hr
    have e0 : (0 : Nat) < n := hk
    rw [show ((0 : Nat) : Int) = 0 from rfl]
    rw [Nat.add_zero] at c0
    generalize z.getD 0 0 = x at *
    go_enter Try.func67, Try.ntmps67
    go_wp2
    go_ret
    exact ⟨by rw [HS.out]; rfl, Below.refl _ _⟩
  · have b1 := hby _ (getD_mem (z := z) (k := k - 1) (by rw [hz.1]; omega))
    have c1 := hc w (Below.refl _ _) (k - 1) (by omega)
    have h3 := (risesB_iff z).1 hr (k - 1) (by rw [hz.1]; omega)
    rw [show k - 1 + 1 = k by omega] at h3
    have HS := Lib.hid (show stp z k = z.getD k 0 - z.getD (k - 1) 0 - 1 by unfold stp; rw [if_neg h0])
    clear hc hz hby hr
    generalize z.getD k 0 = x at *
    generalize z.getD (k - 1) 0 = y at *
    obtain ⟨j, rfl⟩ : ∃ j, k = j + 1 := ⟨k - 1, by omega⟩
    rw [Nat.add_sub_cancel] at c1
    have e1 : ((j + 1 : Nat) : Int) = (j : Int) + 1 := by omega
    rw [e1]
    clear e1 h0
    have e2 : (j : Int) + 1 < n := by omega
    have e3 : (0 : Int) ≤ j := by omega
    have e4 : IntKind.i64.wrap ((j : Int) + 1 - 1) = (j : Int) := by rw [show (j : Int) + 1 - 1 = j by omega]; exact IntWalk.i64_in _ (by omega)
    have e5 : (j : Int) < n := by omega
    have e6 : ((j : Int) + 1).toNat = j + 1 := by omega
    have e7 : ((j : Int) + 1 == 0) = false := by simp; omega
    go_enter Try.func67, Try.ntmps67
    go_wp2
    go_quiet (fail)
    go_wp2
    go_ret
    exact ⟨by rw [HS.out]; rfl, below_drewN (Below.refl _ _) _⟩

end Go.Proofs.Ythpgandifeiejaa.Cur

namespace Go.Proofs.Ythpgandifeiejaa.Cur
open Go.RowKit Mem
set_option linter.unusedVariables false


end Go.Proofs.Ythpgandifeiejaa.Cur

namespace Go.Proofs.Ythpgandifeiejaa.Cur
open Go.RowKit Mem
set_option linter.unusedVariables false


/-- The list of n numbers from place p on, some being read: the list, the place behind it; the fault's code and place. -/
def rgo (z : List Int) : Nat → Int → List Int → List Int × Int × Int × Int
  | 0, p, acc => (acc, p, 0, 0)
  | n + 1, p, acc =>
    if (vgo (z.drop p.toNat) 0 0).2.2.1 ≠ 0 then ([], 0, (vgo (z.drop p.toNat) 0 0).2.2.1, p + (vgo (z.drop p.toNat) 0 0).2.2.2)
    else if acc = [] then rgo z n (p + (vgo (z.drop p.toNat) 0 0).2.1) [(vgo (z.drop p.toNat) 0 0).1]
    else if 18446744073709551615 - acc.getD (acc.length - 1) 0 ≤ (vgo (z.drop p.toNat) 0 0).1 then ([], 0, 13, p)
    else rgo z n (p + (vgo (z.drop p.toNat) 0 0).2.1) (acc ++ [acc.getD (acc.length - 1) 0 + (vgo (z.drop p.toNat) 0 0).1 + 1])
theorem rgo_bad {z : List Int} {k : Nat} {p : Int} {acc : List Int} (h : (vgo (z.drop p.toNat) 0 0).2.2.1 ≠ 0) : rgo z (k + 1) p acc = ([], 0, (vgo (z.drop p.toNat) 0 0).2.2.1, p + (vgo (z.drop p.toNat) 0 0).2.2.2) := by
  unfold rgo; rw [if_pos h]
theorem rgo_first {z : List Int} {k : Nat} {p : Int} (h : (vgo (z.drop p.toNat) 0 0).2.2.1 = 0) : rgo z (k + 1) p [] = rgo z k (p + (vgo (z.drop p.toNat) 0 0).2.1) [(vgo (z.drop p.toNat) 0 0).1] := by
  rw [rgo, if_neg (by simp [h]), if_pos rfl]
theorem rgo_over {z : List Int} {k : Nat} {p : Int} {acc : List Int} (h : (vgo (z.drop p.toNat) 0 0).2.2.1 = 0) (ha : acc ≠ []) (ho : 18446744073709551615 - acc.getD (acc.length - 1) 0 ≤ (vgo (z.drop p.toNat) 0 0).1) : rgo z (k + 1) p acc = ([], 0, 13, p) := by
  rw [rgo, if_neg (by simp [h]), if_neg ha, if_pos ho]
theorem rgo_next {z : List Int} {k : Nat} {p : Int} {acc : List Int} (h : (vgo (z.drop p.toNat) 0 0).2.2.1 = 0) (ha : acc ≠ []) (ho : ¬ 18446744073709551615 - acc.getD (acc.length - 1) 0 ≤ (vgo (z.drop p.toNat) 0 0).1) :
    rgo z (k + 1) p acc = rgo z k (p + (vgo (z.drop p.toNat) 0 0).2.1) (acc ++ [acc.getD (acc.length - 1) 0 + (vgo (z.drop p.toNat) 0 0).1 + 1]) := by
  rw [rgo, if_neg (by simp [h]), if_neg ha, if_neg ho]

/-- What ReadRising does. -/
def RgSt (n : Nat) (z : List Int) (p c q : Int) (N : Nat) (l : List Int) (p' c' q' : Int) : Prop :=
  0 ≤ p' ∧ p' ≤ n ∧ ((c ≠ 0 ∧ l = [] ∧ c' = c ∧ q' = q) ∨
  (c = 0 ∧ (rgo z N p []).2.2.1 = 0 ∧ l = (rgo z N p []).1 ∧ p' = (rgo z N p []).2.1 ∧ c' = 0 ∧ q' = q) ∨
  (c = 0 ∧ (rgo z N p []).2.2.1 ≠ 0 ∧ l = [] ∧ c' = (rgo z N p []).2.2.1 ∧ q' = (rgo z N p []).2.2.2))
theorem RgSt.det {n : Nat} {z : List Int} {p c q : Int} {N : Nat} {l l2 : List Int} {p' c' q' p2 c2 q2 : Int} (h : RgSt n z p c q N l p' c' q') (k : RgSt n z p c q N l2 p2 c2 q2) : l = l2 ∧ c' = c2 ∧ q' = q2 ∧ (c' = 0 → p' = p2) := by
  obtain ⟨_, _, h⟩ := h
  obtain ⟨_, _, k⟩ := k
  rcases h with ⟨a0, rfl, rfl, rfl⟩ | ⟨a0, a1, rfl, rfl, rfl, rfl⟩ | ⟨a0, a1, rfl, rfl, rfl⟩ <;>
  rcases k with ⟨b0, rfl, rfl, rfl⟩ | ⟨b0, b1, rfl, rfl, rfl, rfl⟩ | ⟨b0, b1, rfl, rfl, rfl⟩ <;>
  first | exact absurd a0 b0 | exact absurd b0 a0 | exact absurd a1 b1 | exact absurd b1 a1 | exact ⟨rfl, rfl, rfl, fun h => absurd h (by assumption)⟩ | exact ⟨rfl, rfl, rfl, fun _ => rfl⟩

/-- A number takes at least a byte. -/
theorem vgo_pos (l : List Int) : ∀ (i : Nat) (X : Int), (vgo l i X).2.2.1 = 0 → (i : Int) + 1 ≤ (vgo l i X).2.1 := by
  induction l with
  | nil => intro i X h; exact absurd h (by show (1 : Int) ≠ 0; omega)
  | cons b l ih =>
    intro i X h
    unfold vgo at h ⊢
    split at h
    · exact absurd h (by show (5 : Int) ≠ 0; omega)
    · rename_i h1
      rw [if_neg h1]
      split at h
      · exact absurd h (by show (4 : Int) ≠ 0; omega)
      · rename_i h2
        rw [if_neg h2]
        split at h
        · rename_i h3
          rw [if_pos h3]
          show (i : Int) + 1 ≤ i + 1
          omega
        · rename_i h3
          rw [if_neg h3]
          have := ih (i + 1) _ h
          omega
/-- What Read leaves, in one of three ways. -/
theorem rd_ways {n : Nat} {z : List Int} {p q v p' c' q' : Int} (h : RdSt n z p 0 q v p' c' q') (hz : z.length = n) (h0 : 0 ≤ p) (h1 : p ≤ n) (hby : ∀ x ∈ z, 0 ≤ x ∧ x < 256) :
    ((vgo (z.drop p.toNat) 0 0).2.2.1 = 0 ∧ v = (vgo (z.drop p.toNat) 0 0).1 ∧ p' = p + (vgo (z.drop p.toNat) 0 0).2.1 ∧ c' = 0 ∧ q' = q ∧ p + 1 ≤ p' ∧ p' ≤ n ∧ 0 ≤ v ∧ v < 18446744073709551616) ∨
    ((vgo (z.drop p.toNat) 0 0).2.2.1 ≠ 0 ∧ v = 0 ∧ c' = (vgo (z.drop p.toNat) 0 0).2.2.1 ∧ q' = p + (vgo (z.drop p.toNat) 0 0).2.2.2 ∧ 0 ≤ p' ∧ p' ≤ n) := by
  obtain ⟨_, l2, l3, l4, l5⟩ := vgo_place (z.drop p.toNat) 0 0
  have hlen : ((0 : Nat) : Int) + (z.drop p.toNat).length = n - p := by rw [List.length_drop, hz]; omega
  rw [hlen] at l2 l4 l5
  rcases h with ⟨a, _⟩ | ⟨_, ⟨a0, a1, a2, a3, a4⟩ | ⟨a0, a1, a2, a3, a4⟩⟩
  · exact absurd rfl a
  · have hp := vgo_pos _ _ _ a0
    obtain ⟨y, j, _, _, _, hy, hy0, hy1, _⟩ := vgo_once (z.drop p.toNat) 0 0 (fun x hx => hby x (List.mem_of_mem_drop hx)) (by omega) a0
    rw [Int.pow_zero, Int.mul_one] at hy hy1
    refine .inl ⟨a0, a1, a2, a3, a4, by omega, by omega, by omega, by omega⟩
  · refine .inr ⟨a0, a1, a2, a3, ?_, ?_⟩ <;> rw [a4] <;> split <;> first | omega | skip
    rename_i h5
    -- a fault within the bytes: its place is one of theirs
    have : (vgo (z.drop p.toNat) 0 0).2.2.1 ≠ 1 → (vgo (z.drop p.toNat) 0 0).2.2.1 ≠ 0 → (vgo (z.drop p.toNat) 0 0).2.2.2 + 1 ≤ n - p := by
      intro h h'
      have key : ∀ (l : List Int) (i : Nat) (X : Int), (vgo l i X).2.2.1 ≠ 1 → (vgo l i X).2.2.1 ≠ 0 → (vgo l i X).2.2.2 + 1 ≤ i + l.length := by
        intro l
        induction l with
        | nil => intro i X h; exact absurd rfl h
        | cons b l ih =>
          intro i X h h'
          unfold vgo at h h' ⊢
          rw [List.length_cons]
          split at h
          · rename_i h1; rw [if_pos h1]; show (i : Int) + 1 ≤ _; omega
          · rename_i h1
            rw [if_neg h1] at h' ⊢
            split at h
            · rename_i h2; rw [if_pos h2]; show (i : Int) + 1 ≤ _; omega
            · rename_i h2
              rw [if_neg h2] at h' ⊢
              split at h
              · rename_i h3; rw [if_pos h3] at h'; exact absurd rfl h'
              · rename_i h3
                rw [if_neg h3] at h' ⊢
                have := ih (i + 1) _ h h'
                omega
      have := key (z.drop p.toNat) 0 0 h h'
      rw [hlen] at this
      exact this
    have := this h5 a0
    omega

def ZRdPost (b : Nat) (s : Value) (n : Nat) (z : List Int) (p c q : Int) (w : World) (e : Ending) (w' : World) : Prop :=
  ∃ v p' c' q', e = .returned (.int .i64 (zag v)) ∧ Kp b w w' ∧ IsRd w' b s p' c' q' ∧ RdSt n z p c q v p' c' q'
theorem rd_lt {n : Nat} {z : List Int} {p c q v p' c' q' : Int} (h : RdSt n z p c q v p' c' q') (hz : z.length = n) (h0 : 0 ≤ p) (h1 : p ≤ n) (hby : ∀ x ∈ z, 0 ≤ x ∧ x < 256) : 0 ≤ v ∧ v < 18446744073709551616 := by
  by_cases hc : c = 0
  · subst hc
    rcases rd_ways h hz h0 h1 hby with ⟨_, _, _, _, _, _, _, h⟩ | ⟨_, rfl, _⟩
    · exact h
    · omega
  · rcases h with ⟨_, rfl, _⟩ | ⟨h, _⟩
    · omega
    · exact absurd h hc
/-- above: the number that a step leads to, or 0 and a fault. -/
def AbPost (b : Nat) (s : Value) (p c q y x at_ : Int) (w : World) (e : Ending) (w' : World) : Prop :=
  ∃ v c' q', e = .returned (.int .u64 v) ∧ Kp b w w' ∧ IsRd w' b s p c' q' ∧ ((18446744073709551615 - y ≤ x ∧ v = 0 ∧ FailSt c q 13 at_ c' q') ∨ (¬ 18446744073709551615 - y ≤ x ∧ v = y + x + 1 ∧ c' = c ∧ q' = q))
set_option maxHeartbeats 400000 in
theorem above_any (b : Nat) (s : Value) (p c q y x at_ : Int) (w : World) (h : IsRd w b s p c q) (y0 : 0 ≤ y) (y1 : y < 18446744073709551616) (x0 : 0 ≤ x) (x1 : x < 18446744073709551616) :
    Calls Try.prog 82 #[.pointer (some ⟨b, 0, none⟩), .int .u64 y, .int .u64 x, .int .i64 at_] w (AbPost b s p c q y x at_ w) := by
  by_cases ho : 18446744073709551615 - y ≤ x
  · go_enter Try.func82, Try.ntmps82
    go_wp2_with fail
    refine (fail_any _ _ _ _ _ _ _ _ h).mono ?_
    rintro e w1 ⟨c2, q2, rfl, hk, hr, hf⟩
    have HF := Lib.hid hf
    clear hf
    go_wp2
    go_ret
    exact ⟨0, c2, q2, rfl, hk, hr, .inl ⟨ho, rfl, HF.out⟩⟩
  · have h2 : x < 18446744073709551615 - y := by omega
    go_enter Try.func82, Try.ntmps82
    go_wp2
    go_ret
    exact ⟨_, _, _, rfl, Kp.refl _ _, h, .inr ⟨by omega, rfl, rfl, rfl⟩⟩
end Go.Proofs.Ythpgandifeiejaa.Cur

namespace Go.Proofs.Ythpgandifeiejaa.Cur
open Go.RowKit Mem
set_option linter.unusedVariables false

/-- A value and the place behind it; or the fault's code and place. -/
abbrev Rs (α : Type) := α × Int × Int × Int
/-- What a reader does that reads g from place p on, if it has no fault c at q. -/
def St {α : Type} (d : α) (n : Nat) (g : Rs α) (p c q : Int) (v : α) (p' c' q' : Int) : Prop :=
  0 ≤ p' ∧ p' ≤ n ∧ ((c ≠ 0 ∧ v = d ∧ c' = c ∧ q' = q) ∨ (c = 0 ∧ g.2.2.1 = 0 ∧ v = g.1 ∧ p' = g.2.1 ∧ c' = 0 ∧ q' = q) ∨ (c = 0 ∧ g.2.2.1 ≠ 0 ∧ v = d ∧ c' = g.2.2.1 ∧ q' = g.2.2.2))
theorem St.det {α : Type} {d : α} {n : Nat} {g : Rs α} {p c q : Int} {v v2 : α} {p' c' q' p2 c2 q2 : Int} (h : St d n g p c q v p' c' q') (k : St d n g p c q v2 p2 c2 q2) : v = v2 ∧ c' = c2 ∧ q' = q2 ∧ (c' = 0 → p' = p2) := by
  obtain ⟨_, _, h⟩ := h
  obtain ⟨_, _, k⟩ := k
  rcases h with ⟨a0, rfl, rfl, rfl⟩ | ⟨a0, a1, rfl, rfl, rfl, rfl⟩ | ⟨a0, a1, rfl, rfl, rfl⟩ <;>
  rcases k with ⟨b0, rfl, rfl, rfl⟩ | ⟨b0, b1, rfl, rfl, rfl, rfl⟩ | ⟨b0, b1, rfl, rfl, rfl⟩ <;>
  first | exact absurd a0 b0 | exact absurd b0 a0 | exact absurd a1 b1 | exact absurd b1 a1 | exact ⟨rfl, rfl, rfl, fun h => absurd h (by assumption)⟩ | exact ⟨rfl, rfl, rfl, fun _ => rfl⟩
theorem St.place {α : Type} {d : α} {n : Nat} {g : Rs α} {p c q : Int} {v : α} {p' c' q' : Int} (h : St d n g p c q v p' c' q') : 0 ≤ p' ∧ p' ≤ n := ⟨h.1, h.2.1⟩
theorem St.good {α : Type} {d : α} {n : Nat} {g : Rs α} {p c q : Int} {v : α} {p' q' : Int} (h : St d n g p c q v p' 0 q') : c = 0 ∧ g.2.2.1 = 0 ∧ v = g.1 ∧ p' = g.2.1 ∧ q' = q := by
  obtain ⟨_, _, ⟨h0, _, h1, _⟩ | ⟨h0, h1, h2, h3, _, h4⟩ | ⟨_, h0, _, h1, _⟩⟩ := h
  · exact absurd h1.symm h0
  · exact ⟨h0, h1, h2, h3, h4⟩
  · exact absurd h1.symm h0
theorem St.nil {α : Type} {d : α} {n : Nat} {g : Rs α} {p c q : Int} {v : α} {p' c' q' : Int} (h : St d n g p c q v p' c' q') (hc : c' ≠ 0) : v = d := by
  obtain ⟨_, _, ⟨_, h1, _⟩ | ⟨_, _, _, _, h1, _⟩ | ⟨_, _, h1, _⟩⟩ := h
  · exact h1
  · exact absurd h1 hc
  · exact h1
theorem St.bad {α : Type} {d : α} {n : Nat} {g : Rs α} {p c q : Int} {v : α} {p' c' q' : Int} (h : St d n g p c q v p' c' q') (hc : c ≠ 0) : v = d ∧ c' = c ∧ q' = q := by
  obtain ⟨_, _, ⟨_, h1⟩ | ⟨h0, _⟩ | ⟨h0, _⟩⟩ := h
  · exact h1
  · exact absurd h0 hc
  · exact absurd h0 hc
theorem St.stay {α : Type} {d : α} {n : Nat} {g : Rs α} {p c q p' : Int} (h0 : 0 ≤ p') (h1 : p' ≤ n) (hc : c ≠ 0) : St d n g p c q d p' c q := ⟨h0, h1, .inl ⟨hc, rfl, rfl, rfl⟩⟩
theorem St.done {α : Type} {d : α} {n : Nat} {g : Rs α} {p q : Int} {v : α} {p' : Int} (e : g = (v, p', 0, 0)) (h0 : 0 ≤ p') (h1 : p' ≤ n) : St d n g p 0 q v p' 0 q := by
  subst e; exact ⟨h0, h1, .inr (.inl ⟨rfl, rfl, rfl, rfl, rfl, rfl⟩)⟩
theorem St.fault {α : Type} {d x : α} {n : Nat} {g : Rs α} {p q : Int} {p' c' q' y : Int} (e : g = (x, y, c', q')) (hc : c' ≠ 0) (h0 : 0 ≤ p') (h1 : p' ≤ n) : St d n g p 0 q d p' c' q' := by
  subst e; exact ⟨h0, h1, .inr (.inr ⟨rfl, hc, rfl, rfl, rfl⟩)⟩
theorem St.of_done {α : Type} {d : α} {n : Nat} {g : Rs α} {p q : Int} {v : α} {p' c' q' : Int} {u : α} {p2 : Int} (h : St d n g p 0 q v p' c' q') (e : g = (u, p2, 0, 0)) : v = u ∧ p' = p2 ∧ c' = 0 ∧ q' = q := by
  obtain ⟨_, _, ⟨h0, _⟩ | ⟨_, _, h1, h2, h3, h4⟩ | ⟨_, h0, _⟩⟩ := h
  · exact absurd rfl h0
  · rw [e] at h1 h2; exact ⟨h1, h2, h3, h4⟩
  · rw [e] at h0; exact absurd rfl h0
/-- One behind the other. -/
def Rs.bind {α β : Type} (g : Rs α) (d : β) (f : α → Int → Rs β) : Rs β := if g.2.2.1 ≠ 0 then (d, 0, g.2.2.1, g.2.2.2) else f g.1 g.2.1
theorem St.bind {α β : Type} {d1 : α} {d : β} {n : Nat} {g : Rs α} {f : α → Int → Rs β} {p c q : Int} {v : α} {p1 c1 q1 : Int} {u : β} {p2 c2 q2 : Int} (h : St d1 n g p c q v p1 c1 q1) (k : St d n (f v p1) p1 c1 q1 u p2 c2 q2) :
    St d n (g.bind d f) p c q u p2 c2 q2 := by
  obtain ⟨_, _, h⟩ := h
  obtain ⟨k0, k1, k⟩ := k
  refine ⟨k0, k1, ?_⟩
  rcases h with ⟨a0, rfl, rfl, rfl⟩ | ⟨a0, a1, rfl, rfl, rfl, rfl⟩ | ⟨a0, a1, rfl, rfl, rfl⟩
  · rcases k with ⟨b0, rfl, rfl, rfl⟩ | ⟨b0, _⟩ | ⟨b0, _⟩
    · exact .inl ⟨a0, rfl, rfl, rfl⟩
    · exact absurd b0 a0
    · exact absurd b0 a0
  · rcases k with ⟨b0, _⟩ | ⟨b0, b1, rfl, rfl, rfl, rfl⟩ | ⟨b0, b1, rfl, rfl, rfl⟩
    · exact absurd rfl b0
    · refine .inr (.inl ⟨a0, ?_⟩)
      unfold Rs.bind
      rw [if_neg (by simp [a1])]
      exact ⟨b1, rfl, rfl, rfl, rfl⟩
    · refine .inr (.inr ⟨a0, ?_⟩)
      unfold Rs.bind
      rw [if_neg (by simp [a1])]
      exact ⟨b1, rfl, rfl, rfl⟩
  · rcases k with ⟨b0, rfl, rfl, rfl⟩ | ⟨b0, _⟩ | ⟨b0, _⟩
    · refine .inr (.inr ⟨a0, ?_⟩)
      unfold Rs.bind
      rw [if_pos a1]
      exact ⟨a1, rfl, rfl, rfl⟩
    · exact absurd b0 a1
    · exact absurd b0 a1
/-- What is read, turned. -/
def Rs.map {α β : Type} (g : Rs α) (f : α → β) : Rs β := (f g.1, g.2.1, g.2.2.1, g.2.2.2)
theorem St.map {α β : Type} {d : α} {n : Nat} {g : Rs α} (f : α → β) {p c q : Int} {v : α} {p' c' q' : Int} (h : St d n g p c q v p' c' q') : St (f d) n (g.map f) p c q (f v) p' c' q' := by
  obtain ⟨h0, h1, h⟩ := h
  refine ⟨h0, h1, ?_⟩
  rcases h with ⟨a0, rfl, rfl, rfl⟩ | ⟨a0, a1, rfl, rfl, rfl, rfl⟩ | ⟨a0, a1, rfl, rfl, rfl⟩
  · exact .inl ⟨a0, rfl, rfl, rfl⟩
  · exact .inr (.inl ⟨a0, a1, rfl, rfl, rfl, rfl⟩)
  · exact .inr (.inr ⟨a0, a1, rfl, rfl, rfl⟩)
theorem Rs.bind_ok {α β : Type} {g : Rs α} {d : β} {f : α → Int → Rs β} (h : (g.bind d f).2.2.1 = 0) : g.2.2.1 = 0 ∧ g.bind d f = f g.1 g.2.1 := by
  unfold Rs.bind at h ⊢
  split at h
  · rename_i hg; exact absurd h hg
  · rename_i hg; rw [if_neg hg]; exact ⟨by simpa using hg, rfl⟩
theorem Rs.bind_of {α β : Type} {g : Rs α} {d : β} {f : α → Int → Rs β} {v : α} {p' : Int} (h : g = (v, p', 0, 0)) : g.bind d f = f v p' := by
  subst h; unfold Rs.bind; rw [if_neg (by simp)]

/-- A number. -/
def vg (z : List Int) (p : Int) : Rs Int := ((vgo (z.drop p.toNat) 0 0).1, p + (vgo (z.drop p.toNat) 0 0).2.1, (vgo (z.drop p.toNat) 0 0).2.2.1, if (vgo (z.drop p.toNat) 0 0).2.2.1 = 0 then 0 else p + (vgo (z.drop p.toNat) 0 0).2.2.2)
theorem RdSt.st {n : Nat} {z : List Int} {p c q v p' c' q' : Int} (h : RdSt n z p c q v p' c' q') (hz : z.length = n) (h0 : 0 ≤ p) (h1 : p ≤ n) (hby : ∀ x ∈ z, 0 ≤ x ∧ x < 256) : St 0 n (vg z p) p c q v p' c' q' := by
  by_cases hc : c = 0
  · subst hc
    rcases rd_ways h hz h0 h1 hby with ⟨g0, rfl, rfl, rfl, rfl, p1, p2, _⟩ | ⟨g0, rfl, rfl, rfl, p1, p2⟩
    · exact ⟨by omega, by omega, .inr (.inl ⟨rfl, g0, rfl, rfl, rfl, rfl⟩)⟩
    · exact ⟨p1, p2, .inr (.inr ⟨rfl, g0, rfl, rfl, by unfold vg; rw [if_neg g0]⟩)⟩
  · rcases h with ⟨_, rfl, rfl, rfl, rfl⟩ | ⟨h, _⟩
    · exact ⟨h0, h1, .inl ⟨hc, rfl, rfl, rfl⟩⟩
    · exact absurd h hc
/-- A number of at most mo. -/
def vm (z : List Int) (mo p : Int) : Rs Int := if (vg z p).2.2.1 ≠ 0 then (0, 0, (vg z p).2.2.1, (vg z p).2.2.2) else if mo < (vg z p).1 then (0, 0, 2, p) else vg z p
theorem most_st {n : Nat} {z : List Int} {p c q mo v0 p' c0 q0 v c' q' : Int} (h : RdSt n z p c q v0 p' c0 q0) (hz : z.length = n) (h0 : 0 ≤ p) (h1 : p ≤ n) (hby : ∀ x ∈ z, 0 ≤ x ∧ x < 256)
    (hv : (mo < v0 ∧ v = 0 ∧ FailSt c0 q0 2 p c' q') ∨ (v0 ≤ mo ∧ v = v0 ∧ c' = c0 ∧ q' = q0)) : St 0 n (vm z mo p) p c q v p' c' q' := by
  have hs := h.st hz h0 h1 hby
  obtain ⟨k0, k1, k⟩ := hs
  refine ⟨k0, k1, ?_⟩
  rcases k with ⟨a0, rfl, rfl, rfl⟩ | ⟨a0, a1, rfl, rfl, rfl, rfl⟩ | ⟨a0, a1, rfl, rfl, rfl⟩
  · refine .inl ⟨a0, ?_⟩
    rcases hv with ⟨_, rfl, hf⟩ | ⟨_, rfl, rfl, rfl⟩
    · rcases hf with ⟨hf, _⟩ | ⟨_, rfl, rfl⟩
      · exact absurd hf a0
      · exact ⟨rfl, rfl, rfl⟩
    · exact ⟨rfl, rfl, rfl⟩
  · rcases hv with ⟨hm, rfl, hf⟩ | ⟨hm, rfl, rfl, rfl⟩
    · rcases hf with ⟨_, rfl, hq⟩ | ⟨hf, _⟩
      · refine .inr (.inr ⟨a0, ?_⟩)
        unfold vm
        rw [if_neg (by simp [a1]), if_pos hm]
        exact ⟨by show (2 : Int) ≠ 0; decide, rfl, rfl, hq⟩
      · exact absurd rfl hf
    · refine .inr (.inl ⟨a0, ?_⟩)
      unfold vm
      rw [if_neg (by simp [a1]), if_neg (by omega)]
      exact ⟨a1, rfl, rfl, rfl, rfl⟩
  · refine .inr (.inr ⟨a0, ?_⟩)
    unfold vm
    rw [if_pos a1]
    rcases hv with ⟨_, rfl, hf⟩ | ⟨_, rfl, rfl, rfl⟩
    · rcases hf with ⟨hf, _⟩ | ⟨_, rfl, rfl⟩
      · exact absurd hf a1
      · exact ⟨a1, rfl, rfl, rfl⟩
    · exact ⟨a1, rfl, rfl, rfl⟩
theorem MostSt.st {n : Nat} {z : List Int} {p c q mo v p' c' q' : Int} (h : MostSt n z p c q mo v p' c' q') (hz : z.length = n) (h0 : 0 ≤ p) (h1 : p ≤ n) (hby : ∀ x ∈ z, 0 ≤ x ∧ x < 256) : St 0 n (vm z mo p) p c q v p' c' q' := by
  obtain ⟨v0, c0, q0, hr, hv⟩ := h
  exact most_st hr hz h0 h1 hby hv
theorem IntSt.st {n : Nat} {z : List Int} {p c q mo v p' c' q' : Int} (h : IntSt n z p c q mo v p' c' q') (hz : z.length = n) (h0 : 0 ≤ p) (h1 : p ≤ n) (hby : ∀ x ∈ z, 0 ≤ x ∧ x < 256) : St 0 n (vm z mo p) p c q v p' c' q' := by
  rcases h with ⟨_, h⟩ | ⟨hm, rfl, v0, c0, q0, hr, hf⟩
  · exact h.st hz h0 h1 hby
  · have := hr.nonneg hby
    exact most_st hr hz h0 h1 hby (.inl ⟨by omega, rfl, hf⟩)
theorem vg_bd (z : List Int) (p : Int) (hby : ∀ x ∈ z, 0 ≤ x ∧ x < 256) : 0 ≤ (vg z p).1 := vgo_nonneg _ (fun x hx => hby x (List.mem_of_mem_drop hx)) 0 0 (Int.le_refl _)
theorem vm_ok {z : List Int} {mo p : Int} (h : (vm z mo p).2.2.1 = 0) : (vg z p).2.2.1 = 0 ∧ (vg z p).1 ≤ mo ∧ vm z mo p = vg z p := by
  unfold vm at h ⊢
  split at h
  · rename_i hg; exact absurd h hg
  · rename_i hg
    split at h
    · exact absurd h (by show ¬ (2 : Int) = 0; decide)
    · rename_i hm; rw [if_neg hg, if_neg hm]; exact ⟨by simpa using hg, by omega, rfl⟩
theorem vm_bd {n : Nat} {z : List Int} {mo p c q v p' c' q' : Int} (h : St 0 n (vm z mo p) p c q v p' c' q') (hby : ∀ x ∈ z, 0 ≤ x ∧ x < 256) : 0 ≤ v ∧ (v ≤ mo ∨ v = 0) := by
  obtain ⟨_, _, ⟨_, rfl, _⟩ | ⟨_, h1, rfl, _⟩ | ⟨_, _, rfl, _⟩⟩ := h
  · exact ⟨Int.le_refl _, .inr rfl⟩
  · obtain ⟨_, h2, h3⟩ := vm_ok h1
    rw [h3]
    exact ⟨vg_bd z p hby, .inl h2⟩
  · exact ⟨Int.le_refl _, .inr rfl⟩
/-- So many bytes. -/
def tk (z : List Int) (x p : Int) : Rs (List Int) := if x < 0 then ([], 0, 17, p) else if (z.length : Int) - p < x then ([], 0, 1, z.length) else (piece z p.toNat (p + x).toNat, p + x, 0, 0)
theorem SkipSt.st {n : Nat} {z : List Int} {p c q x : Int} {ok : Bool} {p' c' q' : Int} (h : SkipSt n p c q x ok p' c' q') (hz : z.length = n) (h0 : 0 ≤ p) (h1 : p ≤ n) : St [] n (tk z x p) p c q (if ok = true then piece z p.toNat (p + x).toNat else []) p' c' q' := by
  unfold tk
  rw [hz]
  rcases h with ⟨a0, rfl, rfl, rfl, rfl⟩ | ⟨rfl, a1, rfl, rfl, rfl, rfl⟩ | ⟨rfl, a1, rfl, rfl, rfl, rfl⟩ | ⟨rfl, a1, a2, rfl, rfl, rfl, rfl⟩
  · exact ⟨h0, h1, .inl ⟨a0, rfl, rfl, rfl⟩⟩
  · rw [if_pos a1]; exact ⟨h0, h1, .inr (.inr ⟨rfl, by show (17 : Int) ≠ 0; decide, rfl, rfl, rfl⟩)⟩
  · rw [if_neg (by omega), if_pos a1]; exact ⟨h0, h1, .inr (.inr ⟨rfl, by show (1 : Int) ≠ 0; decide, rfl, rfl, rfl⟩)⟩
  · rw [if_neg (by omega), if_neg (by omega)]; exact ⟨by omega, by omega, .inr (.inl ⟨rfl, rfl, rfl, rfl, rfl, rfl⟩)⟩
/-- A number that is read is put so again, and is below 2^64. -/
theorem vg_once {z : List Int} {p : Int} (hby : ∀ x ∈ z, 0 ≤ x ∧ x < 256) (h0 : 0 ≤ p) (h1 : p ≤ z.length) (h : (vg z p).2.2.1 = 0) :
    vz (vg z p).1 = piece z p.toNat (vg z p).2.1.toNat ∧ 0 ≤ (vg z p).1 ∧ (vg z p).1 < 18446744073709551616 ∧ p + 1 ≤ (vg z p).2.1 ∧ (vg z p).2.1 ≤ z.length := by
  obtain ⟨y, j, hj1, hj2, hj, hy, hy0, hy1, hvz, _⟩ := vgo_once (z.drop p.toNat) 0 0 (fun x hx => hby x (List.mem_of_mem_drop hx)) (by omega) h
  rw [Int.pow_zero, Int.mul_one, Int.zero_add] at hy
  rw [Int.pow_zero, Int.mul_one] at hy1
  rw [List.length_drop] at hj2
  have e1 : (vg z p).1 = y := hy
  have e2 : (vg z p).2.1 = p + j := by show p + _ = _; rw [hj]; omega
  rw [e1, e2]
  refine ⟨?_, hy0, by omega, by omega, by omega⟩
  rw [hvz]; unfold piece; congr 1; omega
/-- A number that is put is read. -/
theorem vg_put {z rest pre : List Int} {x : Int} (hz : z = pre ++ vz x ++ rest) (x0 : 0 ≤ x) (x1 : x < 18446744073709551616) : vg z pre.length = (x, ((pre.length + vsz x : Nat) : Int), 0, 0) := by
  have : z.drop (pre.length : Int).toNat = vz x ++ rest := by rw [hz, Int.toNat_natCast, List.append_assoc, List.drop_append, List.drop_length, Nat.sub_self]; simp
  unfold vg
  rw [this, vgo_put x rest x0 x1]
  simp
theorem vm_put {z rest pre : List Int} {x mo : Int} (hz : z = pre ++ vz x ++ rest) (x0 : 0 ≤ x) (x1 : x < 18446744073709551616) (hm : x ≤ mo) : vm z mo pre.length = (x, ((pre.length + vsz x : Nat) : Int), 0, 0) := by
  unfold vm
  rw [vg_put hz x0 x1, if_neg (by simp), if_neg (by show ¬ mo < x; omega)]
theorem tk_put {z rest pre y : List Int} (hz : z = pre ++ y ++ rest) : tk z y.length pre.length = (y, ((pre.length + y.length : Nat) : Int), 0, 0) := by
  unfold tk
  have hl : z.length = pre.length + y.length + rest.length := by rw [hz]; simp; omega
  rw [if_neg (by omega), if_neg (by omega)]
  have : piece z (pre.length : Int).toNat ((pre.length : Int) + y.length).toNat = y := by
    unfold piece
    rw [Int.toNat_natCast, show ((pre.length : Int) + y.length).toNat = pre.length + y.length by omega, Nat.add_sub_cancel_left, hz, List.append_assoc, List.drop_append, List.drop_length, Nat.sub_self]
    simp
  rw [this]
  simp
theorem tk_once {z : List Int} {x p : Int} (h0 : 0 ≤ p) (h1 : p ≤ z.length) (h : (tk z x p).2.2.1 = 0) : 0 ≤ x ∧ x ≤ z.length - p ∧ tk z x p = (piece z p.toNat (p + x).toNat, p + x, 0, 0) := by
  unfold tk at h ⊢
  split at h
  · exact absurd h (by show ¬ (17 : Int) = 0; decide)
  · rename_i hx
    split at h
    · exact absurd h (by show ¬ (1 : Int) = 0; decide)
    · rename_i hy; rw [if_neg hx, if_neg hy]; exact ⟨by omega, by omega, rfl⟩
end Go.Proofs.Ythpgandifeiejaa.Cur

namespace Go.Proofs.Ythpgandifeiejaa.Cur
open Go.RowKit Mem
set_option linter.unusedVariables false

theorem rw_new (w : World) (xs : List Value) (t : Nat) : Rw (w.alloc (.cells xs.toArray t)) (some ⟨w.heap.size, 0, none⟩) xs := fun _ =>
  ⟨_, _, rfl, fun i v hi => by
    rw [Nat.zero_add]
    exact (Blk.new w xs.toArray t).cell i (by simpa using hi)⟩
theorem own_ge {w : World} {B e size n : Nat} {v : Value} {xs : List Value} (h : w.ownsRow B e size v n xs) : ∀ g, v.ownBlock = some g → B ≤ g := fun g hg => (World.ownsRow.lt h g hg).1
theorem Kp.grown {b : Nat} {w w1 w2 : World} {r : Option Nat} (h : Kp b w w1) (k : w1.grownBy w2 r) (hr : ∀ g, r = some g → w.heap.size ≤ g) : Kp b w w2 :=
  ⟨k.os.trans h.os, k.tape.trans h.tape, k.output.trans h.output, Nat.le_trans h.size k.size, fun i hi hb => (k.block i (Nat.lt_of_lt_of_le hi h.size) (fun e => by have := hr i e.symm; omega)).trans (h.block i hi hb)⟩
theorem rd_grown {w w' : World} {b : Nat} {s : Value} {p c q : Int} {r : Option Nat} (h : IsRd w b s p c q) (k : w.grownBy w' r) (hr : r ≠ some b) : IsRd w' b s p c q := (k.block b h.lt (fun e => hr e.symm)).trans h
theorem OwnU.ne_rd {w : World} {B b : Nat} {v s : Value} {z : List Int} {p c q : Int} (h : OwnU w B v z) (hr : IsRd w b s p c q) : v.ownBlock ≠ some b := own_ne_blk h hr (by decide)

theorem rg_fault {n : Nat} {z : List Int} {p q : Int} {N : Nat} {p' c' q' : Int} (e : rgo z N p [] = ([], 0, c', q')) (hc : c' ≠ 0) (h0 : 0 ≤ p') (h1 : p' ≤ n) : RgSt n z p 0 q N [] p' c' q' :=
  ⟨h0, h1, .inr (.inr ⟨rfl, by rw [e]; exact hc, rfl, by rw [e], by rw [e]⟩)⟩
theorem rg_done {n : Nat} {z : List Int} {p q : Int} {N : Nat} {l : List Int} {p' : Int} (e : rgo z N p [] = (l, p', 0, 0)) (h0 : 0 ≤ p') (h1 : p' ≤ n) : RgSt n z p 0 q N l p' 0 q :=
  ⟨h0, h1, .inr (.inl ⟨rfl, by rw [e], by rw [e], by rw [e], rfl, rfl⟩)⟩
def RRgPost (b : Nat) (s : Value) (n : Nat) (z : List Int) (p c q : Int) (N : Nat) (w : World) (e : Ending) (w' : World) : Prop :=
  ∃ v l p' c' q', e = .returned v ∧ OwnU w' w.heap.size v l ∧ Kp b w w' ∧ IsRd w' b s p' c' q' ∧ RgSt n z p c q N l p' c' q' ∧ ∀ x ∈ l, 0 ≤ x ∧ x < 18446744073709551616


set_option maxRecDepth 100000 in
set_option maxHeartbeats 2000000 in
theorem rrising_good (b : Nat) (a : Option Addr) (n m : Nat) (z : List Int) (p q : Int) (nn : Int) (w : World) (h : IsRd w b (.slice a n m) p 0 q) (hz : Bs w a n z) (h0 : 0 ≤ p) (h1 : p ≤ n) (hn : n ≤ 100000) (hby : ∀ x ∈ z, 0 ≤ x ∧ x < 256) :
    Calls Try.prog 79 #[.pointer (some ⟨b, 0, none⟩), .int .i64 nn] w (RRgPost b (.slice a n m) n z p 0 q nn.toNat w) := by
  have HBY := Lib.hid hby
  clear hby
  go_enter Try.func79, Try.ntmps79
  go_wp2
  go_loopw [5, 10] (fun v i wr => ∃ (k : Nat) (pk : Int) (acc : List Int), (k : Int) ≤ pk - p ∧ i = .int .i64 k ∧ OwnU wr w.heap.size v acc ∧ acc.length = k ∧ IsRd wr b (.slice a n m) pk 0 q ∧ Kp b w wr ∧ 0 ≤ pk ∧ pk ≤ n ∧ Hid (k ≤ nn.toNat ∧ rgo z nn.toNat p [] = rgo z (nn.toNat - k) pk acc ∧ ∀ x ∈ acc, 0 ≤ x ∧ x < 18446744073709551616)) (fun _ i _ => 1000000 - (intOf i).toNat)
  case atStart => exact ⟨0, p, [], by omega, rfl, OwnU.nil _ _, rfl, h, Kp.refl _ _, h0, h1, Lib.hid ⟨by omega, rfl, by simp⟩⟩
  case round =>
    obtain ⟨k, pk, acc, hkp, rfl, ho, hacc, hr, hk, pk0, pk1, H⟩ := hrel
    by_cases hlt : (k : Int) < nn
    · have hz1 := hz.kp h (by simp) hk
      have hN : nn.toNat - k = (nn.toNat - (k + 1)) + 1 := by omega
      go_wp2_with fail
      refine (at_any _ _ _ _ _ _ hr).mono ?_
      rintro e w1 ⟨rfl, rfl⟩
      go_wp2_with fail
      refine (vread_any _ _ _ _ _ _ _ _ _ hr hz1 pk0 pk1 (by omega) HBY.out).mono ?_
      rintro e w2 ⟨x, p', c', q', rfl, hk1, hr2, hs⟩
      have hk2 := hk.trans hk1
      have ho2 : OwnU w2 w.heap.size _ acc := own_kp ho hk1 (OwnU.ne_rd ho hr)
      have hw := rd_ways hs hz.1 pk0 pk1 HBY.out
      clear hs hk1 hz1 hk hr ho
      rcases hw with ⟨g0, gx, gp, rfl, rfl, p1, p2, x0, x1⟩ | ⟨g0, rfl, gc, gq, p1, p2⟩
      · have HG := Lib.hid (And.intro g0 (And.intro gx gp))
        clear g0 gx gp
        by_cases h00 : k = 0
        · subst h00
          obtain rfl : acc = [] := List.eq_nil_of_length_eq_zero hacc
          rw [show ((0 : Nat) : Int) = 0 from rfl]
          go_wp2_with fail
          refine (good_any _ _ _ _ _ _ hr2).mono ?_
          rintro e w9 ⟨rfl, hb9⟩
          have ho9 := own_below ho2 hb9
          have hr9 := hr2.below hb9
          have hk9 := hk2.trans (Kp.of_below hb9)
          have hbA := below_one w9 (.cells #[.int .u64 (x)] 22)
          have hoA := own_below ho9 hbA
          have hB9 : w.heap.size ≤ (w9.alloc (.cells #[.int .u64 (x)] 22)).heap.size := by have := hk9.size; simp; omega
          have hrA := hr9.below hbA
          have hkA := hk9.trans (Kp.of_below hbA)
          have hrwA := rw_new w9 (uv [x]) 22
          have hneA := OwnU.ne_rd hoA hrA
          have hgeA := own_ge hoA
          have HLEN := Lib.hid hacc
          clear ho9 hr9 hk9 hr2 hk2 ho2 hb9 hbA
          clear hacc
          rw [show ((0 : Int) == 0) = true from rfl]
          go_wp2_with (at_builtin; go_must (refine list_append_rw kindU rfl (.tmp 31) (.tmp 33) rfl w.heap.size _ _ _ rfl hoA _ 1 _ (uv [x]) rfl rfl hrwA (by simp) (uv_one _) (by have := HLEN.out; omega) (by omega) hB9 ?_; intro v' w10 ho' hg' hgr; have hk10 := Kp.grown hkA hg' hgeA; have hr10 := rd_grown hrA hg' hneA; clear hrwA hoA hrA hkA hneA hgeA))
          go_roundw
          case rel =>
            have hacc := HLEN.out
            exact ⟨1, _, _, by omega, by go_num, by unfold OwnU; rw [List.length_append, uv, List.map_append]; exact ho', by rw [List.length_append, hacc]; rfl, hr10, hk10, by omega, by omega, Lib.hid ⟨by omega, by rw [H.out.2.1, hN, rgo_first HG.out.1, ← HG.out.2.1, ← HG.out.2.2]; rfl, by intro y hy; simp at hy; subst hy; exact ⟨x0, x1⟩⟩⟩
          case measure => (simp [intOf] <;> omega)
        · obtain ⟨A1, c1, rfl⟩ := ho2.slice
          obtain ⟨_, _, _, hus⟩ := OwnU.us ho2
          obtain ⟨g, o, rfl, hc⟩ := hus.at_ (k := k - 1) (by omega)
          have hm := getD_mem (z := acc) (k := k - 1) (by omega)
          have hyb := H.out.2.2 _ hm
          obtain ⟨j, rfl⟩ : ∃ j, k = j + 1 := ⟨k - 1, by omega⟩
          rw [Nat.add_sub_cancel] at hc hyb
          have HL : Hid (acc.getD (acc.length - 1) 0 = acc.getD j 0) := Lib.hid (by rw [hacc, Nat.add_sub_cancel])
          obtain ⟨y, hy⟩ : ∃ y, y = acc.getD j 0 := ⟨_, rfl⟩
          rw [← hy] at hc hyb
          have HY := Lib.hid hy
          clear hy hm hus
          obtain ⟨y0, y1⟩ := hyb
          have e1 : ((j + 1 : Nat) : Int) = (j : Int) + 1 := by omega
          rw [e1] at hlt hkp ⊢
          clear e1 h00
          have ea : acc ≠ [] := fun e => by rw [e] at hacc; simp at hacc
          have HEA := Lib.hid ea
          clear ea
          have hlen : acc.length = j + 1 := hacc
          rw [hlen] at ho2 ⊢
          have e2 : (j : Int) + 1 < 9223372036854775807 := by omega
          have e3 : (0 : Int) ≤ j := by omega
          go_wp2_with fail
          refine (above_any _ _ _ _ _ _ _ _ _ hr2 y0 y1 x0 x1).mono ?_
          rintro e w3 ⟨v', c'', q'', rfl, hk3, hr3, hab⟩
          have hk4 := hk2.trans hk3
          have ho4 : OwnU w3 w.heap.size _ acc := own_kp (v := .slice (some ⟨g, o, none⟩) (j + 1) c1) (by unfold OwnU at ho2; exact ho2) hk3 (by have := OwnU.ne_rd (v := .slice (some ⟨g, o, none⟩) (j + 1) c1) ho2 hr2; exact this)
          clear hk2 hk3 ho2 hr2 hc
          have hr2 := hr3
          have hk2 := hk4
          have ho2 := ho4
          clear hr3 hk4 ho4
          rcases hab with ⟨hov, rfl, hf⟩ | ⟨hov, rfl, hc2, hq2⟩
          · rcases hf with ⟨_, hc2, hq2⟩ | ⟨hf, _⟩
            · have hcb : (c'' == 0) = false := by rw [hc2]; decide
              have HST := Lib.hid (show RgSt n z p 0 q' nn.toNat [] p' c'' q'' from rg_fault (by rw [H.out.2.1, hN, rgo_over HG.out.1 HEA.out (by rw [HL.out, ← HY.out, ← HG.out.2.1]; exact hov), hc2, hq2]; rfl) (by omega) (by omega) (by omega))
              clear hc2 hq2
              go_wp2_with fail
              refine (good_any _ _ _ _ _ _ hr2).mono ?_
              rintro e w9 ⟨rfl, hb9⟩
              rw [hcb]
              go_wp2
              go_ret
              exact ⟨_, [], _, _, _, rfl, OwnU.nil _ _, hk2.trans (Kp.of_below hb9), hr2.below hb9, HST.out, by simp⟩
            · exact absurd rfl hf
          · subst hc2
            subst hq2
            have hacc := hlen
            have hov2 : y + x + 1 < 18446744073709551616 := by omega
            have hyx : 0 ≤ y + x + 1 := by omega
            have HN := Lib.hid hN
            clear hN hov
            have HRE : Hid (j + 1 + 1 ≤ nn.toNat ∧ rgo z nn.toNat p [] = rgo z (nn.toNat - (j + 1 + 1)) p' (acc ++ [y + x + 1]) ∧ ∀ t ∈ acc ++ [y + x + 1], 0 ≤ t ∧ t < 18446744073709551616) :=
              Lib.hid ⟨by omega, by rw [H.out.2.1, HN.out, rgo_next HG.out.1 HEA.out (by rw [HL.out, ← HY.out, ← HG.out.2.1]; omega), HL.out, ← HY.out, ← HG.out.2.1, ← HG.out.2.2], by
                intro t ht
                rcases List.mem_append.1 ht with ht | ht
                · exact H.out.2.2 t ht
                · simp at ht; subst ht; exact ⟨hyx, hov2⟩⟩
            go_wp2_with fail
            refine (good_any _ _ _ _ _ _ hr2).mono ?_
            rintro e w9 ⟨rfl, hb9⟩
            have ho9 := own_below ho2 hb9
            have hr9 := hr2.below hb9
            have hk9 := hk2.trans (Kp.of_below hb9)
            have hbA := below_one w9 (.cells #[.int .u64 (y + x + 1)] 22)
            have hoA := own_below ho9 hbA
            have hB9 : w.heap.size ≤ (w9.alloc (.cells #[.int .u64 (y + x + 1)] 22)).heap.size := by have := hk9.size; simp; omega
            have hrA := hr9.below hbA
            have hkA := hk9.trans (Kp.of_below hbA)
            have hrwA := rw_new w9 (uv [y + x + 1]) 22
            have hneA := OwnU.ne_rd hoA hrA
            have hgeA := own_ge hoA
            have HLEN := Lib.hid hacc
            clear ho9 hr9 hk9 hr2 hk2 ho2 hb9 hbA
            clear hacc
            rw [show ((0 : Int) == 0) = true from rfl]
            go_wp2_with (at_builtin; go_must (refine list_append_rw kindU rfl (.tmp 31) (.tmp 33) rfl w.heap.size _ _ _ rfl hoA _ 1 _ (uv [y + x + 1]) rfl rfl hrwA (by simp) (uv_one _) (by have := HLEN.out; omega) (by omega) hB9 ?_; intro v' w10 ho' hg' hgr; have hk10 := Kp.grown hkA hg' hgeA; have hr10 := rd_grown hrA hg' hneA; clear hrwA hoA hrA hkA hneA hgeA))
            go_roundw
            case rel =>
              have hacc := HLEN.out
              exact ⟨j + 1 + 1, _, _, by omega, by go_num, by unfold OwnU; rw [List.length_append, uv, List.map_append]; exact ho', by rw [List.length_append, hacc]; rfl, hr10, hk10, by omega, by omega, HRE⟩
            case measure => (simp [intOf] <;> omega)
      · have hcb : (c' == 0) = false := by rw [gc]; simpa using g0
        have HST := Lib.hid (show RgSt n z p 0 q nn.toNat [] p' c' q' from rg_fault (by rw [H.out.2.1, hN, rgo_bad g0, gc, gq]) (by rw [gc]; exact g0) p1 p2)
        have hcne : c' ≠ 0 := by rw [gc]; exact g0
        have HCN := Lib.hid hcne
        clear hcne gc gq g0 hN
        by_cases h00 : k = 0
        · subst h00
          rw [show ((0 : Nat) : Int) = 0 from rfl]
          go_wp2_with fail
          refine (good_any _ _ _ _ _ _ hr2).mono ?_
          rintro e w9 ⟨rfl, hb9⟩
          rw [hcb]
          go_wp2
          go_ret
          exact ⟨_, [], _, _, _, rfl, OwnU.nil _ _, hk2.trans (Kp.of_below hb9), hr2.below hb9, HST.out, by simp⟩
        · obtain ⟨A1, c1, rfl⟩ := ho2.slice
          obtain ⟨_, _, _, hus⟩ := OwnU.us ho2
          obtain ⟨g, o, rfl, hc⟩ := hus.at_ (k := k - 1) (by omega)
          have hm := getD_mem (z := acc) (k := k - 1) (by omega)
          have hyb := H.out.2.2 _ hm
          obtain ⟨j, rfl⟩ : ∃ j, k = j + 1 := ⟨k - 1, by omega⟩
          rw [Nat.add_sub_cancel] at hc hyb
          generalize acc.getD j 0 = y at *
          clear hm hus
          obtain ⟨y0, y1⟩ := hyb
          have e1 : ((j + 1 : Nat) : Int) = (j : Int) + 1 := by omega
          rw [e1] at hlt hkp ⊢
          clear e1 h00
          have hlen : acc.length = j + 1 := hacc
          rw [hlen] at ho2 ⊢
          have e2 : (j : Int) + 1 < 9223372036854775807 := by omega
          have e3 : (0 : Int) ≤ j := by omega
          go_wp2_with fail
          refine (above_any _ _ _ _ _ _ _ _ _ hr2 y0 y1 (by omega) (by omega)).mono ?_
          rintro e w3 ⟨v', c'', q'', rfl, hk3, hr3, hab⟩
          have hk4 := hk2.trans hk3
          have hcq : c'' = c' ∧ q'' = q' := by
            rcases hab with ⟨_, _, hf⟩ | ⟨_, _, hc2, hq2⟩
            · rcases hf with ⟨hf, _⟩ | ⟨_, hc2, hq2⟩
              · exact absurd hf HCN.out
              · exact ⟨hc2, hq2⟩
            · exact ⟨hc2, hq2⟩
          obtain ⟨rfl, rfl⟩ := hcq
          clear hk2 hk3 hr2 hab
          have hr2 := hr3
          have hk2 := hk4
          clear hr3 hk4
          go_wp2_with fail
          refine (good_any _ _ _ _ _ _ hr2).mono ?_
          rintro e w9 ⟨rfl, hb9⟩
          rw [hcb]
          go_wp2
          go_ret
          exact ⟨_, [], _, _, _, rfl, OwnU.nil _ _, hk2.trans (Kp.of_below hb9), hr2.below hb9, HST.out, by simp⟩
    · go_wp2
      go_ret
      have hN : nn.toNat - k = 0 := by omega
      have e := H.out.2.1
      rw [hN] at e
      exact ⟨_, acc, _, _, _, rfl, ho, hk, hr, rg_done e pk0 pk1, H.out.2.2⟩

set_option maxRecDepth 100000 in
set_option maxHeartbeats 1000000 in
theorem rrising_bad (b : Nat) (a : Option Addr) (n m : Nat) (z : List Int) (p c q : Int) (nn : Int) (w : World) (h : IsRd w b (.slice a n m) p c q) (hz : Bs w a n z) (h0 : 0 ≤ p) (h1 : p ≤ n) (hn : n ≤ 100000) (hby : ∀ x ∈ z, 0 ≤ x ∧ x < 256) (hc : c ≠ 0) :
    Calls Try.prog 79 #[.pointer (some ⟨b, 0, none⟩), .int .i64 nn] w (RRgPost b (.slice a n m) n z p c q nn.toNat w) := by
  have hcb : (c == 0) = false := by simpa using hc
  have HBY := Lib.hid hby
  have HST := Lib.hid (show RgSt n z p c q nn.toNat [] p c q from ⟨h0, h1, .inl ⟨hc, rfl, rfl, rfl⟩⟩)
  have HC := Lib.hid hc
  clear hby hc
  go_enter Try.func79, Try.ntmps79
  go_wp2
  go_loopw [5, 10] (fun v i wr => i = .int .i64 0 ∧ v = .slice none 0 0 ∧ wr = w) (fun _ _ _ => 0)
  case atStart => exact ⟨rfl, rfl, rfl⟩
  case round =>
    obtain ⟨rfl, rfl, rfl⟩ := hrel
    by_cases hlt : 0 < nn
    · go_wp2_with fail
      refine (at_any _ _ _ _ _ _ h).mono ?_
      rintro e w1 ⟨rfl, rfl⟩
      go_wp2_with fail
      refine (vread_any _ _ _ _ _ _ _ _ _ h hz h0 h1 (by omega) HBY.out).mono ?_
      rintro e w2 ⟨x, p', c', q', rfl, hk2, hr2, hs⟩
      rcases hs with ⟨_, rfl, hp, hc2, hq2⟩ | ⟨hs, _⟩
      · rw [hp, hc2, hq2] at hr2
        clear hp hc2 hq2
        go_wp2_with fail
        refine (good_any _ _ _ _ _ _ hr2).mono ?_
        rintro e w9 ⟨rfl, hb9⟩
        rw [hcb]
        go_wp2
        go_ret
        exact ⟨_, [], _, _, _, rfl, OwnU.nil _ _, hk2.trans (Kp.of_below hb9), hr2.below hb9, HST.out, by simp⟩
      · exact absurd hs HC.out
    · go_wp2
      go_ret
      exact ⟨_, [], _, _, _, rfl, OwnU.nil _ _, Kp.refl _ _, h, HST.out, by simp⟩
theorem rrising_any (b : Nat) (a : Option Addr) (n m : Nat) (z : List Int) (p c q : Int) (nn : Int) (w : World) (h : IsRd w b (.slice a n m) p c q) (hz : Bs w a n z) (h0 : 0 ≤ p) (h1 : p ≤ n) (hn : n ≤ 100000) (hby : ∀ x ∈ z, 0 ≤ x ∧ x < 256) :
    Calls Try.prog 79 #[.pointer (some ⟨b, 0, none⟩), .int .i64 nn] w (RRgPost b (.slice a n m) n z p c q nn.toNat w) := by
  by_cases hc : c = 0
  · subst hc; exact rrising_good b a n m z p q nn w h hz h0 h1 hn hby
  · exact rrising_bad b a n m z p c q nn w h hz h0 h1 hn hby hc
end Go.Proofs.Ythpgandifeiejaa.Cur

namespace Go.Proofs.Ythpgandifeiejaa.Cur
open Go.RowKit Mem
set_option linter.unusedVariables false

def RRRgPost (s : Value) (n : Nat) (z : List Int) (p c q : Int) (N : Nat) (w : World) (e : Ending) (w' : World) : Prop :=
  ∃ v l p' c' q', e = .returned (.tuple #[cv s p' c' q', v]) ∧ OwnU w' w.heap.size v l ∧ Below w.heap.size w w' ∧ RgSt n z p c q N l p' c' q' ∧ ∀ x ∈ l, 0 ≤ x ∧ x < 18446744073709551616

def PRPost (B b : Nat) (r : Option Nat) (y : List Int) (M : Int) (w : World) (e : Ending) (w' : World) : Prop :=
  ∃ r', e = .returned (.tuple #[]) ∧ Ks (WS b r) w w' ∧ Gr r r' w ∧ Wr w' B b r' y M 0
theorem putZ_fits {z y : List Int} {M : Int} (h : (z.length : Int) + y.length ≤ M) : putZ z y M 0 = z ++ y ∧ putC z y M 0 = 0 := by
  unfold putZ putC fitsC
  rw [if_pos ⟨rfl, by omega⟩, if_neg (by omega)]
  exact ⟨rfl, rfl⟩
theorem rzk_mono (z : List Int) {i j : Nat} (h : i ≤ j) : (rzk z i).length ≤ (rzk z j).length := by
  induction j with
  | zero => obtain rfl : i = 0 := by omega
            exact Nat.le_refl _
  | succ j ih =>
    rcases Nat.lt_or_ge j i with h' | h'
    · obtain rfl : i = j + 1 := by omega
      exact Nat.le_refl _
    · have := ih h'; rw [rzk_succ_len]; omega

set_option maxHeartbeats 1000000 in
theorem putrising_yes {w : World} {B b : Nat} {r : Option Nat} {y : List Int} {M : Int} (A : Option Addr) (n m : Nat) (z : List Int) (h : Wr w B b r y M 0) (hz : Us w A n z) (hA : 0 < n → ∀ a, A = some a → ¬ WS b r a.block) (hn : n ≤ 1000) (hby : ∀ x ∈ z, 0 ≤ x ∧ x < 18446744073709551616) (hr : risesB z = true)
    (hM : (y.length : Int) + (rz z).length ≤ M) (hy : y.length ≤ 100000) (hBw : B ≤ w.heap.size) :
    Calls Try.prog 58 #[.pointer (some ⟨b, 0, none⟩), .slice A n m] w (PRPost B b r (y ++ rz z) M w) := by
  have HB := Lib.hid hby
  have HR := Lib.hid hr
  have HZ := Lib.hid hz.1
  have HM := Lib.hid hM
  clear hby hr hM
  go_enter Try.func58, Try.ntmps58
  go_wp2_with fail
  refine (rises_any _ _ _ _ _ hz (by omega) HB.out).mono ?_
  rintro e w1 ⟨rfl, hb1⟩
  rw [HR.out]
  have h1 := h.below hb1
  have hz1 := hz.below hb1
  have hBw1 : B ≤ w1.heap.size := Nat.le_trans hBw hb1.size
  have hk0 : Ks (WS b r) w w1 := Ks.of_below hb1
  have HA : Hid (0 < n → ∀ a, A = some a → a.block < w.heap.size ∧ ¬ WS b r a.block) := Lib.hid fun h0 a ha => ⟨hz.2.lt (by rw [List.length_map, hz.1]; exact h0) a ha, hA h0 a ha⟩
  clear hz h hb1 hA
  go_wp2
  go_loopw [12] (fun i wr => ∃ (k : Nat) (r' : Option Nat), k ≤ n ∧ i = .int .i64 k ∧ Ks (WS b r) w wr ∧ Gr r r' w ∧ Wr wr B b r' (y ++ rzk z k) M 0 ∧ Us wr A n z) (fun i _ => n - (intOf i).toNat)
  case atStart => exact ⟨0, r, by omega, rfl, hk0, Gr.refl _ _, by rw [rzk, List.append_nil]; exact h1, hz1⟩
  case round =>
    obtain ⟨k, r', hk, rfl, hks, hgr, hw, hus⟩ := hrel
    by_cases hlt : k < n
    · obtain ⟨s0, s1⟩ := stp_bd HZ.out hlt HB.out HR.out
      have hl := rzk_len z k
      have HFIT : Hid (((y ++ rzk z k).length : Int) + (vz (stp z k)).length ≤ M) := Lib.hid (by
        have h1 := rzk_mono z (show k + 1 ≤ n by omega)
        have h2 := HM.out
        unfold rz at h2
        rw [HZ.out] at h2
        rw [rzk_succ_len] at h1
        rw [List.length_append, vz_length]
        omega)
      have HN : Hid (rzk z (k + 1) = rzk z k ++ vz (stp z k)) := Lib.hid rfl
      go_wp2_with fail
      refine (step_any _ n m k z _ hus hlt (by omega) HB.out HR.out).mono ?_
      rintro e w2 ⟨rfl, hb2⟩
      have hks2 := hks.trans (Ks.of_below hb2)
      have hw2 := hw.below hb2
      have hus2 := hus.below hb2
      clear hks hw hus hb2
      generalize stp z k = x at *
      go_wp2_with fail
      refine (vput_any _ hw2 s0 s1 (by rw [List.length_append]; omega) (by have := hks2.size; omega)).mono ?_
      rintro e w3 ⟨r2, rfl, hk3, hg3, hw3⟩
      have hfit := putZ_fits HFIT.out
      rw [hfit.1, hfit.2, List.append_assoc, ← HN.out] at hw3
      clear hfit
      have hus3 := hus2.ks hk3 (fun h0 a ha hws => by
        obtain ⟨h1, h2⟩ := HA.out h0 a ha
        rcases hws with e | e
        · exact h2 (.inl e)
        · rcases hgr with rfl | ⟨g, rfl, hg⟩
          · exact h2 (.inr e)
          · injection e with e; omega)
      have hks3 := Ks.wr hks2 hgr hk3
      have hgr3 : Gr r r2 w := hgr.trans hg3 hks2.size
      clear hks2 hk3 hw2 hus2 hg3 hgr
      go_wp2
      go_roundw
      case rel => exact ⟨k + 1, r2, hlt, by go_num, hks3, hgr3, hw3, hus3⟩
      case measure => simp [intOf]; omega
    · obtain rfl : k = n := by omega
      have hrz : rzk z k = rz z := by unfold rz; rw [HZ.out]
      rw [hrz] at hw
      go_wp2
      go_end0
      exact ⟨r', rfl, hks, hgr, hw⟩

set_option maxHeartbeats 400000 in
theorem putrising_no {w : World} {B b : Nat} {r : Option Nat} {y : List Int} {M c : Int} (A : Option Addr) (n m : Nat) (z : List Int) (h : Wr w B b r y M c) (hz : Us w A n z) (hn : n ≤ 1000) (hby : ∀ x ∈ z, 0 ≤ x ∧ x < 18446744073709551616) (hr : risesB z = false) :
    Calls Try.prog 58 #[.pointer (some ⟨b, 0, none⟩), .slice A n m] w (WFailPost B b r y M c 3 w) := by
  have HR := Lib.hid hr
  clear hr
  go_enter Try.func58, Try.ntmps58
  go_wp2_with fail
  refine (rises_any _ _ _ _ _ hz (by omega) hby).mono ?_
  rintro e w1 ⟨rfl, hb1⟩
  rw [HR.out]
  have h1 := h.below hb1
  go_wp2_with fail
  refine (wfail_any 3 h1).mono ?_
  rintro e w2 ⟨rfl, hk, hw⟩
  go_wp2
  go_end0
  exact ⟨rfl, (Ks.of_below hb1).trans hk, hw⟩
end Go.Proofs.Ythpgandifeiejaa.Cur

namespace Go.Proofs.Ythpgandifeiejaa.Cur
open Go.RowKit Mem
set_option linter.unusedVariables false

abbrev cvs (s : Value) (p c q : Int) : Array Value := #[s, .int .i64 p, .int .i64 c, .int .i64 q]
theorem below_set {w w' : World} {B b : Nat} (h : Below B w w') (hb : B ≤ b) (o : Nat) (v : Value) : Below B w (w'.setCell ⟨b, o, none⟩ v) := Below.setCell h hb v
theorem set4_below {w wr : World} {B g : Nat} (h : Below B w wr) (hg : B ≤ g) (u0 u1 u2 u3 : Value) : Below B w ((((wr.setCell ⟨g, 0, none⟩ u0).setCell ⟨g, 1, none⟩ u1).setCell ⟨g, 2, none⟩ u2).setCell ⟨g, 3, none⟩ u3) :=
  (((h.setCell hg _).setCell hg _).setCell hg _).setCell hg _
theorem set4_own {wr : World} {B g : Nat} {v : Value} {acc : List Int} (h : OwnU wr B v acc) (hg : g < B) (u0 u1 u2 u3 : Value) : OwnU ((((wr.setCell ⟨g, 0, none⟩ u0).setCell ⟨g, 1, none⟩ u1).setCell ⟨g, 2, none⟩ u2).setCell ⟨g, 3, none⟩ u3) B v acc := by
  have one : ∀ {w : World} (o : Nat) (u : Value), OwnU w B v acc → OwnU (w.setCell ⟨g, o, none⟩ u) B v acc := fun o u h =>
    own_block h fun k hk => Below.heap_setCell _ _ _ k (fun e => by have := own_ge h k hk; have e : k = g := e; omega)
  exact one _ _ (one _ _ (one _ _ (one _ _ h)))
theorem OwnU.base {w : World} {B B' : Nat} {v : Value} {acc : List Int} (h : OwnU w B v acc) (hB : B' ≤ B) : OwnU w B' v acc := own_base h fun g hg => Nat.le_trans hB (own_ge h g hg)


end Go.Proofs.Ythpgandifeiejaa.Cur

namespace Go.Proofs.Ythpgandifeiejaa.Cur
open Go.RowKit Mem
set_option linter.unusedVariables false

theorem getD_append_left {a t : List Int} {k : Nat} (h : k < a.length) : (a ++ t).getD k 0 = a.getD k 0 := by
  rw [List.getD_eq_getElem?_getD, List.getD_eq_getElem?_getD, List.getElem?_append_left h]
theorem getD_append_at (a : List Int) (v : Int) (t : List Int) : (a ++ v :: t).getD a.length 0 = v := by
  rw [List.getD_eq_getElem?_getD, List.getElem?_append_right (Nat.le_refl _)]; simp
theorem stp_append {a t : List Int} {k : Nat} (h : k < a.length) : stp (a ++ t) k = stp a k := by
  unfold stp
  split
  · rw [getD_append_left (by omega)]
  · rw [getD_append_left h, getD_append_left (by omega)]
theorem rzk_append (a t : List Int) : ∀ k, k ≤ a.length → rzk (a ++ t) k = rzk a k
  | 0, _ => rfl
  | k + 1, h => by rw [rzk, rzk, rzk_append a t k (by omega), stp_append (by omega)]
theorem rz_snoc (a : List Int) (v : Int) : rz (a ++ [v]) = rz a ++ vz (stp (a ++ [v]) a.length) := by
  unfold rz
  rw [List.length_append, List.length_singleton, rzk, rzk_append a [v] _ (Nat.le_refl _)]
theorem stp_snoc (a : List Int) (v : Int) : stp (a ++ [v]) a.length = if a = [] then v else v - a.getD (a.length - 1) 0 - 1 := by
  unfold stp
  by_cases h : a = []
  · subst h; simp
  · have hl : 0 < a.length := List.length_pos_iff.2 h
    rw [if_neg (by omega), if_neg h, getD_append_at, getD_append_left (by omega)]
theorem rises_snoc {a : List Int} {v : Int} (h : risesB a = true) (hv : a = [] ∨ a.getD (a.length - 1) 0 < v) : risesB (a ++ [v]) = true := by
  rw [risesB_iff] at h ⊢
  intro i hi
  rw [List.length_append, List.length_singleton] at hi
  rcases Nat.lt_or_ge (i + 1) a.length with h1 | h1
  · rw [getD_append_left (by omega), getD_append_left h1]; exact h i h1
  · obtain rfl | hv := hv
    · simp at hi h1
    · obtain rfl : i = a.length - 1 := by omega
      rw [show a.length - 1 + 1 = a.length by omega, getD_append_at, getD_append_left (by omega)]
      exact hv

theorem piece_append {z : List Int} {a b c : Nat} (h1 : a ≤ b) (h2 : b ≤ c) (hc : c ≤ z.length) : piece z a b ++ piece z b c = piece z a c := by
  unfold piece
  rw [show c - a = (b - a) + (c - b) by omega, List.take_add, List.drop_drop, show a + (b - a) = b by omega]
theorem piece_self (z : List Int) (a : Nat) : piece z a a = [] := by simp [piece]

/-- WHAT IS READ rises, and is put so again. -/
theorem rgo_once {z : List Int} (hby : ∀ x ∈ z, 0 ≤ x ∧ x < 256) : ∀ (N : Nat) (p : Int) (acc l : List Int) (p' : Int), 0 ≤ p → p ≤ z.length → risesB acc = true → (∀ x ∈ acc, 0 ≤ x ∧ x < 18446744073709551616) → rgo z N p acc = (l, p', 0, 0) →
    l.length = acc.length + N ∧ risesB l = true ∧ (∀ x ∈ l, 0 ≤ x ∧ x < 18446744073709551616) ∧ p ≤ p' ∧ p' ≤ z.length ∧ rz l = rz acc ++ piece z p.toNat p'.toNat
  | 0, p, acc, l, p', h0, h1, hr, hb, h => by
    unfold rgo at h
    injection h with h2 h3
    injection h3 with h3 _
    subst h2 h3
    exact ⟨rfl, hr, hb, Int.le_refl _, h1, by rw [piece_self, List.append_nil]⟩
  | N + 1, p, acc, l, p', h0, h1, hr, hb, h => by
    by_cases hg : (vgo (z.drop p.toNat) 0 0).2.2.1 = 0
    case neg =>
      rw [rgo_bad hg] at h
      injection h with _ h
      injection h with _ h
      injection h with h _
      exact absurd h hg
    have hd : ∀ x ∈ z.drop p.toNat, 0 ≤ x ∧ x < 256 := fun x hx => hby x (List.mem_of_mem_drop hx)
    obtain ⟨y, j, hj1, hj2, hj, hy, hy0, hy1, hvz, _⟩ := vgo_once (z.drop p.toNat) 0 0 hd (by omega) hg
    rw [Int.pow_zero, Int.mul_one, Int.zero_add] at hy
    rw [Int.pow_zero, Int.mul_one] at hy1
    rw [List.length_drop] at hj2
    have hp2 : p + (vgo (z.drop p.toNat) 0 0).2.1 = p + j := by rw [hj]; omega
    have hpc : vz y = piece z p.toNat (p + j).toNat := by rw [hvz]; unfold piece; congr 1; omega
    by_cases ha : acc = []
    · subst ha
      rw [rgo_first hg, hp2, hy] at h
      obtain ⟨a1, a2, a3, a4, a5, a6⟩ := rgo_once hby N (p + j) [y] l p' (by omega) (by omega) rfl (by intro x hx; simp at hx; subst hx; omega) h
      refine ⟨by rw [a1]; simp; omega, a2, a3, by omega, a5, ?_⟩
      rw [a6, show rz [y] = rz [] ++ vz (stp [y] 0) from rz_snoc [] y, show stp [y] 0 = y from rfl, hpc, List.append_assoc, piece_append (by omega) (by omega) (by omega)]
    · by_cases ho : 18446744073709551615 - acc.getD (acc.length - 1) 0 ≤ (vgo (z.drop p.toNat) 0 0).1
      · rw [rgo_over hg ha ho] at h
        injection h with _ h
        injection h with _ h
        injection h with h _
        exact absurd h (by decide)
      · rw [rgo_next hg ha ho, hp2, hy] at h
        rw [hy] at ho
        have hl : 0 < acc.length := List.length_pos_iff.2 ha
        have hlast := hb _ (getD_mem (z := acc) (k := acc.length - 1) (by omega))
        obtain ⟨a1, a2, a3, a4, a5, a6⟩ := rgo_once hby N (p + j) _ l p' (by omega) (by omega) (rises_snoc (v := acc.getD (acc.length - 1) 0 + y + 1) hr (.inr (by omega))) (by
          intro x hx
          rcases List.mem_append.1 hx with hx | hx
          · exact hb x hx
          · simp only [List.mem_singleton] at hx; subst hx; omega) h
        refine ⟨by rw [a1]; simp; omega, a2, a3, by omega, a5, ?_⟩
        rw [a6, rz_snoc, stp_snoc, if_neg ha, show acc.getD (acc.length - 1) 0 + y + 1 - acc.getD (acc.length - 1) 0 - 1 = y by omega, hpc, List.append_assoc, piece_append (by omega) (by omega) (by omega)]

theorem rzk_split (z : List Int) (k : Nat) : ∀ j, k ≤ j → ∃ t, rzk z j = rzk z k ++ t
  | 0, h => ⟨[], by obtain rfl : k = 0 := by omega
                    rw [List.append_nil]⟩
  | j + 1, h => by
    rcases Nat.lt_or_ge j k with h' | h'
    · obtain rfl : k = j + 1 := by omega
      exact ⟨[], by rw [List.append_nil]⟩
    · obtain ⟨t, ht⟩ := rzk_split z k j h'
      exact ⟨t ++ vz (stp z j), by rw [rzk, ht, List.append_assoc]⟩
/-- WHAT IS PUT IS READ, whatever stands behind. -/
theorem rgo_back {z : List Int} (rest : List Int) (hr : risesB z = true) (hby : ∀ x ∈ z, 0 ≤ x ∧ x < 18446744073709551616) : ∀ (d k : Nat), k + d = z.length → rgo (rz z ++ rest) d (rzk z k).length (z.take k) = (z, ((rz z).length : Int), 0, 0)
  | 0, k, h => by
    obtain rfl : k = z.length := by omega
    unfold rgo
    rw [List.take_length]
    rfl
  | d + 1, k, h => by
    have hk : k < z.length := by omega
    obtain ⟨s0, s1⟩ := stp_bd (n := z.length) rfl hk hby hr
    obtain ⟨t, ht⟩ := rzk_split z (k + 1) z.length (by omega)
    have hdrop : (rz z ++ rest).drop ((rzk z k).length : Int).toNat = vz (stp z k) ++ (t ++ rest) := by
      unfold rz
      rw [ht, rzk, Int.toNat_natCast, List.append_assoc, List.append_assoc, List.drop_append, List.drop_length, Nat.sub_self]
      simp
    have hv : vgo ((rz z ++ rest).drop ((rzk z k).length : Int).toNat) 0 0 = (stp z k, (vsz (stp z k) : Int), 0, 0) := by rw [hdrop]; exact vgo_put _ _ s0 s1
    have hp : ((rzk z k).length : Int) + vsz (stp z k) = ((rzk z (k + 1)).length : Int) := by rw [rzk_succ_len]; push_cast; rfl
    have ih := rgo_back rest hr hby d (k + 1) (by omega)
    have htk : z.take (k + 1) = z.take k ++ [z.getD k 0] := by
      rw [List.take_succ_eq_append_getElem hk, List.getD_eq_getElem?_getD, List.getElem?_eq_getElem hk]; rfl
    rw [htk] at ih
    have hlen : (z.take k).length = k := by rw [List.length_take]; omega
    by_cases h0 : k = 0
    · subst h0
      have hs : stp z 0 = z.getD 0 0 := by unfold stp; rw [if_pos rfl]
      rw [List.take_zero] at ih ⊢
      rw [List.nil_append] at ih
      rw [rgo_first (by rw [hv]), hv, hp, hs]
      exact ih
    · have hs : stp z k = z.getD k 0 - z.getD (k - 1) 0 - 1 := by unfold stp; rw [if_neg h0]
      have hg : (z.take k).getD ((z.take k).length - 1) 0 = z.getD (k - 1) 0 := by
        rw [hlen, List.getD_eq_getElem?_getD, List.getD_eq_getElem?_getD, List.getElem?_take_of_lt (by omega)]
      have hb1 := hby _ (getD_mem (z := z) (k := k) hk)
      rw [rgo_next (by rw [hv]) (fun e => by have := congrArg List.length e; rw [hlen] at this; simp at this; omega) (by rw [hv, hg, hs]; show ¬ _ ≤ z.getD k 0 - z.getD (k - 1) 0 - 1; omega), hv, hg, hp, hs]
      show rgo _ d _ (z.take k ++ [z.getD (k - 1) 0 + (z.getD k 0 - z.getD (k - 1) 0 - 1) + 1]) = _
      rw [show z.getD (k - 1) 0 + (z.getD k 0 - z.getD (k - 1) 0 - 1) + 1 = z.getD k 0 by omega]
      exact ih
theorem rz_byte {z : List Int} (hr : risesB z = true) (hby : ∀ x ∈ z, 0 ≤ x ∧ x < 18446744073709551616) : ∀ b ∈ rz z, 0 ≤ b ∧ b < 256 := by
  have : ∀ k, k ≤ z.length → ∀ b ∈ rzk z k, 0 ≤ b ∧ b < 256 := by
    intro k
    induction k with
    | zero => intro _ b hb; simp [rzk] at hb
    | succ k ih =>
      intro hk b hb
      rw [rzk] at hb
      obtain ⟨s0, s1⟩ := stp_bd (n := z.length) rfl (show k < z.length by omega) hby hr
      rcases List.mem_append.1 hb with hb | hb
      · exact ih (by omega) b hb
      · exact vz_byte _ s0 s1 b hb
  exact this _ (Nat.le_refl _)
theorem rgo_shape {z : List Int} : ∀ (N : Nat) (p : Int) (acc : List Int), (rgo z N p acc).2.2.1 = 0 → (rgo z N p acc).2.2.2 = 0
  | 0, _, _, _ => rfl
  | N + 1, p, acc, h => by
    by_cases hg : (vgo (z.drop p.toNat) 0 0).2.2.1 = 0
    · by_cases ha : acc = []
      · subst ha
        rw [rgo_first hg] at h ⊢
        exact rgo_shape N _ _ h
      · by_cases ho : 18446744073709551615 - acc.getD (acc.length - 1) 0 ≤ (vgo (z.drop p.toNat) 0 0).1
        · rw [rgo_over hg ha ho] at h
          exact absurd h (by show ¬ (13 : Int) = 0; decide)
        · rw [rgo_next hg ha ho] at h ⊢
          exact rgo_shape N _ _ h
    · rw [rgo_bad hg] at h
      exact absurd h hg
theorem RgSt.ok {n : Nat} {z : List Int} {p q : Int} {N : Nat} {l : List Int} {p' q' : Int} (h : RgSt n z p 0 q N l p' 0 q') : rgo z N p [] = (l, p', 0, 0) := by
  obtain ⟨_, _, ⟨h, _⟩ | ⟨_, h1, h2, h3, _⟩ | ⟨_, h1, _, h2, _⟩⟩ := h
  · exact absurd rfl h
  · have h4 := rgo_shape _ _ _ h1
    rw [h2, h3]
    refine Prod.ext rfl (Prod.ext rfl (Prod.ext h1 h4))
  · exact absurd h2.symm h1
theorem rzk_len_ge (z : List Int) (k : Nat) : k ≤ (rzk z k).length := by
  induction k with
  | zero => omega
  | succ k ih => rw [rzk_succ_len]; have := vsz_pos (stp z k); omega
/-- What was read without a fault. -/
theorem RgSt.once {n : Nat} {z : List Int} {p q : Int} {N : Nat} {l : List Int} {p' q' : Int} (h : RgSt n z p 0 q N l p' 0 q') (hz : z.length = n) (hby : ∀ x ∈ z, 0 ≤ x ∧ x < 256) (h0 : 0 ≤ p) (h1 : p ≤ n) :
    l.length = N ∧ risesB l = true ∧ p ≤ p' ∧ p' ≤ n ∧ rz l = piece z p.toNat p'.toNat ∧ (l.length : Int) ≤ p' - p := by
  obtain ⟨a1, a2, _, a4, a5, a6⟩ := rgo_once hby N p [] l p' h0 (by rw [hz]; exact h1) rfl (by simp) h.ok
  rw [show rz [] = [] from rfl, List.nil_append] at a6
  refine ⟨by simpa using a1, a2, a4, by rw [← hz]; exact a5, a6, ?_⟩
  have := rzk_len_ge l l.length
  rw [show rzk l l.length = rz l from rfl, a6, length_piece (n := n) hz (by omega)] at this
  omega
/-- Without a fault there is a list, else there is none. -/
theorem RgSt.nil {n : Nat} {z : List Int} {p c q : Int} {N : Nat} {l : List Int} {p' c' q' : Int} (h : RgSt n z p c q N l p' c' q') (hc : c' ≠ 0) : l = [] := by
  obtain ⟨_, _, ⟨_, h1, _⟩ | ⟨_, _, _, _, h1, _⟩ | ⟨_, _, h1, _⟩⟩ := h
  · exact h1
  · exact absurd h1 hc
  · exact h1
end Go.Proofs.Ythpgandifeiejaa.Cur
