/- K5: ZigA ZigB ZigC ZigD ZigE Spec ZigF ZigG ZigH ZigM -/
import Derived.Test.YtgdcbfekekefiaaK4
import Derived.Laws.BitsAllLaws
import Derived.Test.YtgdcbfekekefiaaK1
import Derived.IntWalk
import Derived.Deep.Cut
/- Numbers with a sign (package zigzag): the plain mathematics; Zig and Zag, the program's and the document's. -/
/- Rising lists (package zigzag): the plain mathematics; Rises, the program's and the document's; two lists of numbers are the same. -/
/- Rising lists: a step, the size; the document's bytes; two lists of numbers are the same or not. -/
/- Rising lists: the document's bytes; two lists of numbers that are the same are told the same. -/
/- Rising lists read: the plain mathematics; Put and Read of a number with a sign; above; ReadRising; PutRising. -/
/- What a reader reads, as a value: what is read from a place of bytes on, the place behind it, or the fault. -/
/- ReadRising: the next numbers of a rising list, or nothing with a fault. -/
/- The document's reader of a rising list; PutRising. -/
/- The document's reader of a rising list. -/
/- Rising lists: what is put is read, what is read is put so again: the plain mathematics. -/
namespace Go.Proofs.Ytgdcbfekekefiaa.Cur
open Go.RowKit Mem
set_option linter.unusedVariables false

def zg (n : Int) : Int := if n < 0 then -2 * n - 1 else 2 * n
def zag (x : Int) : Int := if x % 2 = 1 then -(x / 2) - 1 else x / 2
theorem zg_bd (n : Int) (h0 : -9223372036854775808 ≤ n) (h1 : n ≤ 9223372036854775807) : 0 ≤ zg n ∧ zg n < 18446744073709551616 := by unfold zg; split <;> omega
theorem zag_bd (x : Int) (h0 : 0 ≤ x) (h1 : x < 18446744073709551616) : -9223372036854775808 ≤ zag x ∧ zag x ≤ 9223372036854775807 := by unfold zag; split <;> omega
theorem zag_zg (n : Int) : zag (zg n) = n := by unfold zag zg; split <;> split <;> omega
theorem zg_zag (x : Int) (h0 : 0 ≤ x) : zg (zag x) = x := by unfold zag zg; split <;> split <;> omega

theorem wrapu (x : Int) : IntKind.u64.wrap x = x % 18446744073709551616 := rfl
theorem wrapi (x : Int) : IntKind.i64.wrap x = if x % 18446744073709551616 ≥ 9223372036854775808 then x % 18446744073709551616 - 18446744073709551616 else x % 18446744073709551616 := by
  show (if (true && decide (x % 18446744073709551616 ≥ 9223372036854775808)) = true then _ else _) = _
  simp only [Bool.true_and, decide_eq_true_eq]
  rfl
theorem wrap64_mod (x : Int) : wrap64 x % 18446744073709551616 = x % 18446744073709551616 := by
  unfold wrap64; omega
theorem ofInt_mod (x : Int) : (BitVec.ofInt 64 x).toNat = (x % 18446744073709551616).toNat := by
  rw [BitVec.toNat_ofInt]; rfl
theorem xor_zero_u64 (a b : Int) (h0 : 0 ≤ a) (h1 : a < 18446744073709551616) (hb : b % 18446744073709551616 = 0) : bits .xor .u64 a b = a := by
  show IntKind.u64.wrap ((BitVec.ofInt 64 a ^^^ BitVec.ofInt 64 b).toNat : Int) = _
  have : BitVec.ofInt 64 b = 0#64 := by
    apply BitVec.eq_of_toNat_eq
    rw [ofInt_mod, hb]; rfl
  rw [this, BitVec.xor_zero, ofInt_mod, wrapu]
  omega
theorem xor_ones_u64 (a b : Int) (h0 : 0 ≤ a) (h1 : a < 18446744073709551616) (hb : b % 18446744073709551616 = 18446744073709551615) : bits .xor .u64 a b = 18446744073709551615 - a := by
  show IntKind.u64.wrap ((BitVec.ofInt 64 a ^^^ BitVec.ofInt 64 b).toNat : Int) = _
  have : BitVec.ofInt 64 b = BitVec.allOnes 64 := by
    apply BitVec.eq_of_toNat_eq
    rw [ofInt_mod, hb]; rfl
  rw [this, BitVec.xor_allOnes, BitVec.toNat_not, ofInt_mod, wrapu]
  omega
theorem xor_zero_i64 (a b : Int) (h0 : 0 ≤ a) (h1 : a < 9223372036854775808) (hb : b % 18446744073709551616 = 0) : bits .xor .i64 a b = a := by
  show IntKind.i64.wrap ((BitVec.ofInt 64 a ^^^ BitVec.ofInt 64 b).toNat : Int) = _
  have : BitVec.ofInt 64 b = 0#64 := by
    apply BitVec.eq_of_toNat_eq
    rw [ofInt_mod, hb]; rfl
  rw [this, BitVec.xor_zero, ofInt_mod, wrapi]
  split <;> omega
theorem xor_ones_i64 (a b : Int) (h0 : 0 ≤ a) (h1 : a < 9223372036854775808) (hb : b % 18446744073709551616 = 18446744073709551615) : bits .xor .i64 a b = -a - 1 := by
  show IntKind.i64.wrap ((BitVec.ofInt 64 a ^^^ BitVec.ofInt 64 b).toNat : Int) = _
  have : BitVec.ofInt 64 b = BitVec.allOnes 64 := by
    apply BitVec.eq_of_toNat_eq
    rw [ofInt_mod, hb]; rfl
  rw [this, BitVec.xor_allOnes, BitVec.toNat_not, ofInt_mod, wrapi]
  split <;> omega
theorem and_one_u64 (a : Int) (h0 : 0 ≤ a) (h1 : a < 18446744073709551616) : bits .and .u64 a 1 = a % 2 := by
  obtain ⟨x, rfl⟩ := Int.eq_ofNat_of_zero_le h0
  have := u64_and_nat x 1 (by omega) (by omega)
  rw [show ((1 : Nat) : Int) = 1 from rfl] at this
  rw [this, Nat.and_one_is_mod]
  omega
theorem zg_bits (n : Int) (h0 : -9223372036854775808 ≤ n) (h1 : n ≤ 9223372036854775807) :
    bits .xor .u64 (IntKind.u64.wrap (wrap64 (n * 2))) (IntKind.u64.wrap (n / 9223372036854775808)) = zg n := by
  rw [wrapu, wrapu, wrap64_mod]
  unfold zg
  split
  · rw [xor_ones_u64 _ _ (by omega) (by omega) (by omega)]; omega
  · rw [xor_zero_u64 _ _ (by omega) (by omega) (by omega)]; omega
theorem zag_bits (x : Int) (h0 : 0 ≤ x) (h1 : x < 18446744073709551616) :
    bits .xor .i64 (x / 2) (wrap64 (-wrap64 (bits .and .u64 x 1))) = zag x := by
  rw [and_one_u64 x h0 h1]
  unfold zag
  split
  · rename_i h
    rw [h, xor_ones_i64 _ _ (by omega) (by omega) (by unfold wrap64; decide)]
  · rw [show x % 2 = 0 by omega, xor_zero_i64 _ _ (by omega) (by omega) (by unfold wrap64; decide)]

theorem ret_u64 {a b : Int} (h : a = b) : Ending.returned (.int .u64 a) = .returned (.int .u64 b) := by rw [h]
theorem ret_i64 {a b : Int} (h : a = b) : Ending.returned (.int .i64 a) = .returned (.int .i64 b) := by rw [h]

end Go.Proofs.Ytgdcbfekekefiaa.Cur

namespace Go.Proofs.Ytgdcbfekekefiaa.Cur
open Go.RowKit Mem
set_option linter.unusedVariables false


def risesB : List Int → Bool
  | a :: b :: l => decide (a < b) && risesB (b :: l)
  | _ => true
theorem risesB_iff : ∀ z : List Int, risesB z = true ↔ ∀ i, i + 1 < z.length → z.getD i 0 < z.getD (i + 1) 0
  | [] => by simp [risesB]
  | [a] => by simp [risesB]
  | a :: b :: l => by
    rw [risesB, Bool.and_eq_true, risesB_iff (b :: l), decide_eq_true_eq]
    constructor
    · rintro ⟨h1, h2⟩ i hi
      cases i with
      | zero => simpa using h1
      | succ i => have := h2 i (by simp at hi ⊢; omega); simpa using this
    · intro h
      refine ⟨by simpa using h 0 (by simp), fun i hi => ?_⟩
      have := h (i + 1) (by simp at hi ⊢; omega)
      simpa using this
theorem rises_true {z : List Int} {n k : Nat} (hz : z.length = n) (h : ∀ j, j < k → z.getD j 0 < z.getD (j + 1) 0) (hk : n ≤ k + 1) : risesB z = true :=
  (risesB_iff z).2 fun i hi => h i (by omega)
theorem rises_false {z : List Int} {n k : Nat} (hz : z.length = n) (hk : k + 1 < n) (h : ¬ z.getD k 0 < z.getD (k + 1) 0) : risesB z = false := by
  cases e : risesB z with
  | false => rfl
  | true => exact absurd ((risesB_iff z).1 e k (by omega)) h

theorem Us.cells {w : World} {A : Option Addr} {n : Nat} {z : List Int} (h : Us w A n z) (hn : 0 < n) : ∃ g o, A = some ⟨g, o, none⟩ ∧ g < w.heap.size ∧ ∀ w', Below w.heap.size w w' → ∀ k, k < n → w'.cell? ⟨g, o + k, none⟩ = some (.int .u64 (z.getD k 0)) := by
  obtain ⟨g, o, e, h0⟩ := h.at_ hn
  refine ⟨g, o, e, lt_of_cell h0, fun w' hb k hk => ?_⟩
  obtain ⟨g', o', e', hc⟩ := (h.below hb).at_ hk
  rw [e] at e'
  injection e' with e'
  injection e' with e1 e2
  subst e1 e2
  exact hc

set_option maxHeartbeats 1000000 in
theorem rrises_any (A : Option Addr) (n m : Nat) (z : List Int) (w : World) (hz : Us w A n z) (hn : n ≤ 1000000) (hby : ∀ x ∈ z, 0 ≤ x ∧ x < 18446744073709551616) :
    Calls Try.prog 15 #[.slice A n m] w (BPost (.bool (risesB z)) w) := by
  unfold BPost
  by_cases hn0 : n = 0
  · subst hn0
    have HT := Lib.hid (rises_true (n := 0) (k := 0) hz.1 (by intro j hj; omega) (by omega))
    go_enter Try.func15, Try.ntmps15
    go_wp2
    go_loopw [3] (fun i wr => i = .int .i64 0 ∧ wr = w) (fun i _ => 0)
    case atStart => exact ⟨rfl, rfl⟩
    case round =>
      obtain ⟨rfl, rfl⟩ := hrel
      go_wp2
      go_ret
      exact ⟨by rw [HT.out]; rfl, Below.refl _ _⟩
  · obtain ⟨g, o, rfl, hg, hc⟩ := hz.cells (by omega)
    have HC := Lib.hid hc
    have HZ := Lib.hid hz.1
    have HB := Lib.hid hby
    clear hc hz hby
    go_enter Try.func15, Try.ntmps15
    go_wp2
    go_loopw [3] (fun i wr => ∃ k : Nat, k < n ∧ i = .int .i64 k ∧ Hid (∀ j, j < k → z.getD j 0 < z.getD (j + 1) 0) ∧ Below w.heap.size w wr) (fun i _ => n - (intOf i).toNat)
    case atStart => exact ⟨0, by omega, rfl, Lib.hid (by intro j hj; omega), Below.refl _ _⟩
    case round =>
      obtain ⟨k, hk, rfl, hj, hb⟩ := hrel
      by_cases hlt : k + 1 < n
      · have c0 := HC.out wr hb k hk
        have c1 := HC.out wr hb (k + 1) hlt
        obtain ⟨x0, hx0⟩ : ∃ x, x = z.getD k 0 := ⟨_, rfl⟩
        obtain ⟨x1, hx1⟩ : ∃ x, x = z.getD (k + 1) 0 := ⟨_, rfl⟩
        have b0 := HB.out x0 (by rw [hx0]; exact getD_mem (by rw [HZ.out]; omega))
        have b1 := HB.out x1 (by rw [hx1]; exact getD_mem (by rw [HZ.out]; omega))
        rw [← hx0] at c0
        rw [← hx1] at c1
        have HX0 := Lib.hid hx0
        have HX1 := Lib.hid hx1
        clear hx0 hx1
        have e1 : (k : Int) + 1 < n := by omega
        have e2 : (k : Int) < n := by omega
        have e3 : IntKind.i64.wrap ((k : Int) + 1) = ((k + 1 : Nat) : Int) := IntWalk.i64_in _ (by omega)
        by_cases hle : x0 < x1
        · go_wp2
          go_quiet (fail)
          go_wp2
          go_roundw
          case rel => exact ⟨k + 1, hlt, by go_num, Lib.hid (fun j hjk => by
            rcases Nat.lt_or_ge j k with h | h
            · exact hj.out j h
            · obtain rfl : j = k := by omega
              rw [← HX0.out, ← HX1.out]; exact hle), below_drewN hb _⟩
          case measure => simp [intOf]; omega
        · go_wp2
          go_quiet (fail)
          go_wp2
          go_ret
          exact ⟨by rw [rises_false HZ.out hlt (by rw [← HX0.out, ← HX1.out]; omega)]; rfl, below_drewN hb _⟩
      · go_wp2
        go_ret
        exact ⟨by rw [rises_true HZ.out hj.out (by omega)]; rfl, hb⟩
end Go.Proofs.Ytgdcbfekekefiaa.Cur

namespace Go.Proofs.Ytgdcbfekekefiaa.Cur
open Go.RowKit Mem
set_option linter.unusedVariables false


/-- The integer by which number k of a rising list is written. -/
def stp (z : List Int) (k : Nat) : Int := if k = 0 then z.getD 0 0 else z.getD k 0 - z.getD (k - 1) 0 - 1
def rzk (z : List Int) : Nat → List Int
  | 0 => []
  | k + 1 => rzk z k ++ vz (stp z k)
def rz (z : List Int) : List Int := rzk z z.length
theorem rzk_len (z : List Int) (k : Nat) : (rzk z k).length ≤ 10 * k := by
  induction k with
  | zero => simp [rzk]
  | succ k ih => rw [rzk, List.length_append, vz_length]; have := vsz_le (stp z k); omega
theorem rzk_succ_len (z : List Int) (k : Nat) : (rzk z (k + 1)).length = (rzk z k).length + vsz (stp z k) := by rw [rzk, List.length_append, vz_length]
theorem stp_bd {z : List Int} {n k : Nat} (hz : z.length = n) (hk : k < n) (hby : ∀ x ∈ z, 0 ≤ x ∧ x < 18446744073709551616) (hr : risesB z = true) : 0 ≤ stp z k ∧ stp z k < 18446744073709551616 := by
  have h1 := hby _ (getD_mem (z := z) (k := k) (by omega))
  unfold stp
  split
  · subst k; exact h1
  · have h2 := hby _ (getD_mem (z := z) (k := k - 1) (by omega))
    have h3 := (risesB_iff z).1 hr (k - 1) (by omega)
    rw [show k - 1 + 1 = k by omega] at h3
    omega

end Go.Proofs.Ytgdcbfekekefiaa.Cur

namespace Go.Proofs.Ytgdcbfekekefiaa.Cur
open Go.RowKit Mem
set_option linter.unusedVariables false


set_option maxHeartbeats 1000000 in
theorem same5_any (A B : Option Addr) (n m c d : Nat) (z : List Int) (w : World) (ha : Us w A n z) (hb : Us w B m z) (hn : n ≤ 1000000) (hby : ∀ x ∈ z, 0 ≤ x ∧ x < 18446744073709551616) :
    Calls Try.prog 13 #[.slice A n c, .slice B m d] w (BPost (.bool true) w) := by
  unfold BPost
  obtain rfl : m = n := by rw [← ha.1, ← hb.1]
  by_cases hn0 : m = 0
  · subst hn0
    clear ha hb
    go_enter Try.func13, Try.ntmps13
    go_wp2
    go_loopw [5] (fun i wr => i = .int .i64 0 ∧ wr = w) (fun i _ => 0)
    case atStart => exact ⟨rfl, rfl⟩
    case round =>
      obtain ⟨rfl, rfl⟩ := hrel
      go_wp2
      go_ret
      exact ⟨rfl, Below.refl _ _⟩
  · have hzl := ha.1
    obtain ⟨g, o, rfl, hg, hc⟩ := ha.cells (by omega)
    obtain ⟨g', o', rfl, hg', hc'⟩ := hb.cells (by omega)
    have HC := Lib.hid hc
    have HC' := Lib.hid hc'
    have HB := Lib.hid hby
    have HZ := Lib.hid hzl
    clear hc hc' ha hb hby hzl
    go_enter Try.func13, Try.ntmps13
    go_wp2
    go_loopw [5] (fun i wr => ∃ k : Nat, k ≤ m ∧ i = .int .i64 k ∧ Below w.heap.size w wr) (fun i _ => m - (intOf i).toNat)
    case atStart => exact ⟨0, by omega, rfl, Below.refl _ _⟩
    case round =>
      obtain ⟨k, hk, rfl, hb⟩ := hrel
      by_cases hlt : k < m
      · have c0 := HC.out wr hb k hlt
        have c1 := HC'.out wr hb k hlt
        have b0 := HB.out _ (getD_mem (z := z) (k := k) (by rw [HZ.out]; exact hlt))
        generalize z.getD k 0 = x at *
        have e2 : (k : Int) < m := by omega
        go_wp2
        go_quiet (fail)
        go_wp2
        go_roundw
        case rel => exact ⟨k + 1, hlt, by go_num, below_drewN hb _⟩
        case measure => simp [intOf]; omega
      · go_wp2
        go_ret
        exact ⟨rfl, hb⟩

end Go.Proofs.Ytgdcbfekekefiaa.Cur

namespace Go.Proofs.Ytgdcbfekekefiaa.Cur
open Go.RowKit Mem
set_option linter.unusedVariables false


/-- The list of n numbers from place p on, some being read: the list, the place behind it; the fault's code and place. -/
def rgo (z : List Int) : Nat → Int → List Int → List Int × Int × Int × Int
  | 0, p, acc => (acc, p, 0, 0)
  | n + 1, p, acc =>
    if (vgo (z.drop p.toNat) 0 0).2.2.1 ≠ 0 then ([], 0, (vgo (z.drop p.toNat) 0 0).2.2.1, p + (vgo (z.drop p.toNat) 0 0).2.2.2)
    else if acc = [] then rgo z n (p + (vgo (z.drop p.toNat) 0 0).2.1) [(vgo (z.drop p.toNat) 0 0).1]
    else if 18446744073709551615 - acc.getD (acc.length - 1) 0 ≤ (vgo (z.drop p.toNat) 0 0).1 then ([], 0, 13, p)
    else rgo z n (p + (vgo (z.drop p.toNat) 0 0).2.1) (acc ++ [acc.getD (acc.length - 1) 0 + (vgo (z.drop p.toNat) 0 0).1 + 1])
theorem rgo_bad {z : List Int} {k : Nat} {p : Int} {acc : List Int} (h : (vgo (z.drop p.toNat) 0 0).2.2.1 ≠ 0) : rgo z (k + 1) p acc = ([], 0, (vgo (z.drop p.toNat) 0 0).2.2.1, p + (vgo (z.drop p.toNat) 0 0).2.2.2) := by
  unfold rgo; rw [if_pos h]
theorem rgo_first {z : List Int} {k : Nat} {p : Int} (h : (vgo (z.drop p.toNat) 0 0).2.2.1 = 0) : rgo z (k + 1) p [] = rgo z k (p + (vgo (z.drop p.toNat) 0 0).2.1) [(vgo (z.drop p.toNat) 0 0).1] := by
  rw [rgo, if_neg (by simp [h]), if_pos rfl]
theorem rgo_over {z : List Int} {k : Nat} {p : Int} {acc : List Int} (h : (vgo (z.drop p.toNat) 0 0).2.2.1 = 0) (ha : acc ≠ []) (ho : 18446744073709551615 - acc.getD (acc.length - 1) 0 ≤ (vgo (z.drop p.toNat) 0 0).1) : rgo z (k + 1) p acc = ([], 0, 13, p) := by
  rw [rgo, if_neg (by simp [h]), if_neg ha, if_pos ho]
theorem rgo_next {z : List Int} {k : Nat} {p : Int} {acc : List Int} (h : (vgo (z.drop p.toNat) 0 0).2.2.1 = 0) (ha : acc ≠ []) (ho : ¬ 18446744073709551615 - acc.getD (acc.length - 1) 0 ≤ (vgo (z.drop p.toNat) 0 0).1) :
    rgo z (k + 1) p acc = rgo z k (p + (vgo (z.drop p.toNat) 0 0).2.1) (acc ++ [acc.getD (acc.length - 1) 0 + (vgo (z.drop p.toNat) 0 0).1 + 1]) := by
  rw [rgo, if_neg (by simp [h]), if_neg ha, if_neg ho]

/-- What ReadRising does. -/
def RgSt (n : Nat) (z : List Int) (p c q : Int) (N : Nat) (l : List Int) (p' c' q' : Int) : Prop :=
  0 ≤ p' ∧ p' ≤ n ∧ ((c ≠ 0 ∧ l = [] ∧ c' = c ∧ q' = q) ∨
  (c = 0 ∧ (rgo z N p []).2.2.1 = 0 ∧ l = (rgo z N p []).1 ∧ p' = (rgo z N p []).2.1 ∧ c' = 0 ∧ q' = q) ∨
  (c = 0 ∧ (rgo z N p []).2.2.1 ≠ 0 ∧ l = [] ∧ c' = (rgo z N p []).2.2.1 ∧ q' = (rgo z N p []).2.2.2))
theorem RgSt.det {n : Nat} {z : List Int} {p c q : Int} {N : Nat} {l l2 : List Int} {p' c' q' p2 c2 q2 : Int} (h : RgSt n z p c q N l p' c' q') (k : RgSt n z p c q N l2 p2 c2 q2) : l = l2 ∧ c' = c2 ∧ q' = q2 ∧ (c' = 0 → p' = p2) := by
  obtain ⟨_, _, h⟩ := h
  obtain ⟨_, _, k⟩ := k
  rcases h with ⟨a0, rfl, rfl, rfl⟩ | ⟨a0, a1, rfl, rfl, rfl, rfl⟩ | ⟨a0, a1, rfl, rfl, rfl⟩ <;>
  rcases k with ⟨b0, rfl, rfl, rfl⟩ | ⟨b0, b1, rfl, rfl, rfl, rfl⟩ | ⟨b0, b1, rfl, rfl, rfl⟩ <;>
  first | exact absurd a0 b0 | exact absurd b0 a0 | exact absurd a1 b1 | exact absurd b1 a1 | exact ⟨rfl, rfl, rfl, fun h => absurd h (by assumption)⟩ | exact ⟨rfl, rfl, rfl, fun _ => rfl⟩

/-- A number takes at least a byte. -/
theorem vgo_pos (l : List Int) : ∀ (i : Nat) (X : Int), (vgo l i X).2.2.1 = 0 → (i : Int) + 1 ≤ (vgo l i X).2.1 := by
  induction l with
  | nil => intro i X h; exact absurd h (by show (1 : Int) ≠ 0; omega)
  | cons b l ih =>
    intro i X h
    unfold vgo at h ⊢
    split at h
    · exact absurd h (by show (5 : Int) ≠ 0; omega)
    · rename_i h1
      rw [if_neg h1]
      split at h
      · exact absurd h (by show (4 : Int) ≠ 0; omega)
      · rename_i h2
        rw [if_neg h2]
        split at h
        · rename_i h3
          rw [if_pos h3]
          show (i : Int) + 1 ≤ i + 1
          omega
        · rename_i h3
          rw [if_neg h3]
          have := ih (i + 1) _ h
          omega
/-- What Read leaves, in one of three ways. -/
theorem rd_ways {n : Nat} {z : List Int} {p q v p' c' q' : Int} (h : RdSt n z p 0 q v p' c' q') (hz : z.length = n) (h0 : 0 ≤ p) (h1 : p ≤ n) (hby : ∀ x ∈ z, 0 ≤ x ∧ x < 256) :
    ((vgo (z.drop p.toNat) 0 0).2.2.1 = 0 ∧ v = (vgo (z.drop p.toNat) 0 0).1 ∧ p' = p + (vgo (z.drop p.toNat) 0 0).2.1 ∧ c' = 0 ∧ q' = q ∧ p + 1 ≤ p' ∧ p' ≤ n ∧ 0 ≤ v ∧ v < 18446744073709551616) ∨
    ((vgo (z.drop p.toNat) 0 0).2.2.1 ≠ 0 ∧ v = 0 ∧ c' = (vgo (z.drop p.toNat) 0 0).2.2.1 ∧ q' = p + (vgo (z.drop p.toNat) 0 0).2.2.2 ∧ 0 ≤ p' ∧ p' ≤ n) := by
  obtain ⟨_, l2, l3, l4, l5⟩ := vgo_place (z.drop p.toNat) 0 0
  have hlen : ((0 : Nat) : Int) + (z.drop p.toNat).length = n - p := by rw [List.length_drop, hz]; omega
  rw [hlen] at l2 l4 l5
  rcases h with ⟨a, _⟩ | ⟨_, ⟨a0, a1, a2, a3, a4⟩ | ⟨a0, a1, a2, a3, a4⟩⟩
  · exact absurd rfl a
  · have hp := vgo_pos _ _ _ a0
    obtain ⟨y, j, _, _, _, hy, hy0, hy1, _⟩ := vgo_once (z.drop p.toNat) 0 0 (fun x hx => hby x (List.mem_of_mem_drop hx)) (by omega) a0
    rw [Int.pow_zero, Int.mul_one] at hy hy1
    refine .inl ⟨a0, a1, a2, a3, a4, by omega, by omega, by omega, by omega⟩
  · refine .inr ⟨a0, a1, a2, a3, ?_, ?_⟩ <;> rw [a4] <;> split <;> first | omega | skip
    rename_i h5
    -- a fault within the bytes: its place is one of theirs
    have : (vgo (z.drop p.toNat) 0 0).2.2.1 ≠ 1 → (vgo (z.drop p.toNat) 0 0).2.2.1 ≠ 0 → (vgo (z.drop p.toNat) 0 0).2.2.2 + 1 ≤ n - p := by
      intro h h'
      have key : ∀ (l : List Int) (i : Nat) (X : Int), (vgo l i X).2.2.1 ≠ 1 → (vgo l i X).2.2.1 ≠ 0 → (vgo l i X).2.2.2 + 1 ≤ i + l.length := by
        intro l
        induction l with
        | nil => intro i X h; exact absurd rfl h
        | cons b l ih =>
          intro i X h h'
          unfold vgo at h h' ⊢
          rw [List.length_cons]
          split at h
          · rename_i h1; rw [if_pos h1]; show (i : Int) + 1 ≤ _; omega
          · rename_i h1
            rw [if_neg h1] at h' ⊢
            split at h
            · rename_i h2; rw [if_pos h2]; show (i : Int) + 1 ≤ _; omega
            · rename_i h2
              rw [if_neg h2] at h' ⊢
              split at h
              · rename_i h3; rw [if_pos h3] at h'; exact absurd rfl h'
              · rename_i h3
                rw [if_neg h3] at h' ⊢
                have := ih (i + 1) _ h h'
                omega
      have := key (z.drop p.toNat) 0 0 h h'
      rw [hlen] at this
      exact this
    have := this h5 a0
    omega

theorem rd_lt {n : Nat} {z : List Int} {p c q v p' c' q' : Int} (h : RdSt n z p c q v p' c' q') (hz : z.length = n) (h0 : 0 ≤ p) (h1 : p ≤ n) (hby : ∀ x ∈ z, 0 ≤ x ∧ x < 256) : 0 ≤ v ∧ v < 18446744073709551616 := by
  by_cases hc : c = 0
  · subst hc
    rcases rd_ways h hz h0 h1 hby with ⟨_, _, _, _, _, _, _, h⟩ | ⟨_, rfl, _⟩
    · exact h
    · omega
  · rcases h with ⟨_, rfl, _⟩ | ⟨h, _⟩
    · omega
    · exact absurd h hc
end Go.Proofs.Ytgdcbfekekefiaa.Cur

namespace Go.Proofs.Ytgdcbfekekefiaa.Cur
open Go.RowKit Mem
set_option linter.unusedVariables false

/-- A value and the place behind it; or the fault's code and place. -/
abbrev Rs (α : Type) := α × Int × Int × Int
/-- What a reader does that reads g from place p on, if it has no fault c at q. -/
def St {α : Type} (d : α) (n : Nat) (g : Rs α) (p c q : Int) (v : α) (p' c' q' : Int) : Prop :=
  0 ≤ p' ∧ p' ≤ n ∧ ((c ≠ 0 ∧ v = d ∧ c' = c ∧ q' = q) ∨ (c = 0 ∧ g.2.2.1 = 0 ∧ v = g.1 ∧ p' = g.2.1 ∧ c' = 0 ∧ q' = q) ∨ (c = 0 ∧ g.2.2.1 ≠ 0 ∧ v = d ∧ c' = g.2.2.1 ∧ q' = g.2.2.2))
theorem St.det {α : Type} {d : α} {n : Nat} {g : Rs α} {p c q : Int} {v v2 : α} {p' c' q' p2 c2 q2 : Int} (h : St d n g p c q v p' c' q') (k : St d n g p c q v2 p2 c2 q2) : v = v2 ∧ c' = c2 ∧ q' = q2 ∧ (c' = 0 → p' = p2) := by
  obtain ⟨_, _, h⟩ := h
  obtain ⟨_, _, k⟩ := k
  rcases h with ⟨a0, rfl, rfl, rfl⟩ | ⟨a0, a1, rfl, rfl, rfl, rfl⟩ | ⟨a0, a1, rfl, rfl, rfl⟩ <;>
  rcases k with ⟨b0, rfl, rfl, rfl⟩ | ⟨b0, b1, rfl, rfl, rfl, rfl⟩ | ⟨b0, b1, rfl, rfl, rfl⟩ <;>
  first | exact absurd a0 b0 | exact absurd b0 a0 | exact absurd a1 b1 | exact absurd b1 a1 | exact ⟨rfl, rfl, rfl, fun h => absurd h (by assumption)⟩ | exact ⟨rfl, rfl, rfl, fun _ => rfl⟩
theorem St.place {α : Type} {d : α} {n : Nat} {g : Rs α} {p c q : Int} {v : α} {p' c' q' : Int} (h : St d n g p c q v p' c' q') : 0 ≤ p' ∧ p' ≤ n := ⟨h.1, h.2.1⟩
theorem St.good {α : Type} {d : α} {n : Nat} {g : Rs α} {p c q : Int} {v : α} {p' q' : Int} (h : St d n g p c q v p' 0 q') : c = 0 ∧ g.2.2.1 = 0 ∧ v = g.1 ∧ p' = g.2.1 ∧ q' = q := by
  obtain ⟨_, _, ⟨h0, _, h1, _⟩ | ⟨h0, h1, h2, h3, _, h4⟩ | ⟨_, h0, _, h1, _⟩⟩ := h
  · exact absurd h1.symm h0
  · exact ⟨h0, h1, h2, h3, h4⟩
  · exact absurd h1.symm h0
theorem St.nil {α : Type} {d : α} {n : Nat} {g : Rs α} {p c q : Int} {v : α} {p' c' q' : Int} (h : St d n g p c q v p' c' q') (hc : c' ≠ 0) : v = d := by
  obtain ⟨_, _, ⟨_, h1, _⟩ | ⟨_, _, _, _, h1, _⟩ | ⟨_, _, h1, _⟩⟩ := h
  · exact h1
  · exact absurd h1 hc
  · exact h1
theorem St.bad {α : Type} {d : α} {n : Nat} {g : Rs α} {p c q : Int} {v : α} {p' c' q' : Int} (h : St d n g p c q v p' c' q') (hc : c ≠ 0) : v = d ∧ c' = c ∧ q' = q := by
  obtain ⟨_, _, ⟨_, h1⟩ | ⟨h0, _⟩ | ⟨h0, _⟩⟩ := h
  · exact h1
  · exact absurd h0 hc
  · exact absurd h0 hc
theorem St.stay {α : Type} {d : α} {n : Nat} {g : Rs α} {p c q p' : Int} (h0 : 0 ≤ p') (h1 : p' ≤ n) (hc : c ≠ 0) : St d n g p c q d p' c q := ⟨h0, h1, .inl ⟨hc, rfl, rfl, rfl⟩⟩
theorem St.done {α : Type} {d : α} {n : Nat} {g : Rs α} {p q : Int} {v : α} {p' : Int} (e : g = (v, p', 0, 0)) (h0 : 0 ≤ p') (h1 : p' ≤ n) : St d n g p 0 q v p' 0 q := by
  subst e; exact ⟨h0, h1, .inr (.inl ⟨rfl, rfl, rfl, rfl, rfl, rfl⟩)⟩
theorem St.fault {α : Type} {d x : α} {n : Nat} {g : Rs α} {p q : Int} {p' c' q' y : Int} (e : g = (x, y, c', q')) (hc : c' ≠ 0) (h0 : 0 ≤ p') (h1 : p' ≤ n) : St d n g p 0 q d p' c' q' := by
  subst e; exact ⟨h0, h1, .inr (.inr ⟨rfl, hc, rfl, rfl, rfl⟩)⟩
theorem St.of_done {α : Type} {d : α} {n : Nat} {g : Rs α} {p q : Int} {v : α} {p' c' q' : Int} {u : α} {p2 : Int} (h : St d n g p 0 q v p' c' q') (e : g = (u, p2, 0, 0)) : v = u ∧ p' = p2 ∧ c' = 0 ∧ q' = q := by
  obtain ⟨_, _, ⟨h0, _⟩ | ⟨_, _, h1, h2, h3, h4⟩ | ⟨_, h0, _⟩⟩ := h
  · exact absurd rfl h0
  · rw [e] at h1 h2; exact ⟨h1, h2, h3, h4⟩
  · rw [e] at h0; exact absurd rfl h0
/-- One behind the other. -/
def Rs.bind {α β : Type} (g : Rs α) (d : β) (f : α → Int → Rs β) : Rs β := if g.2.2.1 ≠ 0 then (d, 0, g.2.2.1, g.2.2.2) else f g.1 g.2.1
theorem St.bind {α β : Type} {d1 : α} {d : β} {n : Nat} {g : Rs α} {f : α → Int → Rs β} {p c q : Int} {v : α} {p1 c1 q1 : Int} {u : β} {p2 c2 q2 : Int} (h : St d1 n g p c q v p1 c1 q1) (k : St d n (f v p1) p1 c1 q1 u p2 c2 q2) :
    St d n (g.bind d f) p c q u p2 c2 q2 := by
  obtain ⟨_, _, h⟩ := h
  obtain ⟨k0, k1, k⟩ := k
  refine ⟨k0, k1, ?_⟩
  rcases h with ⟨a0, rfl, rfl, rfl⟩ | ⟨a0, a1, rfl, rfl, rfl, rfl⟩ | ⟨a0, a1, rfl, rfl, rfl⟩
  · rcases k with ⟨b0, rfl, rfl, rfl⟩ | ⟨b0, _⟩ | ⟨b0, _⟩
    · exact .inl ⟨a0, rfl, rfl, rfl⟩
    · exact absurd b0 a0
    · exact absurd b0 a0
  · rcases k with ⟨b0, _⟩ | ⟨b0, b1, rfl, rfl, rfl, rfl⟩ | ⟨b0, b1, rfl, rfl, rfl⟩
    · exact absurd rfl b0
    · refine .inr (.inl ⟨a0, ?_⟩)
      unfold Rs.bind
      rw [if_neg (by simp [a1])]
      exact ⟨b1, rfl, rfl, rfl, rfl⟩
    · refine .inr (.inr ⟨a0, ?_⟩)
      unfold Rs.bind
      rw [if_neg (by simp [a1])]
      exact ⟨b1, rfl, rfl, rfl⟩
  · rcases k with ⟨b0, rfl, rfl, rfl⟩ | ⟨b0, _⟩ | ⟨b0, _⟩
    · refine .inr (.inr ⟨a0, ?_⟩)
      unfold Rs.bind
      rw [if_pos a1]
      exact ⟨a1, rfl, rfl, rfl⟩
    · exact absurd b0 a1
    · exact absurd b0 a1
/-- What is read, turned. -/
def Rs.map {α β : Type} (g : Rs α) (f : α → β) : Rs β := (f g.1, g.2.1, g.2.2.1, g.2.2.2)
theorem St.map {α β : Type} {d : α} {n : Nat} {g : Rs α} (f : α → β) {p c q : Int} {v : α} {p' c' q' : Int} (h : St d n g p c q v p' c' q') : St (f d) n (g.map f) p c q (f v) p' c' q' := by
  obtain ⟨h0, h1, h⟩ := h
  refine ⟨h0, h1, ?_⟩
  rcases h with ⟨a0, rfl, rfl, rfl⟩ | ⟨a0, a1, rfl, rfl, rfl, rfl⟩ | ⟨a0, a1, rfl, rfl, rfl⟩
  · exact .inl ⟨a0, rfl, rfl, rfl⟩
  · exact .inr (.inl ⟨a0, a1, rfl, rfl, rfl, rfl⟩)
  · exact .inr (.inr ⟨a0, a1, rfl, rfl, rfl⟩)
theorem Rs.bind_ok {α β : Type} {g : Rs α} {d : β} {f : α → Int → Rs β} (h : (g.bind d f).2.2.1 = 0) : g.2.2.1 = 0 ∧ g.bind d f = f g.1 g.2.1 := by
  unfold Rs.bind at h ⊢
  split at h
  · rename_i hg; exact absurd h hg
  · rename_i hg; rw [if_neg hg]; exact ⟨by simpa using hg, rfl⟩
theorem Rs.bind_of {α β : Type} {g : Rs α} {d : β} {f : α → Int → Rs β} {v : α} {p' : Int} (h : g = (v, p', 0, 0)) : g.bind d f = f v p' := by
  subst h; unfold Rs.bind; rw [if_neg (by simp)]

/-- A number. -/
def vg (z : List Int) (p : Int) : Rs Int := ((vgo (z.drop p.toNat) 0 0).1, p + (vgo (z.drop p.toNat) 0 0).2.1, (vgo (z.drop p.toNat) 0 0).2.2.1, if (vgo (z.drop p.toNat) 0 0).2.2.1 = 0 then 0 else p + (vgo (z.drop p.toNat) 0 0).2.2.2)
theorem RdSt.st {n : Nat} {z : List Int} {p c q v p' c' q' : Int} (h : RdSt n z p c q v p' c' q') (hz : z.length = n) (h0 : 0 ≤ p) (h1 : p ≤ n) (hby : ∀ x ∈ z, 0 ≤ x ∧ x < 256) : St 0 n (vg z p) p c q v p' c' q' := by
  by_cases hc : c = 0
  · subst hc
    rcases rd_ways h hz h0 h1 hby with ⟨g0, rfl, rfl, rfl, rfl, p1, p2, _⟩ | ⟨g0, rfl, rfl, rfl, p1, p2⟩
    · exact ⟨by omega, by omega, .inr (.inl ⟨rfl, g0, rfl, rfl, rfl, rfl⟩)⟩
    · exact ⟨p1, p2, .inr (.inr ⟨rfl, g0, rfl, rfl, by unfold vg; rw [if_neg g0]⟩)⟩
  · rcases h with ⟨_, rfl, rfl, rfl, rfl⟩ | ⟨h, _⟩
    · exact ⟨h0, h1, .inl ⟨hc, rfl, rfl, rfl⟩⟩
    · exact absurd h hc
/-- A number of at most mo. -/
def vm (z : List Int) (mo p : Int) : Rs Int := if (vg z p).2.2.1 ≠ 0 then (0, 0, (vg z p).2.2.1, (vg z p).2.2.2) else if mo < (vg z p).1 then (0, 0, 2, p) else vg z p
theorem most_st {n : Nat} {z : List Int} {p c q mo v0 p' c0 q0 v c' q' : Int} (h : RdSt n z p c q v0 p' c0 q0) (hz : z.length = n) (h0 : 0 ≤ p) (h1 : p ≤ n) (hby : ∀ x ∈ z, 0 ≤ x ∧ x < 256)
    (hv : (mo < v0 ∧ v = 0 ∧ FailSt c0 q0 2 p c' q') ∨ (v0 ≤ mo ∧ v = v0 ∧ c' = c0 ∧ q' = q0)) : St 0 n (vm z mo p) p c q v p' c' q' := by
  have hs := h.st hz h0 h1 hby
  obtain ⟨k0, k1, k⟩ := hs
  refine ⟨k0, k1, ?_⟩
  rcases k with ⟨a0, rfl, rfl, rfl⟩ | ⟨a0, a1, rfl, rfl, rfl, rfl⟩ | ⟨a0, a1, rfl, rfl, rfl⟩
  · refine .inl ⟨a0, ?_⟩
    rcases hv with ⟨_, rfl, hf⟩ | ⟨_, rfl, rfl, rfl⟩
    · rcases hf with ⟨hf, _⟩ | ⟨_, rfl, rfl⟩
      · exact absurd hf a0
      · exact ⟨rfl, rfl, rfl⟩
    · exact ⟨rfl, rfl, rfl⟩
  · rcases hv with ⟨hm, rfl, hf⟩ | ⟨hm, rfl, rfl, rfl⟩
    · rcases hf with ⟨_, rfl, hq⟩ | ⟨hf, _⟩
      · refine .inr (.inr ⟨a0, ?_⟩)
        unfold vm
        rw [if_neg (by simp [a1]), if_pos hm]
        exact ⟨by show (2 : Int) ≠ 0; decide, rfl, rfl, hq⟩
      · exact absurd rfl hf
    · refine .inr (.inl ⟨a0, ?_⟩)
      unfold vm
      rw [if_neg (by simp [a1]), if_neg (by omega)]
      exact ⟨a1, rfl, rfl, rfl, rfl⟩
  · refine .inr (.inr ⟨a0, ?_⟩)
    unfold vm
    rw [if_pos a1]
    rcases hv with ⟨_, rfl, hf⟩ | ⟨_, rfl, rfl, rfl⟩
    · rcases hf with ⟨hf, _⟩ | ⟨_, rfl, rfl⟩
      · exact absurd hf a1
      · exact ⟨a1, rfl, rfl, rfl⟩
    · exact ⟨a1, rfl, rfl, rfl⟩
theorem MostSt.st {n : Nat} {z : List Int} {p c q mo v p' c' q' : Int} (h : MostSt n z p c q mo v p' c' q') (hz : z.length = n) (h0 : 0 ≤ p) (h1 : p ≤ n) (hby : ∀ x ∈ z, 0 ≤ x ∧ x < 256) : St 0 n (vm z mo p) p c q v p' c' q' := by
  obtain ⟨v0, c0, q0, hr, hv⟩ := h
  exact most_st hr hz h0 h1 hby hv
theorem IntSt.st {n : Nat} {z : List Int} {p c q mo v p' c' q' : Int} (h : IntSt n z p c q mo v p' c' q') (hz : z.length = n) (h0 : 0 ≤ p) (h1 : p ≤ n) (hby : ∀ x ∈ z, 0 ≤ x ∧ x < 256) : St 0 n (vm z mo p) p c q v p' c' q' := by
  rcases h with ⟨_, h⟩ | ⟨hm, rfl, v0, c0, q0, hr, hf⟩
  · exact h.st hz h0 h1 hby
  · have := hr.nonneg hby
    exact most_st hr hz h0 h1 hby (.inl ⟨by omega, rfl, hf⟩)
theorem vg_bd (z : List Int) (p : Int) (hby : ∀ x ∈ z, 0 ≤ x ∧ x < 256) : 0 ≤ (vg z p).1 := vgo_nonneg _ (fun x hx => hby x (List.mem_of_mem_drop hx)) 0 0 (Int.le_refl _)
theorem vm_ok {z : List Int} {mo p : Int} (h : (vm z mo p).2.2.1 = 0) : (vg z p).2.2.1 = 0 ∧ (vg z p).1 ≤ mo ∧ vm z mo p = vg z p := by
  unfold vm at h ⊢
  split at h
  · rename_i hg; exact absurd h hg
  · rename_i hg
    split at h
    · exact absurd h (by show ¬ (2 : Int) = 0; decide)
    · rename_i hm; rw [if_neg hg, if_neg hm]; exact ⟨by simpa using hg, by omega, rfl⟩
theorem vm_bd {n : Nat} {z : List Int} {mo p c q v p' c' q' : Int} (h : St 0 n (vm z mo p) p c q v p' c' q') (hby : ∀ x ∈ z, 0 ≤ x ∧ x < 256) : 0 ≤ v ∧ (v ≤ mo ∨ v = 0) := by
  obtain ⟨_, _, ⟨_, rfl, _⟩ | ⟨_, h1, rfl, _⟩ | ⟨_, _, rfl, _⟩⟩ := h
  · exact ⟨Int.le_refl _, .inr rfl⟩
  · obtain ⟨_, h2, h3⟩ := vm_ok h1
    rw [h3]
    exact ⟨vg_bd z p hby, .inl h2⟩
  · exact ⟨Int.le_refl _, .inr rfl⟩
/-- So many bytes. -/
def tk (z : List Int) (x p : Int) : Rs (List Int) := if x < 0 then ([], 0, 17, p) else if (z.length : Int) - p < x then ([], 0, 1, z.length) else (piece z p.toNat (p + x).toNat, p + x, 0, 0)
theorem SkipSt.st {n : Nat} {z : List Int} {p c q x : Int} {ok : Bool} {p' c' q' : Int} (h : SkipSt n p c q x ok p' c' q') (hz : z.length = n) (h0 : 0 ≤ p) (h1 : p ≤ n) : St [] n (tk z x p) p c q (if ok = true then piece z p.toNat (p + x).toNat else []) p' c' q' := by
  unfold tk
  rw [hz]
  rcases h with ⟨a0, rfl, rfl, rfl, rfl⟩ | ⟨rfl, a1, rfl, rfl, rfl, rfl⟩ | ⟨rfl, a1, rfl, rfl, rfl, rfl⟩ | ⟨rfl, a1, a2, rfl, rfl, rfl, rfl⟩
  · exact ⟨h0, h1, .inl ⟨a0, rfl, rfl, rfl⟩⟩
  · rw [if_pos a1]; exact ⟨h0, h1, .inr (.inr ⟨rfl, by show (17 : Int) ≠ 0; decide, rfl, rfl, rfl⟩)⟩
  · rw [if_neg (by omega), if_pos a1]; exact ⟨h0, h1, .inr (.inr ⟨rfl, by show (1 : Int) ≠ 0; decide, rfl, rfl, rfl⟩)⟩
  · rw [if_neg (by omega), if_neg (by omega)]; exact ⟨by omega, by omega, .inr (.inl ⟨rfl, rfl, rfl, rfl, rfl, rfl⟩)⟩
/-- A number that is read is put so again, and is below 2^64. -/
theorem vg_once {z : List Int} {p : Int} (hby : ∀ x ∈ z, 0 ≤ x ∧ x < 256) (h0 : 0 ≤ p) (h1 : p ≤ z.length) (h : (vg z p).2.2.1 = 0) :
    vz (vg z p).1 = piece z p.toNat (vg z p).2.1.toNat ∧ 0 ≤ (vg z p).1 ∧ (vg z p).1 < 18446744073709551616 ∧ p + 1 ≤ (vg z p).2.1 ∧ (vg z p).2.1 ≤ z.length := by
  obtain ⟨y, j, hj1, hj2, hj, hy, hy0, hy1, hvz, _⟩ := vgo_once (z.drop p.toNat) 0 0 (fun x hx => hby x (List.mem_of_mem_drop hx)) (by omega) h
  rw [Int.pow_zero, Int.mul_one, Int.zero_add] at hy
  rw [Int.pow_zero, Int.mul_one] at hy1
  rw [List.length_drop] at hj2
  have e1 : (vg z p).1 = y := hy
  have e2 : (vg z p).2.1 = p + j := by show p + _ = _; rw [hj]; omega
  rw [e1, e2]
  refine ⟨?_, hy0, by omega, by omega, by omega⟩
  rw [hvz]; unfold piece; congr 1; omega
/-- A number that is put is read. -/
theorem vg_put {z rest pre : List Int} {x : Int} (hz : z = pre ++ vz x ++ rest) (x0 : 0 ≤ x) (x1 : x < 18446744073709551616) : vg z pre.length = (x, ((pre.length + vsz x : Nat) : Int), 0, 0) := by
  have : z.drop (pre.length : Int).toNat = vz x ++ rest := by rw [hz, Int.toNat_natCast, List.append_assoc, List.drop_append, List.drop_length, Nat.sub_self]; simp
  unfold vg
  rw [this, vgo_put x rest x0 x1]
  simp
theorem vm_put {z rest pre : List Int} {x mo : Int} (hz : z = pre ++ vz x ++ rest) (x0 : 0 ≤ x) (x1 : x < 18446744073709551616) (hm : x ≤ mo) : vm z mo pre.length = (x, ((pre.length + vsz x : Nat) : Int), 0, 0) := by
  unfold vm
  rw [vg_put hz x0 x1, if_neg (by simp), if_neg (by show ¬ mo < x; omega)]
theorem tk_put {z rest pre y : List Int} (hz : z = pre ++ y ++ rest) : tk z y.length pre.length = (y, ((pre.length + y.length : Nat) : Int), 0, 0) := by
  unfold tk
  have hl : z.length = pre.length + y.length + rest.length := by rw [hz]; simp; omega
  rw [if_neg (by omega), if_neg (by omega)]
  have : piece z (pre.length : Int).toNat ((pre.length : Int) + y.length).toNat = y := by
    unfold piece
    rw [Int.toNat_natCast, show ((pre.length : Int) + y.length).toNat = pre.length + y.length by omega, Nat.add_sub_cancel_left, hz, List.append_assoc, List.drop_append, List.drop_length, Nat.sub_self]
    simp
  rw [this]
  simp
theorem tk_once {z : List Int} {x p : Int} (h0 : 0 ≤ p) (h1 : p ≤ z.length) (h : (tk z x p).2.2.1 = 0) : 0 ≤ x ∧ x ≤ z.length - p ∧ tk z x p = (piece z p.toNat (p + x).toNat, p + x, 0, 0) := by
  unfold tk at h ⊢
  split at h
  · exact absurd h (by show ¬ (17 : Int) = 0; decide)
  · rename_i hx
    split at h
    · exact absurd h (by show ¬ (1 : Int) = 0; decide)
    · rename_i hy; rw [if_neg hx, if_neg hy]; exact ⟨by omega, by omega, rfl⟩
end Go.Proofs.Ytgdcbfekekefiaa.Cur

namespace Go.Proofs.Ytgdcbfekekefiaa.Cur
open Go.RowKit Mem
set_option linter.unusedVariables false

theorem rw_new (w : World) (xs : List Value) (t : Nat) : Rw (w.alloc (.cells xs.toArray t)) (some ⟨w.heap.size, 0, none⟩) xs := fun _ =>
  ⟨_, _, rfl, fun i v hi => by
    rw [Nat.zero_add]
    exact (Blk.new w xs.toArray t).cell i (by simpa using hi)⟩
theorem own_ge {w : World} {B e size n : Nat} {v : Value} {xs : List Value} (h : w.ownsRow B e size v n xs) : ∀ g, v.ownBlock = some g → B ≤ g := fun g hg => (World.ownsRow.lt h g hg).1
theorem Kp.grown {b : Nat} {w w1 w2 : World} {r : Option Nat} (h : Kp b w w1) (k : w1.grownBy w2 r) (hr : ∀ g, r = some g → w.heap.size ≤ g) : Kp b w w2 :=
  ⟨k.os.trans h.os, k.tape.trans h.tape, k.output.trans h.output, Nat.le_trans h.size k.size, fun i hi hb => (k.block i (Nat.lt_of_lt_of_le hi h.size) (fun e => by have := hr i e.symm; omega)).trans (h.block i hi hb)⟩
theorem rg_fault {n : Nat} {z : List Int} {p q : Int} {N : Nat} {p' c' q' : Int} (e : rgo z N p [] = ([], 0, c', q')) (hc : c' ≠ 0) (h0 : 0 ≤ p') (h1 : p' ≤ n) : RgSt n z p 0 q N [] p' c' q' :=
  ⟨h0, h1, .inr (.inr ⟨rfl, by rw [e]; exact hc, rfl, by rw [e], by rw [e]⟩)⟩
theorem rg_done {n : Nat} {z : List Int} {p q : Int} {N : Nat} {l : List Int} {p' : Int} (e : rgo z N p [] = (l, p', 0, 0)) (h0 : 0 ≤ p') (h1 : p' ≤ n) : RgSt n z p 0 q N l p' 0 q :=
  ⟨h0, h1, .inr (.inl ⟨rfl, by rw [e], by rw [e], by rw [e], rfl, rfl⟩)⟩
end Go.Proofs.Ytgdcbfekekefiaa.Cur

namespace Go.Proofs.Ytgdcbfekekefiaa.Cur
open Go.RowKit Mem
set_option linter.unusedVariables false

def RRRgPost (s : Value) (n : Nat) (z : List Int) (p c q : Int) (N : Nat) (w : World) (e : Ending) (w' : World) : Prop :=
  ∃ v l p' c' q', e = .returned (.tuple #[cv s p' c' q', v]) ∧ OwnU w' w.heap.size v l ∧ Below w.heap.size w w' ∧ RgSt n z p c q N l p' c' q' ∧ ∀ x ∈ l, 0 ≤ x ∧ x < 18446744073709551616

theorem putZ_fits {z y : List Int} {M : Int} (h : (z.length : Int) + y.length ≤ M) : putZ z y M 0 = z ++ y ∧ putC z y M 0 = 0 := by
  unfold putZ putC fitsC
  rw [if_pos ⟨rfl, by omega⟩, if_neg (by omega)]
  exact ⟨rfl, rfl⟩
theorem rzk_mono (z : List Int) {i j : Nat} (h : i ≤ j) : (rzk z i).length ≤ (rzk z j).length := by
  induction j with
  | zero => obtain rfl : i = 0 := by omega
            exact Nat.le_refl _
  | succ j ih =>
    rcases Nat.lt_or_ge j i with h' | h'
    · obtain rfl : i = j + 1 := by omega
      exact Nat.le_refl _
    · have := ih h'; rw [rzk_succ_len]; omega

end Go.Proofs.Ytgdcbfekekefiaa.Cur

namespace Go.Proofs.Ytgdcbfekekefiaa.Cur
open Go.RowKit Mem
set_option linter.unusedVariables false

abbrev cvs (s : Value) (p c q : Int) : Array Value := #[s, .int .i64 p, .int .i64 c, .int .i64 q]
theorem below_set {w w' : World} {B b : Nat} (h : Below B w w') (hb : B ≤ b) (o : Nat) (v : Value) : Below B w (w'.setCell ⟨b, o, none⟩ v) := Below.setCell h hb v
theorem set4_below {w wr : World} {B g : Nat} (h : Below B w wr) (hg : B ≤ g) (u0 u1 u2 u3 : Value) : Below B w ((((wr.setCell ⟨g, 0, none⟩ u0).setCell ⟨g, 1, none⟩ u1).setCell ⟨g, 2, none⟩ u2).setCell ⟨g, 3, none⟩ u3) :=
  (((h.setCell hg _).setCell hg _).setCell hg _).setCell hg _
theorem set4_own {wr : World} {B g : Nat} {v : Value} {acc : List Int} (h : OwnU wr B v acc) (hg : g < B) (u0 u1 u2 u3 : Value) : OwnU ((((wr.setCell ⟨g, 0, none⟩ u0).setCell ⟨g, 1, none⟩ u1).setCell ⟨g, 2, none⟩ u2).setCell ⟨g, 3, none⟩ u3) B v acc := by
  have one : ∀ {w : World} (o : Nat) (u : Value), OwnU w B v acc → OwnU (w.setCell ⟨g, o, none⟩ u) B v acc := fun o u h =>
    own_block h fun k hk => Below.heap_setCell _ _ _ k (fun e => by have := own_ge h k hk; have e : k = g := e; omega)
  exact one _ _ (one _ _ (one _ _ (one _ _ h)))
theorem OwnU.base {w : World} {B B' : Nat} {v : Value} {acc : List Int} (h : OwnU w B v acc) (hB : B' ≤ B) : OwnU w B' v acc := own_base h fun g hg => Nat.le_trans hB (own_ge h g hg)


end Go.Proofs.Ytgdcbfekekefiaa.Cur

namespace Go.Proofs.Ytgdcbfekekefiaa.Cur
open Go.RowKit Mem
set_option linter.unusedVariables false

theorem getD_append_left {a t : List Int} {k : Nat} (h : k < a.length) : (a ++ t).getD k 0 = a.getD k 0 := by
  rw [List.getD_eq_getElem?_getD, List.getD_eq_getElem?_getD, List.getElem?_append_left h]
theorem getD_append_at (a : List Int) (v : Int) (t : List Int) : (a ++ v :: t).getD a.length 0 = v := by
  rw [List.getD_eq_getElem?_getD, List.getElem?_append_right (Nat.le_refl _)]; simp
theorem stp_append {a t : List Int} {k : Nat} (h : k < a.length) : stp (a ++ t) k = stp a k := by
  unfold stp
  split
  · rw [getD_append_left (by omega)]
  · rw [getD_append_left h, getD_append_left (by omega)]
theorem rzk_append (a t : List Int) : ∀ k, k ≤ a.length → rzk (a ++ t) k = rzk a k
  | 0, _ => rfl
  | k + 1, h => by rw [rzk, rzk, rzk_append a t k (by omega), stp_append (by omega)]
theorem rz_snoc (a : List Int) (v : Int) : rz (a ++ [v]) = rz a ++ vz (stp (a ++ [v]) a.length) := by
  unfold rz
  rw [List.length_append, List.length_singleton, rzk, rzk_append a [v] _ (Nat.le_refl _)]
theorem stp_snoc (a : List Int) (v : Int) : stp (a ++ [v]) a.length = if a = [] then v else v - a.getD (a.length - 1) 0 - 1 := by
  unfold stp
  by_cases h : a = []
  · subst h; simp
  · have hl : 0 < a.length := List.length_pos_iff.2 h
    rw [if_neg (by omega), if_neg h, getD_append_at, getD_append_left (by omega)]
theorem rises_snoc {a : List Int} {v : Int} (h : risesB a = true) (hv : a = [] ∨ a.getD (a.length - 1) 0 < v) : risesB (a ++ [v]) = true := by
  rw [risesB_iff] at h ⊢
  intro i hi
  rw [List.length_append, List.length_singleton] at hi
  rcases Nat.lt_or_ge (i + 1) a.length with h1 | h1
  · rw [getD_append_left (by omega), getD_append_left h1]; exact h i h1
  · obtain rfl | hv := hv
    · simp at hi h1
    · obtain rfl : i = a.length - 1 := by omega
      rw [show a.length - 1 + 1 = a.length by omega, getD_append_at, getD_append_left (by omega)]
      exact hv

theorem piece_append {z : List Int} {a b c : Nat} (h1 : a ≤ b) (h2 : b ≤ c) (hc : c ≤ z.length) : piece z a b ++ piece z b c = piece z a c := by
  unfold piece
  rw [show c - a = (b - a) + (c - b) by omega, List.take_add, List.drop_drop, show a + (b - a) = b by omega]
theorem piece_self (z : List Int) (a : Nat) : piece z a a = [] := by simp [piece]

/-- WHAT IS READ rises, and is put so again. -/
theorem rgo_once {z : List Int} (hby : ∀ x ∈ z, 0 ≤ x ∧ x < 256) : ∀ (N : Nat) (p : Int) (acc l : List Int) (p' : Int), 0 ≤ p → p ≤ z.length → risesB acc = true → (∀ x ∈ acc, 0 ≤ x ∧ x < 18446744073709551616) → rgo z N p acc = (l, p', 0, 0) →
    l.length = acc.length + N ∧ risesB l = true ∧ (∀ x ∈ l, 0 ≤ x ∧ x < 18446744073709551616) ∧ p ≤ p' ∧ p' ≤ z.length ∧ rz l = rz acc ++ piece z p.toNat p'.toNat
  | 0, p, acc, l, p', h0, h1, hr, hb, h => by
    unfold rgo at h
    injection h with h2 h3
    injection h3 with h3 _
    subst h2 h3
    exact ⟨rfl, hr, hb, Int.le_refl _, h1, by rw [piece_self, List.append_nil]⟩
  | N + 1, p, acc, l, p', h0, h1, hr, hb, h => by
    by_cases hg : (vgo (z.drop p.toNat) 0 0).2.2.1 = 0
    case neg =>
      rw [rgo_bad hg] at h
      injection h with _ h
      injection h with _ h
      injection h with h _
      exact absurd h hg
    have hd : ∀ x ∈ z.drop p.toNat, 0 ≤ x ∧ x < 256 := fun x hx => hby x (List.mem_of_mem_drop hx)
    obtain ⟨y, j, hj1, hj2, hj, hy, hy0, hy1, hvz, _⟩ := vgo_once (z.drop p.toNat) 0 0 hd (by omega) hg
    rw [Int.pow_zero, Int.mul_one, Int.zero_add] at hy
    rw [Int.pow_zero, Int.mul_one] at hy1
    rw [List.length_drop] at hj2
    have hp2 : p + (vgo (z.drop p.toNat) 0 0).2.1 = p + j := by rw [hj]; omega
    have hpc : vz y = piece z p.toNat (p + j).toNat := by rw [hvz]; unfold piece; congr 1; omega
    by_cases ha : acc = []
    · subst ha
      rw [rgo_first hg, hp2, hy] at h
      obtain ⟨a1, a2, a3, a4, a5, a6⟩ := rgo_once hby N (p + j) [y] l p' (by omega) (by omega) rfl (by intro x hx; simp at hx; subst hx; omega) h
      refine ⟨by rw [a1]; simp; omega, a2, a3, by omega, a5, ?_⟩
      rw [a6, show rz [y] = rz [] ++ vz (stp [y] 0) from rz_snoc [] y, show stp [y] 0 = y from rfl, hpc, List.append_assoc, piece_append (by omega) (by omega) (by omega)]
    · by_cases ho : 18446744073709551615 - acc.getD (acc.length - 1) 0 ≤ (vgo (z.drop p.toNat) 0 0).1
      · rw [rgo_over hg ha ho] at h
        injection h with _ h
        injection h with _ h
        injection h with h _
        exact absurd h (by decide)
      · rw [rgo_next hg ha ho, hp2, hy] at h
        rw [hy] at ho
        have hl : 0 < acc.length := List.length_pos_iff.2 ha
        have hlast := hb _ (getD_mem (z := acc) (k := acc.length - 1) (by omega))
        obtain ⟨a1, a2, a3, a4, a5, a6⟩ := rgo_once hby N (p + j) _ l p' (by omega) (by omega) (rises_snoc (v := acc.getD (acc.length - 1) 0 + y + 1) hr (.inr (by omega))) (by
          intro x hx
          rcases List.mem_append.1 hx with hx | hx
          · exact hb x hx
          · simp only [List.mem_singleton] at hx; subst hx; omega) h
        refine ⟨by rw [a1]; simp; omega, a2, a3, by omega, a5, ?_⟩
        rw [a6, rz_snoc, stp_snoc, if_neg ha, show acc.getD (acc.length - 1) 0 + y + 1 - acc.getD (acc.length - 1) 0 - 1 = y by omega, hpc, List.append_assoc, piece_append (by omega) (by omega) (by omega)]

theorem rzk_split (z : List Int) (k : Nat) : ∀ j, k ≤ j → ∃ t, rzk z j = rzk z k ++ t
  | 0, h => ⟨[], by obtain rfl : k = 0 := by omega
                    rw [List.append_nil]⟩
  | j + 1, h => by
    rcases Nat.lt_or_ge j k with h' | h'
    · obtain rfl : k = j + 1 := by omega
      exact ⟨[], by rw [List.append_nil]⟩
    · obtain ⟨t, ht⟩ := rzk_split z k j h'
      exact ⟨t ++ vz (stp z j), by rw [rzk, ht, List.append_assoc]⟩
/-- WHAT IS PUT IS READ, whatever stands behind. -/
theorem rgo_back {z : List Int} (rest : List Int) (hr : risesB z = true) (hby : ∀ x ∈ z, 0 ≤ x ∧ x < 18446744073709551616) : ∀ (d k : Nat), k + d = z.length → rgo (rz z ++ rest) d (rzk z k).length (z.take k) = (z, ((rz z).length : Int), 0, 0)
  | 0, k, h => by
    obtain rfl : k = z.length := by omega
    unfold rgo
    rw [List.take_length]
    rfl
  | d + 1, k, h => by
    have hk : k < z.length := by omega
    obtain ⟨s0, s1⟩ := stp_bd (n := z.length) rfl hk hby hr
    obtain ⟨t, ht⟩ := rzk_split z (k + 1) z.length (by omega)
    have hdrop : (rz z ++ rest).drop ((rzk z k).length : Int).toNat = vz (stp z k) ++ (t ++ rest) := by
      unfold rz
      rw [ht, rzk, Int.toNat_natCast, List.append_assoc, List.append_assoc, List.drop_append, List.drop_length, Nat.sub_self]
      simp
    have hv : vgo ((rz z ++ rest).drop ((rzk z k).length : Int).toNat) 0 0 = (stp z k, (vsz (stp z k) : Int), 0, 0) := by rw [hdrop]; exact vgo_put _ _ s0 s1
    have hp : ((rzk z k).length : Int) + vsz (stp z k) = ((rzk z (k + 1)).length : Int) := by rw [rzk_succ_len]; push_cast; rfl
    have ih := rgo_back rest hr hby d (k + 1) (by omega)
    have htk : z.take (k + 1) = z.take k ++ [z.getD k 0] := by
      rw [List.take_succ_eq_append_getElem hk, List.getD_eq_getElem?_getD, List.getElem?_eq_getElem hk]; rfl
    rw [htk] at ih
    have hlen : (z.take k).length = k := by rw [List.length_take]; omega
    by_cases h0 : k = 0
    · subst h0
      have hs : stp z 0 = z.getD 0 0 := by unfold stp; rw [if_pos rfl]
      rw [List.take_zero] at ih ⊢
      rw [List.nil_append] at ih
      rw [rgo_first (by rw [hv]), hv, hp, hs]
      exact ih
    · have hs : stp z k = z.getD k 0 - z.getD (k - 1) 0 - 1 := by unfold stp; rw [if_neg h0]
      have hg : (z.take k).getD ((z.take k).length - 1) 0 = z.getD (k - 1) 0 := by
        rw [hlen, List.getD_eq_getElem?_getD, List.getD_eq_getElem?_getD, List.getElem?_take_of_lt (by omega)]
      have hb1 := hby _ (getD_mem (z := z) (k := k) hk)
      rw [rgo_next (by rw [hv]) (fun e => by have := congrArg List.length e; rw [hlen] at this; simp at this; omega) (by rw [hv, hg, hs]; show ¬ _ ≤ z.getD k 0 - z.getD (k - 1) 0 - 1; omega), hv, hg, hp, hs]
      show rgo _ d _ (z.take k ++ [z.getD (k - 1) 0 + (z.getD k 0 - z.getD (k - 1) 0 - 1) + 1]) = _
      rw [show z.getD (k - 1) 0 + (z.getD k 0 - z.getD (k - 1) 0 - 1) + 1 = z.getD k 0 by omega]
      exact ih
theorem rz_byte {z : List Int} (hr : risesB z = true) (hby : ∀ x ∈ z, 0 ≤ x ∧ x < 18446744073709551616) : ∀ b ∈ rz z, 0 ≤ b ∧ b < 256 := by
  have : ∀ k, k ≤ z.length → ∀ b ∈ rzk z k, 0 ≤ b ∧ b < 256 := by
    intro k
    induction k with
    | zero => intro _ b hb; simp [rzk] at hb
    | succ k ih =>
      intro hk b hb
      rw [rzk] at hb
      obtain ⟨s0, s1⟩ := stp_bd (n := z.length) rfl (show k < z.length by omega) hby hr
      rcases List.mem_append.1 hb with hb | hb
      · exact ih (by omega) b hb
      · exact vz_byte _ s0 s1 b hb
  exact this _ (Nat.le_refl _)
theorem rgo_shape {z : List Int} : ∀ (N : Nat) (p : Int) (acc : List Int), (rgo z N p acc).2.2.1 = 0 → (rgo z N p acc).2.2.2 = 0
  | 0, _, _, _ => rfl
  | N + 1, p, acc, h => by
    by_cases hg : (vgo (z.drop p.toNat) 0 0).2.2.1 = 0
    · by_cases ha : acc = []
      · subst ha
        rw [rgo_first hg] at h ⊢
        exact rgo_shape N _ _ h
      · by_cases ho : 18446744073709551615 - acc.getD (acc.length - 1) 0 ≤ (vgo (z.drop p.toNat) 0 0).1
        · rw [rgo_over hg ha ho] at h
          exact absurd h (by show ¬ (13 : Int) = 0; decide)
        · rw [rgo_next hg ha ho] at h ⊢
          exact rgo_shape N _ _ h
    · rw [rgo_bad hg] at h
      exact absurd h hg
theorem RgSt.ok {n : Nat} {z : List Int} {p q : Int} {N : Nat} {l : List Int} {p' q' : Int} (h : RgSt n z p 0 q N l p' 0 q') : rgo z N p [] = (l, p', 0, 0) := by
  obtain ⟨_, _, ⟨h, _⟩ | ⟨_, h1, h2, h3, _⟩ | ⟨_, h1, _, h2, _⟩⟩ := h
  · exact absurd rfl h
  · have h4 := rgo_shape _ _ _ h1
    rw [h2, h3]
    refine Prod.ext rfl (Prod.ext rfl (Prod.ext h1 h4))
  · exact absurd h2.symm h1
theorem rzk_len_ge (z : List Int) (k : Nat) : k ≤ (rzk z k).length := by
  induction k with
  | zero => omega
  | succ k ih => rw [rzk_succ_len]; have := vsz_pos (stp z k); omega
/-- What was read without a fault. -/
theorem RgSt.once {n : Nat} {z : List Int} {p q : Int} {N : Nat} {l : List Int} {p' q' : Int} (h : RgSt n z p 0 q N l p' 0 q') (hz : z.length = n) (hby : ∀ x ∈ z, 0 ≤ x ∧ x < 256) (h0 : 0 ≤ p) (h1 : p ≤ n) :
    l.length = N ∧ risesB l = true ∧ p ≤ p' ∧ p' ≤ n ∧ rz l = piece z p.toNat p'.toNat ∧ (l.length : Int) ≤ p' - p := by
  obtain ⟨a1, a2, _, a4, a5, a6⟩ := rgo_once hby N p [] l p' h0 (by rw [hz]; exact h1) rfl (by simp) h.ok
  rw [show rz [] = [] from rfl, List.nil_append] at a6
  refine ⟨by simpa using a1, a2, a4, by rw [← hz]; exact a5, a6, ?_⟩
  have := rzk_len_ge l l.length
  rw [show rzk l l.length = rz l from rfl, a6, length_piece (n := n) hz (by omega)] at this
  omega
/-- Without a fault there is a list, else there is none. -/
theorem RgSt.nil {n : Nat} {z : List Int} {p c q : Int} {N : Nat} {l : List Int} {p' c' q' : Int} (h : RgSt n z p c q N l p' c' q') (hc : c' ≠ 0) : l = [] := by
  obtain ⟨_, _, ⟨_, h1, _⟩ | ⟨_, _, _, _, h1, _⟩ | ⟨_, _, h1, _⟩⟩ := h
  · exact h1
  · exact absurd h1 hc
  · exact h1
end Go.Proofs.Ytgdcbfekekefiaa.Cur
