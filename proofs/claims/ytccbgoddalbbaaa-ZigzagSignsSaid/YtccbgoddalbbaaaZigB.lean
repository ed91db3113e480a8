/- Rising lists (package zigzag): the plain mathematics; Rises, the program's and the document's; two lists of numbers are the same. -/
import Derived.Test.YtccbgoddalbbaaaZigA
import Derived.Test.YtccbgoddalbbaaaRw
import Derived.IntWalk
namespace Go.Proofs.Ytccbgoddalbbaaa.Cur
open Go.RowKit Mem
set_option linter.unusedVariables false

/-- A value; all that was there is as it was. -/
def BPost (v : Value) (w : World) (e : Ending) (w' : World) : Prop := e = .returned v ∧ Below w.heap.size w w'

def risesB : List Int → Bool
  | a :: b :: l => decide (a < b) && risesB (b :: l)
  | _ => true
theorem risesB_iff : ∀ z : List Int, risesB z = true ↔ ∀ i, i + 1 < z.length → z.getD i 0 < z.getD (i + 1) 0
  | [] => by simp [risesB]
  | [a] => by simp [risesB]
  | a :: b :: l => by
    rw [risesB, Bool.and_eq_true, risesB_iff (b :: l), decide_eq_true_eq]
    constructor
    · rintro ⟨h1, h2⟩ i hi
      cases i with
      | zero => simpa using h1
      | succ i => have := h2 i (by simp at hi ⊢; omega); simpa using this
    · intro h
      refine ⟨by simpa using h 0 (by simp), fun i hi => ?_⟩
      have := h (i + 1) (by simp at hi ⊢; omega)
      simpa using this
theorem rises_true {z : List Int} {n k : Nat} (hz : z.length = n) (h : ∀ j, j < k → z.getD j 0 < z.getD (j + 1) 0) (hk : n ≤ k + 1) : risesB z = true :=
  (risesB_iff z).2 fun i hi => h i (by omega)
theorem rises_false {z : List Int} {n k : Nat} (hz : z.length = n) (hk : k + 1 < n) (h : ¬ z.getD k 0 < z.getD (k + 1) 0) : risesB z = false := by
  cases e : risesB z with
  | false => rfl
  | true => exact absurd ((risesB_iff z).1 e k (by omega)) h

theorem getD_mem {z : List Int} {k : Nat} (h : k < z.length) : z.getD k 0 ∈ z := by
  rw [List.getD_eq_getElem?_getD, List.getElem?_eq_getElem h]; exact List.getElem_mem _
theorem Us.cells {w : World} {A : Option Addr} {n : Nat} {z : List Int} (h : Us w A n z) (hn : 0 < n) : ∃ g o, A = some ⟨g, o, none⟩ ∧ g < w.heap.size ∧ ∀ w', Below w.heap.size w w' → ∀ k, k < n → w'.cell? ⟨g, o + k, none⟩ = some (.int .u64 (z.getD k 0)) := by
  obtain ⟨g, o, e, h0⟩ := h.at_ hn
  refine ⟨g, o, e, lt_of_cell h0, fun w' hb k hk => ?_⟩
  obtain ⟨g', o', e', hc⟩ := (h.below hb).at_ hk
  rw [e] at e'
  injection e' with e'
  injection e' with e1 e2
  subst e1 e2
  exact hc

set_option maxHeartbeats 1000000 in
theorem rises_any (A : Option Addr) (n m : Nat) (z : List Int) (w : World) (hz : Us w A n z) (hn : n ≤ 1000000) (hby : ∀ x ∈ z, 0 ≤ x ∧ x < 18446744073709551616) :
    Calls Try.prog 23 #[.slice A n m] w (BPost (.bool (risesB z)) w) := by
  unfold BPost
  by_cases hn0 : n = 0
  · subst hn0
    have HT := Lib.hid (rises_true (n := 0) (k := 0) hz.1 (by intro j hj; omega) (by omega))
    go_enter Try.func23, Try.ntmps23
    go_wp2
    go_loopw [7] (fun i wr => i = .int .i64 0 ∧ wr = w) (fun i _ => 0)
    case atStart => exact ⟨rfl, rfl⟩
    case round =>
      obtain ⟨rfl, rfl⟩ := hrel
      go_wp2
      go_ret
      exact ⟨by rw [HT.out]; rfl, Below.refl _ _⟩
  · obtain ⟨g, o, rfl, hg, hc⟩ := hz.cells (by omega)
    have HC := Lib.hid hc
    have HZ := Lib.hid hz.1
    have HB := Lib.hid hby
    clear hc hz hby
    go_enter Try.func23, Try.ntmps23
    go_wp2
    go_loopw [7] (fun i wr => ∃ k : Nat, k < n ∧ i = .int .i64 k ∧ Hid (∀ j, j < k → z.getD j 0 < z.getD (j + 1) 0) ∧ Below w.heap.size w wr) (fun i _ => n - (intOf i).toNat)
    case atStart => exact ⟨0, by omega, rfl, Lib.hid (by intro j hj; omega), Below.refl _ _⟩
    case round =>
      obtain ⟨k, hk, rfl, hj, hb⟩ := hrel
      by_cases hlt : k + 1 < n
      · have c0 := HC.out wr hb k hk
        have c1 := HC.out wr hb (k + 1) hlt
        obtain ⟨x0, hx0⟩ : ∃ x, x = z.getD k 0 := ⟨_, rfl⟩
        obtain ⟨x1, hx1⟩ : ∃ x, x = z.getD (k + 1) 0 := ⟨_, rfl⟩
        have b0 := HB.out x0 (by rw [hx0]; exact getD_mem (by rw [HZ.out]; omega))
        have b1 := HB.out x1 (by rw [hx1]; exact getD_mem (by rw [HZ.out]; omega))
        rw [← hx0] at c0
        rw [← hx1] at c1
        have HX0 := Lib.hid hx0
        have HX1 := Lib.hid hx1
        clear hx0 hx1
        have e1 : (k : Int) + 1 < n := by omega
        have e2 : (k : Int) < n := by omega
        have e3 : IntKind.i64.wrap ((k : Int) + 1) = ((k + 1 : Nat) : Int) := IntWalk.i64_in _ (by omega)
        by_cases hle : x0 < x1
        · go_wp2
          go_quiet (fail)
          go_wp2
          go_roundw
          case rel => exact ⟨k + 1, hlt, by go_num, Lib.hid (fun j hjk => by
            rcases Nat.lt_or_ge j k with h | h
            · exact hj.out j h
            · obtain rfl : j = k := by omega
              rw [← HX0.out, ← HX1.out]; exact hle), below_drewN hb _⟩
          case measure => simp [intOf]; omega
        · go_wp2
          go_quiet (fail)
          go_wp2
          go_ret
          exact ⟨by rw [rises_false HZ.out hlt (by rw [← HX0.out, ← HX1.out]; omega)]; rfl, below_drewN hb _⟩
      · go_wp2
        go_ret
        exact ⟨by rw [rises_true HZ.out hj.out (by omega)]; rfl, hb⟩
set_option maxHeartbeats 1000000 in
theorem rrises_any (A : Option Addr) (n m : Nat) (z : List Int) (w : World) (hz : Us w A n z) (hn : n ≤ 1000000) (hby : ∀ x ∈ z, 0 ≤ x ∧ x < 18446744073709551616) :
    Calls Try.prog 22 #[.slice A n m] w (BPost (.bool (risesB z)) w) := by
  unfold BPost
  by_cases hn0 : n = 0
  · subst hn0
    have HT := Lib.hid (rises_true (n := 0) (k := 0) hz.1 (by intro j hj; omega) (by omega))
    go_enter Try.func22, Try.ntmps22
    go_wp2
    go_loopw [3] (fun i wr => i = .int .i64 0 ∧ wr = w) (fun i _ => 0)
    case atStart => exact ⟨rfl, rfl⟩
    case round =>
      obtain ⟨rfl, rfl⟩ := hrel
      go_wp2
      go_ret
      exact ⟨by rw [HT.out]; rfl, Below.refl _ _⟩
  · obtain ⟨g, o, rfl, hg, hc⟩ := hz.cells (by omega)
    have HC := Lib.hid hc
    have HZ := Lib.hid hz.1
    have HB := Lib.hid hby
    clear hc hz hby
    go_enter Try.func22, Try.ntmps22
    go_wp2
    go_loopw [3] (fun i wr => ∃ k : Nat, k < n ∧ i = .int .i64 k ∧ Hid (∀ j, j < k → z.getD j 0 < z.getD (j + 1) 0) ∧ Below w.heap.size w wr) (fun i _ => n - (intOf i).toNat)
    case atStart => exact ⟨0, by omega, rfl, Lib.hid (by intro j hj; omega), Below.refl _ _⟩
    case round =>
      obtain ⟨k, hk, rfl, hj, hb⟩ := hrel
      by_cases hlt : k + 1 < n
      · have c0 := HC.out wr hb k hk
        have c1 := HC.out wr hb (k + 1) hlt
        obtain ⟨x0, hx0⟩ : ∃ x, x = z.getD k 0 := ⟨_, rfl⟩
        obtain ⟨x1, hx1⟩ : ∃ x, x = z.getD (k + 1) 0 := ⟨_, rfl⟩
        have b0 := HB.out x0 (by rw [hx0]; exact getD_mem (by rw [HZ.out]; omega))
        have b1 := HB.out x1 (by rw [hx1]; exact getD_mem (by rw [HZ.out]; omega))
        rw [← hx0] at c0
        rw [← hx1] at c1
        have HX0 := Lib.hid hx0
        have HX1 := Lib.hid hx1
        clear hx0 hx1
        have e1 : (k : Int) + 1 < n := by omega
        have e2 : (k : Int) < n := by omega
        have e3 : IntKind.i64.wrap ((k : Int) + 1) = ((k + 1 : Nat) : Int) := IntWalk.i64_in _ (by omega)
        by_cases hle : x0 < x1
        · go_wp2
          go_quiet (fail)
          go_wp2
          go_roundw
          case rel => exact ⟨k + 1, hlt, by go_num, Lib.hid (fun j hjk => by
            rcases Nat.lt_or_ge j k with h | h
            · exact hj.out j h
            · obtain rfl : j = k := by omega
              rw [← HX0.out, ← HX1.out]; exact hle), below_drewN hb _⟩
          case measure => simp [intOf]; omega
        · go_wp2
          go_quiet (fail)
          go_wp2
          go_ret
          exact ⟨by rw [rises_false HZ.out hlt (by rw [← HX0.out, ← HX1.out]; omega)]; rfl, below_drewN hb _⟩
      · go_wp2
        go_ret
        exact ⟨by rw [rises_true HZ.out hj.out (by omega)]; rfl, hb⟩
end Go.Proofs.Ytccbgoddalbbaaa.Cur
