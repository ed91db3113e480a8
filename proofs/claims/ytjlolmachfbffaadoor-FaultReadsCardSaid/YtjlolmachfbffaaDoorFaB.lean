/- The document's Digits: the decimal numeral of any number. -/
import Derived.Test.YtjlolmachfbffaaDoorFaA
import Derived.Lib.ItoaNum
import Derived.Laws.BytesArg
import Derived.Deep.RegionHeld3
import Derived.Deep.RegionWith
import Derived.Deep.CutRange
import Derived.Outline
import Derived.IntWalk
namespace Go.Proofs.YtjlolmachfbffaaDoor.Fa
open Go.RowKit Mem
set_option linter.unusedVariables false

theorem dig_small {u : Nat} (h : u < 10) : Lib.decDigits u = [UInt8.ofNat (48 + u)] := by rw [Lib.decDigits, dif_pos h]
theorem dig_big {u : Nat} (h : ¬ u < 10) : Lib.decDigits u = Lib.decDigits (u / 10) ++ [UInt8.ofNat (48 + u % 10)] := by rw [Lib.decDigits, dif_neg h]
theorem itoa_neg {n : Int} (h : n < 0) : Lib.itoa n = 45 :: Lib.decDigits n.natAbs := by rw [Lib.itoa, if_pos h]
theorem itoa_pos {n : Int} (h : ¬ n < 0) : Lib.itoa n = Lib.decDigits n.toNat := by rw [Lib.itoa, if_neg h]

theorem dec_len (u : Nat) : (Lib.decDigits u).length ≤ u + 1 := by
  induction u using Nat.strongRecOn with
  | ind u ih =>
    by_cases h : u < 10
    · rw [dig_small h]; simp
    · rw [dig_big h, List.length_append]
      have := ih (u / 10) (by omega)
      simp
      omega
theorem itoa_len (n : Int) : (Lib.itoa n).length ≤ n.natAbs + 2 := by
  by_cases h : n < 0
  · rw [itoa_neg h]; have := dec_len n.natAbs; simp; omega
  · rw [itoa_pos h]; have := dec_len n.toNat; omega
theorem quo_neg {n : Int} (h : n ≤ -10) : n.tdiv 10 ≤ -1 ∧ n ≤ 10 * n.tdiv 10 ∧ -9 ≤ n.tmod 10 ∧ n.tmod 10 ≤ 0 := by
  obtain ⟨m, rfl⟩ : ∃ m : Nat, n = -(m : Int) := ⟨n.natAbs, by omega⟩
  have h1 : (-(m : Int)).tdiv 10 = -((m / 10 : Nat) : Int) := by rw [Int.neg_tdiv]; rfl
  have h2 : (-(m : Int)).tmod 10 = -((m % 10 : Nat) : Int) := by rw [Int.neg_tmod]; rfl
  rw [h1, h2]
  omega
def DigPost (s : List UInt8) (w : World) (e : Ending) (w' : World) : Prop := e = .returned (.string ⟨s.toArray⟩) ∧ Below w.heap.size w w'

/-- One byte as a string. -/
theorem conv_one (w : World) (x : Int) :
    (convert 47 9 (.slice (some ⟨w.heap.size, 0, none⟩) 1 1)).run Tryd.prog (w.alloc (.cells #[.int .u8 x] 5)) = .ok (.string (strOfNums [x])) (w.alloc (.cells #[.int .u8 x] 5)) := by
  rw [run_convert_bytes_string _ 47 9 5 _ 1 1 Tryd.underlying47 Tryd.underlying5 Tryd.underlying9, run_bytesToString _ _ 1 1 [x], foldl_push_bytes]
  · simp [strOfNums, ByteArray.empty, ByteArray.emptyWithCapacity]
    rfl
  · have := run_loadCells_list (P := Tryd.prog) (w.alloc (.cells #[.int .u8 x] 5)) ⟨w.heap.size, 0, none⟩ [.int .u8 x] (fun j v hj => by
      have hb := Blk.new w #[.int .u8 x] 5
      have hj0 : j = 0 := by have := (List.getElem?_eq_some_iff.1 hj).1; simpa using this
      subst hj0
      simp at hj
      subst hj
      exact hb.cell 0 rfl)
    simpa using this

theorem str_one (x : Int) (u : Nat) (h : x = u) : strOfNums [x] = ⟨#[UInt8.ofNat u]⟩ := by
  subst h
  simp [strOfNums]
theorem itoa_step_pos {n : Int} (h : 10 ≤ n) : Lib.itoa n = Lib.itoa (n / 10) ++ [UInt8.ofNat (48 + (n % 10).toNat)] := by
  rw [itoa_pos (by omega), itoa_pos (by omega), dig_big (by omega)]
  congr 2
  · congr 1; omega
  · congr 1; omega
theorem itoa_step_neg {n : Int} (h : n ≤ -10) : Lib.itoa n = Lib.itoa (n.tdiv 10) ++ [UInt8.ofNat (48 + (-(n.tmod 10)).toNat)] := by
  obtain ⟨m, rfl⟩ : ∃ m : Nat, n = -(m : Int) := ⟨n.natAbs, by omega⟩
  have h1 : (-(m : Int)).tdiv 10 = -((m / 10 : Nat) : Int) := by rw [Int.neg_tdiv]; rfl
  have h2 : (-(m : Int)).tmod 10 = -((m % 10 : Nat) : Int) := by rw [Int.neg_tmod]; rfl
  rw [h1, h2, itoa_neg (by omega), itoa_neg (by omega), dig_big (by omega)]
  simp only [List.cons_append, List.cons.injEq, true_and]
  congr 2
  · congr 1; omega
  · congr 1; omega
theorem conv_at (W : World) (g : Nat) (x : Int) (h : W.cell? ⟨g, 0, none⟩ = some (.int .u8 x)) :
    (convert 47 9 (.slice (some ⟨g, 0, none⟩) 1 1)).run Tryd.prog W = .ok (.string (strOfNums [x])) W := by
  rw [run_convert_bytes_string _ 47 9 5 _ 1 1 Tryd.underlying47 Tryd.underlying5 Tryd.underlying9, run_bytesToString _ _ 1 1 [x], foldl_push_bytes]
  · simp [strOfNums, ByteArray.empty, ByteArray.emptyWithCapacity]
    rfl
  · have := run_loadCells_list (P := Tryd.prog) W ⟨g, 0, none⟩ [.int .u8 x] (fun j v hj => by
      have hj0 : j = 0 := by have := (List.getElem?_eq_some_iff.1 hj).1; simpa using this
      subst hj0
      simp at hj
      subst hj
      exact h)
    simpa using this

set_option maxRecDepth 100000 in
set_option maxHeartbeats 1000000 in
theorem digits_small_pos (n : Int) (w : World) (h0 : 0 ≤ n) (h1 : n < 10) : Calls Tryd.prog 15 #[.int .i64 n] w (DigPost (Lib.itoa n) w) := by
  have hc := conv_one
  have hfin : strOfNums [48 + n % 10] = ⟨(Lib.itoa n).toArray⟩ := by
    rw [itoa_pos (by omega), dig_small (by omega), str_one _ (48 + n.toNat) (by omega)]
  have HF := Lib.hid hfin
  clear hfin
  go_enter Tryd.func15, Tryd.ntmps15
  go_wp2
  go_ret
  exact ⟨congrArg (fun s => Ending.returned (Value.string s)) HF.out, below_one _ _⟩

theorem app_one (a : List UInt8) (x : Int) (u : Nat) (h : x = u) : (⟨a.toArray⟩ : ByteArray) ++ strOfNums [x] = ⟨(a ++ [UInt8.ofNat u]).toArray⟩ := by
  rw [str_one x u h]
  apply str_inj
  rw [ByteArray.toList_eq, ByteArray.toList_eq, ByteArray.data_append]
  simp

set_option maxRecDepth 100000 in
set_option maxHeartbeats 1000000 in
theorem digits_small_neg (n : Int) (w : World) (h0 : n < 0) (h1 : -10 < n) : Calls Tryd.prog 15 #[.int .i64 n] w (DigPost (Lib.itoa n) w) := by
  have hc := conv_one
  have hfin : (⟨#[45]⟩ : ByteArray) ++ strOfNums [48 - n] = ⟨(Lib.itoa n).toArray⟩ := by
    rw [itoa_neg h0, dig_small (by omega)]
    exact app_one [45] _ _ (by omega)
  have HF := Lib.hid hfin
  clear hfin
  go_enter Tryd.func15, Tryd.ntmps15
  go_wp2
  go_ret
  exact ⟨congrArg (fun s => Ending.returned (Value.string s)) HF.out, below_one _ _⟩

set_option maxRecDepth 100000 in
set_option maxHeartbeats 1000000 in
theorem digits_big_pos (n : Int) (w : World) (h0 : 10 ≤ n) (hn : n ≤ 9223372036854775807) (ih : ∀ w, Calls Tryd.prog 15 #[.int .i64 (n / 10)] w (DigPost (Lib.itoa (n / 10)) w)) : Calls Tryd.prog 15 #[.int .i64 n] w (DigPost (Lib.itoa n) w) := by
  have hc := conv_one
  have IH := Lib.hid ih
  clear ih
  have hfin : (⟨(Lib.itoa (n / 10)).toArray⟩ : ByteArray) ++ strOfNums [48 + n % 10] = ⟨(Lib.itoa n).toArray⟩ := by
    rw [itoa_step_pos h0]
    exact app_one _ _ _ (by omega)
  have HF := Lib.hid hfin
  clear hfin
  have hl := itoa_len (n / 10)
  have hsz : ¬ (ByteArray.size (⟨(Lib.itoa (n / 10)).toArray⟩ : ByteArray) + (strOfNums [48 + n % 10]).size > 9223372036854775807) := by
    rw [strOfNums_size]; show ¬ ((Lib.itoa (n / 10)).toArray.size + _ > _); simp; omega
  clear hl
  have hd0 : decide (n < 0) = false := by simp; omega
  have hd1 : decide (n < 10) = false := by simp; omega
  go_enter Tryd.func15, Tryd.ntmps15
  go_wp2_with fail
  refine (IH.out _).mono ?_
  rintro e w1 ⟨rfl, hb⟩
  generalize (⟨(Lib.itoa (n / 10)).toArray⟩ : ByteArray) = t at *
  go_wp2
  go_ret
  exact ⟨congrArg (fun s => Ending.returned (Value.string s)) HF.out, (below_one _ _).trans (hb.mono (by simp))⟩

set_option maxRecDepth 100000 in
set_option maxHeartbeats 1000000 in
theorem digits_big_neg (n : Int) (w : World) (h0 : n ≤ -10) (hn : -9223372036854775808 ≤ n) (ih : ∀ w, Calls Tryd.prog 15 #[.int .i64 (n.tdiv 10)] w (DigPost (Lib.itoa (n.tdiv 10)) w)) : Calls Tryd.prog 15 #[.int .i64 n] w (DigPost (Lib.itoa n) w) := by
  have hc := conv_one
  have hcd := fun (w : World) (x : Int) => conv_at (w.alloc (.cells #[.int .u8 x] 5)).drew w.heap.size x (Blk.new w #[.int .u8 x] 5).drew.c1
  have IH := Lib.hid ih
  clear ih
  have hfin : (⟨(Lib.itoa (n.tdiv 10)).toArray⟩ : ByteArray) ++ strOfNums [48 - n.tmod 10] = ⟨(Lib.itoa n).toArray⟩ := by
    rw [itoa_step_neg h0]
    exact app_one _ _ _ (by have := quo_neg h0; omega)
  have HF := Lib.hid hfin
  clear hfin
  obtain ⟨q0, q1, q2, q3⟩ := quo_neg h0
  have hd0 : decide (n < 0) = true := by simp; omega
  have hd1 : decide (-10 < n) = false := by simp; omega
  have hl := itoa_len (n.tdiv 10)
  have hsz : ¬ (ByteArray.size (⟨(Lib.itoa (n.tdiv 10)).toArray⟩ : ByteArray) + (strOfNums [48 - n.tmod 10]).size > 9223372036854775807) := by
    rw [strOfNums_size]; show ¬ ((Lib.itoa (n.tdiv 10)).toArray.size + _ > _); simp; omega
  clear hl
  have hw1 : IntKind.i64.wrap (n.tdiv 10) = n.tdiv 10 := IntWalk.i64_in _ (by omega)
  have hw2 : IntKind.i64.wrap (48 - n.tmod 10) = 48 - n.tmod 10 := IntWalk.i64_in _ (by omega)
  have hw3 : IntKind.u8.wrap (48 - n.tmod 10) = 48 - n.tmod 10 := IntWalk.u8_in _ (by omega)
  go_enter Tryd.func15, Tryd.ntmps15
  go_wp2_with fail
  go_region_with ((go_at_call 15; go_must (refine (IH.out _).mono ?_; rintro e w1 ⟨rfl, hb⟩; generalize (⟨(Lib.itoa (n.tdiv 10)).toArray⟩ : ByteArray) = tt at *; try (have hcv := conv_at w1 w.heap.size (48 - n.tmod 10) (Blk.below (show Blk _ w.heap.size #[.int .u8 (48 - n.tmod 10)] 5 by exact Blk.new w _ _) hb).c1))))
  all_goals
    go_wp2
    go_ret
    refine ⟨congrArg (fun s => Ending.returned (Value.string s)) HF.out, ?_⟩
    first
      | exact below_of_drew_alloc hb
      | exact (below_of_drew hb).alloc (below_of_drew hb).size _

theorem digits_all : ∀ (k : Nat) (n : Int) (w : World), n.natAbs ≤ k → -9223372036854775808 ≤ n → n ≤ 9223372036854775807 → Calls Tryd.prog 15 #[.int .i64 n] w (DigPost (Lib.itoa n) w) := by
  intro k
  induction k with
  | zero =>
    intro n w hk _ _
    exact digits_small_pos n w (by omega) (by omega)
  | succ k ih =>
    intro n w hk h0 h1
    by_cases hneg : n < 0
    · by_cases hs : -10 < n
      · exact digits_small_neg n w hneg hs
      · obtain ⟨q0, q1, q2, q3⟩ := quo_neg (n := n) (by omega)
        exact digits_big_neg n w (by omega) h0 fun w => ih _ w (by omega) (by omega) (by omega)
    · by_cases hs : n < 10
      · exact digits_small_pos n w (by omega) hs
      · exact digits_big_pos n w (by omega) h1 fun w => ih _ w (by omega) (by omega) (by omega)
theorem digits_any (n : Int) (w : World) (h0 : -9223372036854775808 ≤ n) (h1 : n ≤ 9223372036854775807) : Calls Tryd.prog 15 #[.int .i64 n] w (DigPost (Lib.itoa n) w) :=
  digits_all n.natAbs n w (Nat.le_refl _) h0 h1
end Go.Proofs.YtjlolmachfbffaaDoor.Fa
