/- The least tokens: tables, sizes, the smaller of two steps, the best run. -/
import Derived.Test.YtmflnnfgkcmlhaaLstM
namespace Go.Proofs.Ytmflnnfgkcmlhaa.Cur
open Go.RowKit Go.Shelf Mem
attribute [local go_sem] Oper.semAt_some
set_option linter.unusedVariables false
set_option maxRecDepth 100000


/-! ### Tables of numbers -/
def tbc (K : Nat) (f : Nat → Int) : Array Value := ((List.range K).map fun i => Value.int .i64 (f i)).toArray
theorem tbc_get {K : Nat} {f : Nat → Int} {i : Nat} (h : i < K) : (tbc K f)[i]? = some (.int .i64 (f i)) := by
  unfold tbc
  simp [h]
theorem tbc_set {K : Nat} {f : Nat → Int} (i : Nat) (v : Int) : (tbc K f).setIfInBounds i (.int .i64 v) = tbc K (upd f i v) := by
  unfold tbc
  rw [List.setIfInBounds_toArray]
  congr 1
  apply List.ext_getElem?
  intro j
  rw [List.getElem?_set, List.length_map, List.length_range, List.getElem?_map, List.getElem?_map]
  unfold upd
  by_cases hj : i = j
  · subst hj
    by_cases hK : i < K
    · simp [hK]
    · simp [hK]
  · rw [if_neg hj]
    by_cases hK : j < K
    · simp [hK, show ¬ j = i from fun e => hj e.symm]
    · simp [hK]
theorem tbc_made (K : Nat) : madeCells #[.int .i64 0] K = tbc K (fun _ => 0) := by
  unfold madeCells tbc
  apply Array.ext_getElem?
  intro i
  by_cases h : i < K
  · simp [h, Nat.mod_one]
  · simp [h]
theorem tbc_made3 (K : Nat) : madeCells #[.int .i64 0, .int .i64 0, .int .i64 0] K = tbc K (fun _ => 0) := by
  unfold madeCells tbc
  apply Array.ext_getElem?
  intro i
  by_cases h : i < K
  · have h3 : i % 3 = 0 ∨ i % 3 = 1 ∨ i % 3 = 2 := by omega
    rcases h3 with h3 | h3 | h3 <;> simp [h, h3]
  · simp [h]

/-! ### Sizes -/
theorem vsz_small {x : Int} (h : x < 128) : vsz x = 1 := by
  show (if x < 128 then 1 else _) = 1
  exact if_pos h
abbrev sv (s o n : Int) : Value := .agg #[.int .i64 s, .int .i64 o, .int .i64 n]
theorem copysize_any (o n : Int) (w : World) (h1 : 1 ≤ o) (h2 : o ≤ 64) (h3 : 4 ≤ n) (h4 : n ≤ 64) :
    Calls Try.prog 103 #[.int .i64 o, .int .i64 n] w fun e w' => e = .returned (.int .i64 2) ∧ w = w' := by
  have e1 : IntKind.i64.wrap (n - 4) = n - 4 := IntWalk.i64_in _ (by omega)
  have e2 : IntKind.u64.wrap (n - 4) = n - 4 := IntWalk.u64_in _ (by omega)
  have e3 : IntKind.u64.wrap (2 * (n - 4)) = 2 * (n - 4) := IntWalk.u64_in _ (by omega)
  have e4 : IntKind.u64.wrap (2 * (n - 4) + 1) = 2 * (n - 4) + 1 := IntWalk.u64_in _ (by omega)
  have e5 : IntKind.i64.wrap (o - 1) = o - 1 := IntWalk.i64_in _ (by omega)
  have e6 : IntKind.u64.wrap (o - 1) = o - 1 := IntWalk.u64_in _ (by omega)
  have s1 := vsz_small (x := 2 * (n - 4) + 1) (by omega)
  have s2 := vsz_small (x := o - 1) (by omega)
  have H1 := vsize_any (2 * (n - 4) + 1) w (by omega) (by omega)
  have H2 := vsize_any (o - 1) w (by omega) (by omega)
  rw [s1] at H1
  rw [s2] at H2
  clear s1 s2
  go_enter Try.func103, Try.ntmps103
  go_wp2_with fail
  refine H1.mono ?_
  rintro e w' ⟨rfl, rfl⟩
  go_wp2_with fail
  refine H2.mono ?_
  rintro e w' ⟨rfl, rfl⟩
  go_wp2
  go_ret
  exact ⟨rfl, rfl⟩
theorem runsize_any (n : Int) (w : World) (h3 : 1 ≤ n) (h4 : n ≤ 60) :
    Calls Try.prog 104 #[.int .i64 n] w fun e w' => e = .returned (.int .i64 (n + 1)) ∧ w = w' := by
  have e1 : IntKind.i64.wrap (n - 1) = n - 1 := IntWalk.i64_in _ (by omega)
  have e2 : IntKind.u64.wrap (n - 1) = n - 1 := IntWalk.u64_in _ (by omega)
  have e3 : IntKind.u64.wrap (2 * (n - 1)) = 2 * (n - 1) := IntWalk.u64_in _ (by omega)
  have e4 : IntKind.i64.wrap (1 + n) = n + 1 := (IntWalk.i64_in _ (by omega)).trans (by omega)
  have s1 := vsz_small (x := 2 * (n - 1)) (by omega)
  have H1 := vsize_any (2 * (n - 1)) w (by omega) (by omega)
  rw [s1] at H1
  clear s1
  go_enter Try.func104, Try.ntmps104
  go_wp2_with fail
  refine H1.mono ?_
  rintro e w' ⟨rfl, rfl⟩
  go_wp2
  go_ret
  exact ⟨by rw [show n + 1 = 1 + n by omega]; rfl, rfl⟩
/-- The smaller of two steps; of equally good ones the first. -/
def lss (x y : Int × Int × Int) : Int × Int × Int := if y.1 < x.1 then y else x
abbrev s3 (t : Int × Int × Int) : Value := sv t.1 t.2.1 t.2.2
theorem less_any (s o n s2 o2 n2 : Int) (w : World) :
    Calls Try.prog 74 #[sv s o n, sv s2 o2 n2] w fun e w' => e = .returned (s3 (lss (s, o, n) (s2, o2, n2))) ∧ Below w.heap.size w w' := by
  unfold lss
  by_cases h : s2 < s
  · rw [if_pos h]
    go_enter Try.func74, Try.ntmps74
    go_wp2
    refine bodyPost_ret (v := sv s2 o2 n2) (by simp [results, Try.results74, go_sem]) rfl ⟨rfl, ?_⟩
    exact ((((Below.refl _ _).alloc (Nat.le_refl _) _).alloc (by simp) _).alloc (by simp; omega) _)
  · rw [if_neg h]
    go_enter Try.func74, Try.ntmps74
    go_wp2
    refine bodyPost_ret (v := sv s o n) (by simp [results, Try.results74, go_sem]) rfl ⟨rfl, ?_⟩
    exact ((((Below.refl _ _).alloc (Nat.le_refl _) _).alloc (by simp) _).alloc (by simp; omega) _)

/-! ### The best of a row of steps -/
def stf (g : Nat → Int) (o : Int) (lo : Nat) : Nat → Int × Int × Int
  | 0 => (2048, 0, 0)
  | j + 1 => lss (stf g o lo j) (g (lo + j), o, ((lo + j : Nat) : Int))
theorem stf_fst (g : Nat → Int) (o : Int) (lo : Nat) : ∀ j, (stf g o lo j).1 = mn g lo j 2048
  | 0 => rfl
  | j + 1 => by
    rw [stf, mn, ← stf_fst g o lo j, lss]
    split
    · simp only; omega
    · omega
theorem stf_is (g : Nat → Int) (o : Int) (lo : Nat) : ∀ j, (stf g o lo j = (2048, 0, 0) ∨ ∃ i, i < j ∧ stf g o lo j = (g (lo + i), o, ((lo + i : Nat) : Int)))
  | 0 => .inl rfl
  | j + 1 => by
    rw [stf, lss]
    split
    · exact .inr ⟨j, by omega, rfl⟩
    · rcases stf_is g o lo j with h | ⟨i, hi, h⟩
      · exact .inl h
      · exact .inr ⟨i, by omega, h⟩
end Go.Proofs.Ytmflnnfgkcmlhaa.Cur
