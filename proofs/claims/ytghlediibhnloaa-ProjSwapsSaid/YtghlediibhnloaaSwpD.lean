/- A node in the place of another one: Index and SortFunc at numbers. -/
import Derived.Test.YtghlediibhnloaaSwpC
import Derived.Test.YtghlediibhnloaaSrtU
import Derived.Test.YtghlediibhnloaaSortLay
import Derived.Shelf.SlSortCmp.Whole1
namespace Go.Proofs.Ytghlediibhnloaa.Cur
open Go.RowKit Mem Go.Sort
set_option linter.unusedVariables false
set_option maxRecDepth 100000

theorem isnanu_any (x : Int) (w : World) : Calls Try.prog 117 #[.int .u64 x] w fun e w' => e = .returned (.bool false) ∧ w = w' := by
  go_enter Try.func117, Try.ntmps117
  go_wp2
  go_ret
  exact ⟨rfl, rfl⟩
theorem compareu_any (x y : Int) (w : World) : Calls Try.prog 103 #[.int .u64 x, .int .u64 y] w fun e w' => e = .returned (.int .i64 (Lib.compareInt x y)) ∧ w = w' := by
  by_cases h1 : x < y
  · have hv : Lib.compareInt x y = -1 := by unfold Lib.compareInt; simp [h1]
    generalize Lib.compareInt x y = v at hv
    go_enter Try.func103, Try.ntmps103
    go_wp2_with fail
    refine (isnanu_any _ _).mono ?_
    rintro e w' ⟨rfl, rfl⟩
    go_wp2_with fail
    refine (isnanu_any _ _).mono ?_
    rintro e w' ⟨rfl, rfl⟩
    go_wp2
    go_ret
    first | exact ⟨rfl, rfl⟩ | exact ⟨by rw [hv]; rfl, rfl⟩
  · by_cases h2 : y < x
    · have hv : Lib.compareInt x y = 1 := by unfold Lib.compareInt; simp [h1, h2]
      generalize Lib.compareInt x y = v at hv
      go_enter Try.func103, Try.ntmps103
      go_wp2_with fail
      refine (isnanu_any _ _).mono ?_
      rintro e w' ⟨rfl, rfl⟩
      go_wp2_with fail
      refine (isnanu_any _ _).mono ?_
      rintro e w' ⟨rfl, rfl⟩
      go_wp2
      go_ret
      first | exact ⟨rfl, rfl⟩ | exact ⟨by rw [hv]; rfl, rfl⟩
    · have hv : Lib.compareInt x y = 0 := by unfold Lib.compareInt; simp [h1, h2]
      generalize Lib.compareInt x y = v at hv
      go_enter Try.func103, Try.ntmps103
      go_wp2_with fail
      refine (isnanu_any _ _).mono ?_
      rintro e w' ⟨rfl, rfl⟩
      go_wp2_with fail
      refine (isnanu_any _ _).mono ?_
      rintro e w' ⟨rfl, rfl⟩
      go_wp2
      go_ret
      first | exact ⟨rfl, rfl⟩ | exact ⟨by rw [hv]; rfl, rfl⟩
abbrev ucmp (x y : Int) : Int := Lib.compareInt x y
theorem ult (x y : Int) : ltOf ucmp x y = decide (x < y) := by
  unfold ltOf ucmp Lib.compareInt
  by_cases h1 : x < y
  · simp [h1]
  · by_cases h2 : y < x <;> simp [h1, h2]
theorem uswo : SWO (ltOf ucmp) where
  irrefl x := by rw [ult]; simp
  trans x y z h1 h2 := by rw [ult] at *; simp at *; omega
  ntrans x y z h1 h2 := by rw [ult] at *; simp at *; omega
theorem uclos (x y : Int) (W : World) : Calls Try.prog 102 #[.int .u64 x, .int .u64 y] W fun e w' => e = .returned (.int .i64 (ucmp x y)) ∧ ∃ q os', w' = grow (W.drewN q) os' := by
  have hcon := fun W' => compareu_any x y W'
  show Calls Try.prog 102 _ W fun e w' => e = .returned (.int .i64 (Lib.compareInt x y)) ∧ _
  generalize Lib.compareInt x y = r at hcon ⊢
  go_enter Try.func102, Try.ntmps102
  go_wp2_with fail
  refine (hcon _).mono ?_
  rintro e w' ⟨rfl, rfl⟩
  go_wp2
  go_ret
  exact ⟨rfl, 0, #[], by cases W; simp [grow, World.drewN]⟩
theorem ulays (blk off size : Nat) (w : World) : CmpLays1 Try.prog 102 #[] eu ucmp blk off size w := fun _ _ _ _ x y => uclos x y _

def USortPost (B : Nat) (v : Value) (z : List Int) (w : World) (e : Ending) (w' : World) : Prop :=
  e = .returned (.tuple #[]) ∧ ∃ z' : List Int, z'.Perm z ∧ z'.Pairwise (· ≤ ·) ∧ OwnU w' B v z' ∧ Ks (fun k => v.ownBlock = some k) w w'
theorem usort_any {w : World} {B : Nat} {v : Value} {z : List Int} {g : Nat} (hv : v.ownBlock = some g) (ho : OwnU w B v z) (hn : z.length ≤ 1000000) :
    Calls Try.prog 101 #[v, .func (.func 102) #[] #[]] w (USortPost B v z w) := by
  have hcp := ho
  unfold OwnU at hcp
  rcases ho.2 with ⟨rfl, h0⟩ | ⟨g, c, cur, rfl, hB, hh, hcap, hmax, hsz, htk⟩
  · cases hv
  · have eg : ∀ args w, (callFunc 102 args).run Try.prog w = .ok (.enter 102 args) w := enters_of Try.func102 (by kernel_rfl) rfl
    have hcon := Any.slices_SortFunc Try.sortNums eu (fun x => rfl) ucmp uswo 102 #[] g 0 c z.toArray w eg (ulays g 0 _ w) (holds_ownU hcp) (lt_of_block hh) (by simp; omega)
    change Calls Try.prog 101 #[.slice (some ⟨g, 0, none⟩) (z.toArray.size : Nat) c, _] w _ at hcon
    rw [List.size_toArray] at hcon
    refine hcon.mono ?_
    rintro e w' ⟨rfl, d', m, os, hp, hs, rfl⟩
    obtain ⟨p1, _, p2⟩ := hp
    have hlen : d'.toList.length = z.length := by simpa using p1
    have e1 : d'.extract 0 z.length = d' := by rw [show z.length = d'.size by simpa using hlen.symm]; exact Array.extract_size
    have e2 : z.toArray.extract 0 z.length = z.toArray := by have := Array.extract_size (xs := z.toArray); rw [List.size_toArray] at this; exact this
    rw [e1, e2] at p2
    refine ⟨rfl, d'.toList, p2, ?_, ?_, ?_⟩
    · rw [List.pairwise_iff_getElem]
      intro i j hi hj hij
      have := hs i j (Nat.zero_le _) hij (by rw [hlen] at hj; simpa using hj)
      rw [ult, decide_eq_false_iff_not] at this
      have ei : d'[i]! = d'.toList[i] := by
        rw [getElem!_pos d' i (by simpa using hi)]; simp
      have ej : d'[j]! = d'.toList[j] := by
        rw [getElem!_pos d' j (by simpa using hj)]; simp
      rw [ei, ej] at this
      omega
    · have := own_sortedU (m := m) hcp d'.toList hlen os
      rw [Array.toArray_toList] at this
      exact this
    · have := ks_sortedU (w := w) (g := g) (m := m) (d := d') (os := os)
      exact ⟨this.os, this.tape, this.output, this.size, fun k hk hne => this.block k hk (fun e => hne (by subst e; rfl))⟩

def IxPost (z : List Int) (x : Int) (w : World) (e : Ending) (w' : World) : Prop := ∃ r : Int, e = .returned (.int .i64 r) ∧ w = w' ∧ ((∃ j : Nat, r = j ∧ z[j]? = some x) ∨ (r = -1 ∧ z.contains x = false))
set_option maxHeartbeats 1000000 in
theorem index_any (A : Option Addr) (n m : Nat) (z : List Int) (x : Int) (w : World) (hz : Us w A n z) (hn : n ≤ 1000000) : Calls Try.prog 100 #[.slice A n m, .int .u64 x] w (IxPost z x w) := by
  have HZ := Lib.hid hz
  have HL := Lib.hid hz.1
  clear hz
  go_enter Try.func100, Try.ntmps100
  go_wp2
  go_loopw [8] (fun i wr => ∃ k : Nat, k ≤ n ∧ i = .int .i64 k ∧ Hid (∀ j, j < k → z.getD j 0 ≠ x) ∧ wr = w) (fun i _ => n - (intOf i).toNat)
  case atStart => exact ⟨0, by omega, rfl, Lib.hid (by intro j hj; omega), rfl⟩
  case round =>
    obtain ⟨k, hk, rfl, hj, hw⟩ := hrel
    subst hw
    by_cases hlt : k < n
    · obtain ⟨g, o, rfl, c0⟩ := HZ.out.at_ hlt
      have e2 : (k : Int) < n := by omega
      have e3 : IntKind.i64.wrap ((k : Int) + 1) = ((k + 1 : Nat) : Int) := IntWalk.i64_in _ (by omega)
      obtain ⟨y, hy⟩ : ∃ y, y = z.getD k 0 := ⟨_, rfl⟩
      rw [← hy] at c0
      have HY := Lib.hid hy
      clear hy
      by_cases hxy : x = y
      · have hb : (x == y) = true := by simpa using hxy
        have HX := Lib.hid hxy
        clear hxy
        go_wp2
        go_ret
        refine ⟨k, rfl, rfl, .inl ⟨k, rfl, ?_⟩⟩
        have hkl : k < z.length := by rw [HL.out]; exact hlt
        have h9 := HY.out
        rw [List.getD_eq_getElem?_getD, List.getElem?_eq_getElem hkl, Option.getD_some] at h9
        rw [List.getElem?_eq_getElem hkl, HX.out, h9]
      · have hb : (x == y) = false := by simpa using hxy
        have HX := Lib.hid hxy
        clear hxy
        go_wp2
        go_roundw
        case rel => exact ⟨k + 1, by omega, by go_num, Lib.hid (fun j hjk => by
          rcases Nat.lt_or_ge j k with h | h
          · exact hj.out j h
          · obtain rfl : j = k := by omega
            rw [← HY.out]; exact fun e => HX.out e.symm), by trivial⟩
        case measure => simp [intOf]; omega
    · obtain rfl : k = n := by omega
      have HN : Hid (z.contains x = false) := Lib.hid (by
        rw [List.contains_eq_mem, decide_eq_false_iff_not]
        intro hm
        obtain ⟨j, hj2, e⟩ := List.mem_iff_getElem.1 hm
        refine hj.out j (by rw [← HL.out]; exact hj2) ?_
        rw [List.getD_eq_getElem?_getD, List.getElem?_eq_getElem hj2]; exact e)
      go_wp2
      go_ret
      exact ⟨-1, rfl, rfl, .inr ⟨rfl, HN.out⟩⟩
end Go.Proofs.Ytghlediibhnloaa.Cur
