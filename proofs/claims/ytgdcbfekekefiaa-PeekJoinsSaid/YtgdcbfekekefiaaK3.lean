/- K3: PenA PenB PenC -/
import Derived.Test.YtgdcbfekekefiaaK1
import Derived.WalkKit
import Derived.WalkSpells
import Derived.WalkLawsBesides
import Derived.Lib.Hide
import Derived.Deep.QuietTactic
import Derived.BigQuiet
import Derived.IntWalk
import Derived.Outline
/- The contracts of the writer's functions (package pen), first part: what a writer is in memory; New, Code, Fail, Len, Room, fits. -/
/- The contracts of the writer's functions (package pen), second part: Put, Text, Bytes. -/
/- The contracts of the writer's functions (package pen), third part: the lowest bytes of a number (Fixed). -/
namespace Go.Proofs.Ytgdcbfekekefiaa.Cur
open Go.RowKit Mem
set_option linter.unusedVariables false

/-- The writer's blocks. -/
def WS (b : Nat) (r : Option Nat) (k : Nat) : Prop := k = b ∨ r = some k

theorem Ks.wr {w w1 w2 : World} {b : Nat} {r r1 : Option Nat} (h : Ks (WS b r) w w1) (g : Gr r r1 w) (k : Ks (WS b r1) w1 w2) : Ks (WS b r) w w2 :=
  h.trans' k fun i hi hs => by
    rcases hs with rfl | e
    · exact .inl rfl
    · rcases g with rfl | ⟨j, rfl, hj⟩
      · exact .inr e
      · injection e with e; omega
/-- Do n more bytes fit, and which code is there then? -/
def fitsB (M c : Int) (l : Nat) (n : Int) : Bool := decide (c = 0 ∧ n ≤ M - l)
def fitsC (M c : Int) (l : Nat) (n : Int) : Int := if c = 0 ∧ M - l < n then 2 else c
end Go.Proofs.Ytgdcbfekekefiaa.Cur

namespace Go.Proofs.Ytgdcbfekekefiaa.Cur
open Go.RowKit Mem
set_option linter.unusedVariables false

/-- What is there behind a Put of y, and which code. -/
def putZ (z y : List Int) (M c : Int) : List Int := if c = 0 ∧ (y.length : Int) ≤ M - z.length then z ++ y else z
def putC (z y : List Int) (M c : Int) : Int := fitsC M c z.length y.length
theorem fits_yes {M c : Int} {l : Nat} {n : Int} (h : fitsB M c l n = true) : c = 0 ∧ n ≤ M - l ∧ fitsC M c l n = 0 := by
  unfold fitsB at h
  have := of_decide_eq_true h
  refine ⟨this.1, this.2, ?_⟩
  unfold fitsC
  rw [if_neg (by omega)]
  exact this.1
theorem fits_no {M c : Int} {l : Nat} {n : Int} (h : fitsB M c l n = false) : ¬ (c = 0 ∧ n ≤ M - l) := by
  unfold fitsB at h
  exact of_decide_eq_false h

/-- What Bytes hands back of a writer without a code: a new row. -/
def WBytesPost (z : List Int) (w : World) (e : Ending) (w' : World) : Prop :=
  ∃ g, e = .returned (.tuple #[.slice (some ⟨g, 0, none⟩) z.length z.length, .int .i64 0]) ∧ w.heap.size ≤ g ∧ Below w.heap.size w w' ∧ Blk w' g (z.map (Value.int .u8)).toArray 5

theorem Own.at_block {w : World} {B g n c : Nat} {z : List Int} (h : Own w B (.slice (some ⟨g, 0, none⟩) n c) z) : ∀ j v, (z.map (Value.int .u8))[j]? = some v → w.cell? ((⟨g, 0, none⟩ : Addr).add j) = some v := World.ownsRow.cells h (g := g) rfl

/-- Bytes of whatever writer. -/
def WBytesAny (z : List Int) (c : Int) (w : World) (e : Ending) (w' : World) : Prop :=
  ∃ A n cap, e = .returned (.tuple #[.slice A n cap, .int .i64 c]) ∧ Below w.heap.size w w' ∧ Bs w' A n (if c = 0 then z else []) ∧ (0 < n → ∀ a, A = some a → w.heap.size ≤ a.block)
end Go.Proofs.Ytgdcbfekekefiaa.Cur

namespace Go.Proofs.Ytgdcbfekekefiaa.Cur
open Go.RowKit Mem
set_option linter.unusedVariables false

/-- The k lowest bytes of a number, the lowest first. -/
def fixZ (x : Int) (k : Nat) : List Int := (List.range k).map fun i => x / 256 ^ i % 256
/-- How many bytes: none below 0, at most 8. -/
def fixN (n : Int) : Nat := (if n < 0 then 0 else if n < 8 then n else 8).toNat
theorem fixN_le (n : Int) : fixN n ≤ 8 := by unfold fixN; repeat' split <;> omega
theorem fixZ_length (x : Int) (k : Nat) : (fixZ x k).length = k := by simp [fixZ]
theorem fixZ_succ (x : Int) (k : Nat) : fixZ x (k + 1) = fixZ x k ++ [x / 256 ^ k % 256] := by simp [fixZ, List.range_succ]
theorem fixZ_byte (x : Int) (k : Nat) : ∀ y ∈ fixZ x k, 0 ≤ y ∧ y < 256 := by
  intro y hy
  simp only [fixZ, List.mem_map] at hy
  obtain ⟨i, _, rfl⟩ := hy
  exact ⟨Int.emod_nonneg _ (by omega), Int.emod_lt_of_pos _ (by omega)⟩
/-- The row when j of k bytes are laid. -/
def fixRow (x : Int) (k j : Nat) : Array Value := ((fixZ x j ++ List.replicate (k - j) 0).map (Value.int .u8)).toArray
theorem fixRow_zero (x : Int) (k : Nat) : fixRow x k 0 = madeCells #[.int .u8 0] k := by
  unfold fixRow madeCells
  apply Array.ext
  · simp [fixZ]
  · intro i h1 h2
    simp [fixZ, Nat.mod_one]
theorem fixRow_full (x : Int) (k : Nat) : fixRow x k k = ((fixZ x k).map (Value.int .u8)).toArray := by
  simp [fixRow]
theorem fixRow_at (x : Int) (k j : Nat) (h : j < k) : (fixRow x k j)[j]? = some (.int .u8 0) := by
  have hl : ((fixZ x j).map (Value.int .u8)).length = j := by rw [List.length_map, fixZ_length]
  have hk : 0 < k - j := by omega
  unfold fixRow
  rw [List.map_append, List.getElem?_toArray, List.getElem?_append_right (by omega), hl, Nat.sub_self]
  simp [hk]
theorem fixRow_next (x : Int) (k j : Nat) (h : j < k) : (fixRow x k j).setIfInBounds j (.int .u8 (x / 256 ^ j % 256)) = fixRow x k (j + 1) := by
  unfold fixRow
  rw [show k - j = (k - (j + 1)) + 1 by omega, List.replicate_succ, fixZ_succ]
  simp only [List.setIfInBounds_toArray, List.map_append, List.map_cons]
  congr 1
  rw [List.set_append_right _ _ (by simp [fixZ_length])]
  simp [fixZ_length]

def FixPost (x : Int) (k : Nat) (w : World) (e : Ending) (w' : World) : Prop :=
  ∃ g, e = .returned (.slice (some ⟨g, 0, none⟩) k k) ∧ w.heap.size ≤ g ∧ Below w.heap.size w w' ∧ Blk w' g ((fixZ x k).map (Value.int .u8)).toArray 5

theorem div_next (x : Int) (j : Nat) : x / 256 ^ j / 256 = x / 256 ^ (j + 1) := by
  rw [Int.ediv_ediv_of_nonneg (by exact Int.pow_nonneg (by omega)), Int.pow_succ]
theorem div_bd (x : Int) (j : Nat) (h0 : 0 ≤ x) (h1 : x < 18446744073709551616) : 0 ≤ x / 256 ^ j ∧ x / 256 ^ j < 18446744073709551616 :=
  ⟨Int.ediv_nonneg h0 (Int.pow_nonneg (by omega)), Int.lt_of_le_of_lt (Int.ediv_le_self _ h0) h1⟩


end Go.Proofs.Ytgdcbfekekefiaa.Cur
