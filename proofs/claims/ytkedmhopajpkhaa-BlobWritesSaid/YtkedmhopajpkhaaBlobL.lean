/- The document's example for blobs is as it says (live). -/
import Derived.Test.YtkedmhopajpkhaaBlobM
import Derived.Test.YtkedmhopajpkhaaBlobD
namespace Go.Proofs.Ytkedmhopajpkhaa.Cur
open Go.RowKit Mem
set_option linter.unusedVariables false

theorem bs_new (w : World) (z : List Int) (t : Nat) : Bs (w.alloc (.cells (z.map (Value.int .u8)).toArray t)) (some ⟨w.heap.size, 0, none⟩) z.length z := Bs.of_block (heap_alloc_new _ _)
theorem us_new (w : World) (z : List Int) (t : Nat) : Us (w.alloc (.cells (uv z).toArray t)) (some ⟨w.heap.size, 0, none⟩) z.length z := ⟨rfl, rw_new w (uv z) t⟩
theorem Us.kp_rd {w w' : World} {A : Option Addr} {n : Nat} {z : List Int} {b : Nat} {s : Value} {p c q : Int} (h : Us w A n z) (hr : IsRd w b s p c q) (hs : ∀ x, s ≠ .int .u64 x) (hb : Kp b w w') : Us w' A n z :=
  ⟨h.1, fun hn => by
    obtain ⟨k, o, e, hc⟩ := h.2 hn
    refine ⟨k, o, e, fun i v hi => ?_⟩
    have hci := hc i v hi
    obtain ⟨x, _, rfl⟩ : ∃ x, z[i]? = some x ∧ Value.int .u64 x = v := by
      rw [List.getElem?_map, Option.map_eq_some_iff] at hi
      exact hi
    have hne : k ≠ b := Blk.ne_of_cell (w := w) (b := b) (v0 := s) hr hci (hs x) (by simp) (by simp) (by simp)
    exact (World.cell?_of_block (w := w) (hb.block k (lt_of_cell hci) hne)).trans hci⟩
theorem Wr.off_lt {w : World} {B b : Nat} {r : Option Nat} {z : List Int} {M c : Int} (h : Wr w B b r z M c) {g : Nat} (hg : g < B) : ¬ WS b r g := fun hs => by have := WS.ge h g hs; omega
theorem puts_list {l z : List Int} {M : Int} (h : (z.length : Int) + (lz l).length ≤ M) : puts (litems l) z M 0 = (z ++ lz l, 0) := puts_fits h
theorem puts_blob {y z : List Int} {n : Nat} {M : Int} (h : (z.length : Int) + (vz n ++ y).length ≤ M) : puts [vz n, y] z M 0 = (z ++ (vz n ++ y), 0) := by
  have := puts_fits (xs := [vz n, y]) (z := z) (M := M) (by simpa using h)
  simpa using this
theorem lz_len {l : List Int} {n : Nat} (h : l.length = n) : (lz l).length ≤ 10 * n + 10 := by
  have := lzk_len l l.length
  rwa [← lz_eq, h] at this
/-- A row that lies above all that was there is none of a writer's. -/
theorem Wr.off {w : World} {B b : Nat} {r : Option Nat} {z : List Int} {M c : Int} (h : Wr w B b r z M c) {g : Nat} (hg : w.heap.size ≤ g) : ¬ WS b r g := by
  have h1 := h.lt
  obtain ⟨v, rfl, _, ho, _⟩ := h
  rintro (e | e)
  · omega
  · have := ho.lt g e; omega
set_option maxHeartbeats 1000000 in
theorem live6_any (w : World) :
    Calls Try.prog 7 #[] w fun e w' => e = .returned (.bool true) ∧ Below w.heap.size w w' := by
  have p1 : puts [vz ((2 : Nat) : Int), [7, 8]] [] 9 0 = ([2, 7, 8], 0) := by decide +kernel
  have p2 : puts (litems [300, 1]) [2, 7, 8] 9 0 = ([2, 7, 8, 2, 172, 2, 1], 0) := by decide +kernel
  have P1 := Lib.hid p1
  have P2 := Lib.hid p2
  clear p1 p2
  go_enter Try.func7, Try.ntmps7
  go_wp2_with fail
  refine (wnew_any 9 w (by omega)).mono ?_
  rintro e w1 ⟨b, rfl, hbb, hb1, hw1⟩
  rw [if_neg (by omega)] at hw1
  have hbs := bs_new w1 [7, 8] 5
  have hb2 := hb1.alloc hb1.size (.cells #[.int .u8 7, .int .u8 8] 5)
  have hw2 := hw1.below (below_one w1 (.cells #[.int .u8 7, .int .u8 8] 5))
  have hoff : 0 < 2 → ∀ a, some (⟨w1.heap.size, 0, none⟩ : Addr) = some a → ¬ WS b none a.block := fun _ a ha => by
    injection ha with ha
    subst ha
    exact hw1.off (Nat.le_refl _)
  clear hw1
  go_wp2_with fail
  refine (bput_any _ 2 _ hw2 hbs (by simp) hoff (by simp) hb2.size).mono ?_
  rintro e w3 ⟨r3, rfl, hk3, hg3, hw3⟩
  have hb3 := hw2.belowOf hb2 (Nat.le_refl _) hk3 (Nat.le_refl _)
  rw [P1.out] at hw3
  clear hbs hw2 hk3 hg3 hb2 hoff hb1
  have hus := us_new w3 [300, 1] 48
  have hb4 := hb3.alloc hb3.size (.cells #[.int .u64 300, .int .u64 1] 48)
  have hw4 := hw3.below (below_one w3 (.cells #[.int .u64 300, .int .u64 1] 48))
  have hoff : 0 < 2 → ∀ a, some (⟨w3.heap.size, 0, none⟩ : Addr) = some a → ¬ WS b r3 a.block := fun _ a ha => by
    injection ha with ha
    subst ha
    exact hw3.off (Nat.le_refl _)
  clear hw3
  go_wp2_with fail
  refine (bputlist_any _ 2 _ [300, 1] hw4 hus hoff (by omega) (by simp) (by simp) hb4.size).mono ?_
  rintro e w5 ⟨r5, rfl, hk5, hg5, hw5⟩
  have hb5 := hw4.belowOf hb4 (Nat.le_refl _) hk5 (Nat.le_refl _)
  rw [P2.out] at hw5
  clear hus hw4 hk5 hg5 hb4 hoff hb3
  go_wp2_with fail
  refine (wbytes_good hw5 (by simp)).mono ?_
  rintro e w6 ⟨g, rfl, hg, hb6, hblk⟩
  have hb7 := hb5.trans (hb6.mono hb5.size)
  have hs1 := (Bs.of_block (z := [2, 7, 8, 2, 172, 2, 1]) hblk).below (below_one w6 (.cells #[.int .u8 2, .int .u8 7, .int .u8 8, .int .u8 2, .int .u8 172, .int .u8 2, .int .u8 1] 5))
  have hs2 := bs_new w6 [2, 7, 8, 2, 172, 2, 1] 5
  go_wp2_with fail
  refine (same_any _ _ _ _ _ _ [2, 7, 8, 2, 172, 2, 1] _ hs1 hs2).mono ?_
  rintro e w8 ⟨rfl, rfl⟩
  go_wp2
  go_ret
  exact ⟨rfl, hb7.alloc hb7.size _⟩
end Go.Proofs.Ytkedmhopajpkhaa.Cur
