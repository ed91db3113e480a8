/- Links: are they more than are gone through; the document's example. -/
import Derived.Test.YtbdelphocjdiiaaK35
namespace Go.Proofs.Ytbdelphocjdiiaa.Cur
open Go.RowKit Mem
set_option linter.unusedVariables false
set_option maxRecDepth 100000


def LgLPost (n : Nat) (L : List Lk) (w : World) (e : Ending) (w' : World) : Prop := ∃ b, e = .returned (.bool b) ∧ Below w.heap.size w w' ∧ (b = false → n ≤ 50 ∧ blen 50 L)
set_option maxHeartbeats 2000000 in
theorem long23_any (P : Nat → Prop) (A : Option Addr) (n m : Nat) (L : List Lk) (w : World) (hz : Lks w P A n L) :
    Calls Try.prog 7 #[.slice A n m] w (LgLPost n L w) := by
  have HL := Lib.hid hz.1
  have HC := Lib.hid (fun h => hz.cells h)
  clear hz
  go_enter Try.func7, Try.ntmps7
  go_wp2
  go_loopw [3] (fun i wr => ∃ k : Nat, k ≤ n ∧ k ≤ 50 ∧ i = .int .i64 k ∧ Hid (∀ j, j < k → (L.getD j lk0).2.length ≤ 50) ∧ Below w.heap.size w wr) (fun i _ => 50 - (intOf i).toNat)
  case atStart => exact ⟨0, by omega, by omega, rfl, Lib.hid (by intro j hj; omega), Below.refl _ _⟩
  case round =>
    obtain ⟨k, hk, hk50, rfl, hj, hbd⟩ := hrel
    by_cases hlt : k < n
    · have e1 : (k : Int) < n := by omega
      by_cases h50 : k < 50
      · have e2 : (k : Int) < 50 := by omega
        obtain ⟨g, o, rfl, _, hg, hc⟩ := HC.out (by omega)
        obtain ⟨x, z, a, l, mm, he, _, hl, _, _, _, _, _, _, hcell⟩ := hc k hlt
        obtain ⟨c0, c1⟩ := hcell wr hbd
        have HLL : Hid ((L.getD k lk0).2.length = l) := Lib.hid (by rw [he]; exact hl)
        have e3 : IntKind.i64.wrap ((k : Int) + 1) = ((k + 1 : Nat) : Int) := IntWalk.i64_in _ (by omega)
        clear hc hl hcell he
        by_cases hl2 : 50 < (l : Int)
        · go_wp2
          go_ret
          exact ⟨true, rfl, hbd, fun h => by cases h⟩
        · have HL3 : Hid (l ≤ 50) := Lib.hid (by omega)
          go_wp2
          go_roundw
          case rel => exact ⟨k + 1, by omega, by omega, by go_num, Lib.hid (fun j hjk => by
            rcases Nat.lt_or_ge j k with h | h
            · exact hj.out j h
            · obtain rfl : j = k := by omega
              rw [HLL.out]; exact HL3.out), hbd⟩
          case measure => simp [intOf]; omega
      · have e2 : ¬ (k : Int) < 50 := by omega
        have e3 : 50 < (n : Int) := by omega
        go_wp2
        go_ret
        exact ⟨true, rfl, hbd, fun h => by cases h⟩
    · obtain rfl : k = n := by omega
      have e3 : ¬ 50 < (k : Int) := by omega
      have HN : Hid (blen 50 L) := Lib.hid fun l hl => by
        obtain ⟨j, hj2, e⟩ := List.mem_iff_getElem.1 hl
        have := hj.out j (by rw [← HL.out]; exact hj2)
        rw [List.getD_eq_getElem?_getD, List.getElem?_eq_getElem hj2, Option.getD_some, e] at this
        exact this
      go_wp2
      go_ret
      exact ⟨false, rfl, hbd, fun _ => ⟨hk50, HN.out⟩⟩

set_option maxHeartbeats 2000000 in
theorem live23_any (w : World) : Calls Try.prog 8 #[] w fun e w' => e = .returned (.bool true) ∧ Below w.heap.size w w' := by
  have P1 : Hid (lkok 10 [(0, [9, 3])] = true) := Lib.hid (by decide +kernel)
  have P2 : Hid (puts (lkis 10 [(0, [9, 3])] 1) [] 9 0 = ([1, 0, 2, 0, 5], 0)) := Lib.hid (by decide +kernel)
  have hu1 := us_new w [9, 3] 22
  have hb1 := below_one w (.cells #[.int .u64 9, .int .u64 3] 22)
  have hs1 : (w.alloc (.cells #[.int .u64 9, .int .u64 3] 22)).heap.size = w.heap.size + 1 := by simp
  have hX2 := Blk.new (w.alloc (.cells #[.int .u64 9, .int .u64 3] 22)) (lkc 0 (some ⟨w.heap.size, 0, none⟩) 2 2) 53
  have hb2 := below_one (w.alloc (.cells #[.int .u64 9, .int .u64 3] 22)) (.cells (lkc 0 (some ⟨w.heap.size, 0, none⟩) 2 2) 53)
  have hs2 : ((w.alloc (.cells #[.int .u64 9, .int .u64 3] 22)).alloc (.cells (lkc 0 (some ⟨w.heap.size, 0, none⟩) 2 2) 53)).heap.size = w.heap.size + 2 := by simp
  rw [hs1] at hX2
  have hu2 := hu1.below hb2
  have hbd2 := hb1.trans (hb2.mono hb1.size)
  clear hu1 hb1 hb2 hs1
  go_enter Try.func8, Try.ntmps8
  go_wp2_with fail
  generalize (w.alloc (.cells #[.int .u64 9, .int .u64 3] 22)).alloc (.cells (lkc 0 (some ⟨w.heap.size, 0, none⟩) 2 2) 53) = w2 at *
  with_reducible refine (wnew_any 9 w2 (by omega)).mono ?_
  rintro e w3 ⟨b, rfl, hbb, hb3, hw3⟩
  rw [if_neg (by omega)] at hw3
  have hX3 := hX2.below hb3
  have hu3 := hu2.below hb3
  have hbd3 := hbd2.trans (hb3.mono hbd2.size)
  have hs3 : w.heap.size + 2 ≤ w3.heap.size := by have := hb3.size; omega
  obtain ⟨x0, x1⟩ := hX3.c2
  have hQ4 := Blk.new w3 (lkc 0 (some ⟨w.heap.size, 0, none⟩) 2 2) 53
  have hb4 := below_one w3 (.cells (lkc 0 (some ⟨w.heap.size, 0, none⟩) 2 2) 53)
  have hw4 := hw3.below hb4
  have hX4 := hX3.below hb4
  have hu4 := hu3.below hb4
  have hbd4 := hbd3.trans (hb4.mono hbd3.size)
  have hoff : ∀ b', (b' = w.heap.size ∨ b' = w3.heap.size ∨ b' = w.heap.size + 1) → ¬ WS b none b' := fun b' h => by
    rcases h with rfl | rfl | rfl
    · exact hw3.off_lt (by omega)
    · exact hw3.off (Nat.le_refl _)
    · exact hw3.off_lt (by omega)
  have hlk : Lks (w3.alloc (.cells (lkc 0 (some ⟨w.heap.size, 0, none⟩) 2 2) 53)) (fun b' => b' = w.heap.size ∨ b' = w3.heap.size ∨ b' = w.heap.size + 1) (some ⟨w3.heap.size, 0, none⟩) 1 [(0, [9, 3])] := lks_of_cells rfl (.inr (.inl rfl)) fun i hi => by
    obtain rfl : i = 0 := by omega
    exact ⟨_, _, ⟨hQ4.cell 0 rfl, hQ4.cell 1 rfl⟩, LkE.mk (by omega) rfl (by decide) (fun e => by cases e) (hu4.sq (by decide) fun _ ad ha => by injection ha with ha; subst ha; exact .inl rfl)⟩
  go_wp2_with fail
  with_reducible refine (lput_yes _ 10 _ 1 _ _ hw4 hlk (by omega) (by omega) P1.out (fun b' h _ => hoff b' h) (by simp) (by simp; omega)).mono ?_
  rintro e w5 ⟨r5, rfl, hk5, hg5, hw5⟩
  rw [P2.out] at hw5
  have hX5 := hX4.ks hk5 (hoff _ (.inr (.inr rfl)))
  have hu5 := hu4.ks hk5 (fun _ ad ha => by injection ha with ha; subst ha; exact hoff _ (.inl rfl))
  have hbd5 := hw4.belowOf hbd4 (Nat.le_refl _) hk5 (by omega)
  clear hlk hoff hk5 hg5 hw4 hX4 hu4 hQ4 hb4 hbd4 hX3 hu3 hw3 hb3 x0 x1 hbd3 hX2 hu2 hs2 hbd2
  go_wp2_with fail
  with_reducible refine (wbytes_good hw5 (by simp)).mono ?_
  rintro e w6 ⟨g, rfl, hg, hb6, hblk⟩
  have hX6 := hX5.below hb6
  have hu6 := hu5.below hb6
  have hbd6 := hbd5.trans (hb6.mono hbd5.size)
  have hq1 := (Bs.of_block (z := [1, 0, 2, 0, 5]) hblk).below (below_one w6 (.cells #[.int .u8 1, .int .u8 0, .int .u8 2, .int .u8 0, .int .u8 5] 5))
  have hq2 := bs_new w6 [1, 0, 2, 0, 5] 5
  have hb7 := below_one w6 (.cells #[.int .u8 1, .int .u8 0, .int .u8 2, .int .u8 0, .int .u8 5] 5)
  have hX7 := hX6.below hb7
  have hu7 := hu6.below hb7
  have hbd7 := hbd6.trans (hb7.mono hbd6.size)
  obtain ⟨x0, x1⟩ := hX7.c2
  clear hX5 hX6 hu5 hu6 hbd5 hbd6 hw5 hb6 hb7 hblk hg
  go_wp2_with fail
  refine (same_any _ _ _ _ _ _ [1, 0, 2, 0, 5] _ hq1 hq2).mono ?_
  rintro e w8 ⟨rfl, rfl⟩
  clear hq1 hq2
  have hxc := lextend_any 0 _ 2 2 [9, 3] 10 _ (by omega) hu7 (by decide) (by omega) (fun e => by cases e) (by omega) (by omega) (by omega)
  rw [show ext 10 (0, [9, 3]) = (0, [10, 9, 3]) from rfl] at hxc
  unfold LOwPost at hxc
  dsimp only [List.length_cons, List.length_nil] at hxc
  go_wp2_with fail
  with_reducible refine hxc.mono ?_
  rintro e w9 ⟨A9, m9, rfl, hb9, hel⟩
  have hbd9 := hbd7.trans (hb9.mono hbd7.size)
  obtain ⟨A', m', hc, _, _, _, hus9, _, _, _⟩ := link_parts hel
  have hfl : ∀ w', (Instr.field 53 (lkagg 0 A9 3 m9) 1).run Try.prog w' = .ok (.slice A9 3 m9) w' := fun w' => by kernel_rfl
  have hus9' : Us w9 A9 3 [10, 9, 3] := by
    injection hc with hc1 hc2
    injection hc2 with hc2 hc3
    injection hc2 with hc4 hc5 hc6
    subst hc4
    exact hus9
  have hn := us_new w9 [10, 9, 3] 22
  have hb10 := below_one w9 (.cells #[.int .u64 10, .int .u64 9, .int .u64 3] 22)
  have hbd10 := hbd9.trans (hb10.mono hbd9.size)
  have hcon := rsame5_gen A9 _ 3 3 m9 3 [10, 9, 3] [10, 9, 3] _ (hus9'.below hb10) hn (by omega) (by omega)
  rw [show decide (([10, 9, 3] : List Int) = [10, 9, 3]) = true by decide] at hcon
  unfold BPost at hcon
  clear hel hus9 hus9' hn hb9 hb10 hbd7 hX7 hu7 x0 x1 hc
  go_wp2_with fail
  with_reducible refine hcon.mono ?_
  rintro e w11 ⟨rfl, hb11⟩
  go_wp2
  go_ret
  exact ⟨rfl, hbd10.trans (hb11.mono hbd10.size)⟩
end Go.Proofs.Ytbdelphocjdiiaa.Cur
