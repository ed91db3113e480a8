/- Chains: the document's example. -/
import Derived.Test.YtibooihekjdpfaaChnF
import Derived.Lib.SmallJoins
namespace Go.Proofs.Ytibooihekjdpfaa.Cur
open Go.RowKit Mem
set_option linter.unusedVariables false
set_option maxRecDepth 100000

abbrev z13 : List Int := [97, 98, 99, 100, 97, 98, 99, 100, 97, 98, 99, 100]
theorem z13_nr : (nrs z13 12 8).take (9 : Int).toNat = [4, 0] := by decide +kernel
theorem z13_kc : kct z13 12 = 4 := by decide +kernel
theorem z13_by : ∀ x ∈ z13, 0 ≤ x ∧ x < 256 := by decide
theorem bs_mark (w : World) (z : List Int) (t : Nat) (m : Nat × Nat) : Bs (w.alloc (.cells (z.map (Value.int .u8)).toArray t m)) (some ⟨w.heap.size, 0, none⟩) z.length z :=
  ⟨rfl, fun _ => ⟨_, 0, rfl, fun i x hx => by rw [cell_of_row _ _ _ _ _ _ (heap_alloc_new w _), Nat.zero_add]; simp [hx]⟩⟩
set_option maxHeartbeats 2000000 in
theorem live13_any (w : World) : Calls Try.prog 7 #[] w (BPost (.bool true) w) := by
  unfold BPost
  have hcv := Go.Joins.run_convert_bytes_const_at (P := Try.prog) w 22 5 #[.int .u8 97, .int .u8 98, .int .u8 99, .int .u8 100, .int .u8 97, .int .u8 98, .int .u8 99, .int .u8 100, .int .u8 97, .int .u8 98, .int .u8 99, .int .u8 100] 12 12 w.heap.size rfl Try.underlying22 Try.underlying5
  have hbs : Bs (w.alloc (.cells #[.int .u8 97, .int .u8 98, .int .u8 99, .int .u8 100, .int .u8 97, .int .u8 98, .int .u8 99, .int .u8 100, .int .u8 97, .int .u8 98, .int .u8 99, .int .u8 100] 5 (12, 13))) (some ⟨w.heap.size, 0, none⟩) 12 z13 := bs_mark w z13 5 (12, 13)
  have hb0 := below_one w (.cells #[.int .u8 97, .int .u8 98, .int .u8 99, .int .u8 100, .int .u8 97, .int .u8 98, .int .u8 99, .int .u8 100, .int .u8 97, .int .u8 98, .int .u8 99, .int .u8 100] 5 (12, 13))
  go_enter Try.func7, Try.ntmps7
  go_wp2_with fail
  refine (chnew_any (m := 12) hbs (by omega)).mono ?_
  rintro e w2 ⟨c, mb, A', m', rfl, hc, hb2⟩
  have hbd := hb0.trans (hb2.mono hb0.size)
  have hBW := hb0.size
  clear hcv
  generalize w.alloc (.cells #[.int .u8 97, .int .u8 98, .int .u8 99, .int .u8 100, .int .u8 97, .int .u8 98, .int .u8 99, .int .u8 100, .int .u8 97, .int .u8 98, .int .u8 99, .int .u8 100] 5 (12, 13)) = w1 at *
  clear hb0 hbs
  go_wp2_with fail
  refine (chaddto_any 20 hc z13_by (by omega) hb2.size).mono ?_
  rintro e w3 ⟨r3, rfl, hc3, hk3, hg3⟩
  have e12 : tgt 0 12 20 = 12 := rfl
  rw [e12] at hc3 ⊢
  have hbd3 := hk3.below hbd (Nat.le_refl _) (fun k hk => Nat.le_trans hBW (hc.ge k hk))
  clear hb2 hbd hk3 hg3 e12 hc
  go_wp2_with fail
  refine (near_any 8 9 hc3 z13_by (by omega) (by omega)).mono ?_
  rintro e w4 ⟨v4, rfl, ho4, hb4⟩
  rw [z13_nr] at ho4
  obtain ⟨A4, c4, rfl⟩ := ho4.slice
  have hc4 := hc3.below hb4
  have hbd4 := hbd3.trans (hb4.mono hbd3.size)
  have hA := below_one w4 (.cells #[.int .i64 4, .int .i64 0] 3)
  have hr1 := (own_rw (own_below ho4 hA) rfl).2.2.2
  have hr2 := rw_newg w4 [.int .i64 4, .int .i64 0] 3
  have hc5 := hc4.below hA
  have hbd5 := hbd4.trans (hA.mono hbd4.size)
  clear hb4 hc3 hbd3 ho4 hc4 hbd4 hA
  go_wp2_with fail
  refine (ints_same (l := [4, 0]) (c' := 2) hr1 hr2 (by simp)).mono ?_
  rintro e w6 ⟨rfl, q6, rfl⟩
  have hd := below_drewN (Below.refl (w4.alloc (.cells #[.int .i64 4, .int .i64 0] 3)).heap.size (w4.alloc (.cells #[.int .i64 4, .int .i64 0] 3))) q6
  have hc6 := hc5.below hd
  have hbd6 := hbd5.trans (hd.mono hbd5.size)
  clear hr1 hr2 hc5 hbd5 hd
  go_wp2_with fail
  refine (chkeys_any hc6).mono ?_
  rintro e w7 ⟨rfl, rfl⟩
  rw [z13_kc]
  clear hc6
  go_wp2
  go_ret
  exact ⟨rfl, hbd6⟩
end Go.Proofs.Ytibooihekjdpfaa.Cur
