/- The walk of the law FaultWords. -/
import Derived.Test.YtjlolmachfbffaaDoorFaC
namespace Go.Proofs.YtjlolmachfbffaaDoor.Fa
open Go.RowKit Mem
set_option linter.unusedVariables false

/-- Whether one of the first k words is this one. -/
def KnownIs (s : ByteArray) (k : Nat) (kn : Bool) : Prop := (kn = true ∧ ∃ j : Nat, j < k ∧ wordB j = s) ∨ (kn = false ∧ ∀ j : Nat, j < k → wordB j ≠ s)

set_option maxRecDepth 100000 in
set_option maxHeartbeats 2000000 in
theorem faultWords_walk (c q : Int) (s : ByteArray) (w : World) (h0 : -9223372036854775808 ≤ q) (h1 : q ≤ 9223372036854775807) (ht : Tab w) :
    Calls Tryd.prog 3 #[.agg #[.int .i64 c, .int .i64 q], .string s] w fun e w' => e = .returned (.bool true) ∧ Below w.heap.size w w' := by
  have hB := Blk.new w #[Value.int .i64 c, .int .i64 q] 24
  have hb0 := below_one w (.cells #[Value.int .i64 c, .int .i64 q] 24)
  obtain ⟨c0, c1⟩ := hB.c2
  have ht0 := tab_keep ht hb0
  go_enter Tryd.func3, Tryd.ntmps3
  go_wp2_with fail
  generalize w.alloc (.cells #[Value.int .i64 c, .int .i64 q] 24) = w0 at *
  go_region_held3 (fun w' => w'.cell? ⟨w.heap.size, 0, none⟩ = some (.int .i64 c) ∧ w'.cell? ⟨w.heap.size, 1, none⟩ = some (.int .i64 q))
    (first
      | go_keep
      | exact s1
      | exact s2
      | exact s3
      | exact s4)
    (first
      | (go_at_call 5; go_must (refine (word_any _ _).mono ?_; rintro e w1 ⟨rfl, hb1⟩; have hB1 := Blk.below (show Blk _ w.heap.size _ _ by exact hB) hb1; have ht1 := tab_keep (show Tab _ by exact ht0) hb1; have s1 := hB1.c2))
      | (go_at_call 6; go_must (refine (refWord_any _ _).mono ?_; rintro e w2 ⟨rfl, hb2⟩; have hB2 := Blk.below (show Blk _ w.heap.size _ _ by exact hB1) hb2; have ht2 := tab_keep (show Tab _ by exact ht1) hb2; have s2 := hB2.c2))
      | (go_at_call 7; go_must (refine (text_any _ _ _ h0 h1 (by exact ht2)).mono ?_; rintro e w3 ⟨rfl, hb3⟩; have hB3 := Blk.below (show Blk _ w.heap.size _ _ by exact hB2) hb3; have ht3 := tab_keep (show Tab _ by exact ht2) hb3; have s3 := hB3.c2))
      | (go_at_call 8; go_must (refine (refText_any _ _ _ h0 h1).mono ?_; rintro e w4 ⟨rfl, hb4⟩; have hB4 := Blk.below (show Blk _ w.heap.size _ _ by exact hB3) hb4; have ht4 := tab_keep (show Tab _ by exact ht3) hb4; have s4 := hB4.c2))
      | fail)
  have b4 : Below w.heap.size w w4 := ((((hb0.trans ((below_of_drew hb1).mono hb0.size)).trans (hb2.mono (hb0.trans ((below_of_drew hb1).mono hb0.size)).size)).trans (hb3.mono ((hb0.trans ((below_of_drew hb1).mono hb0.size)).trans (hb2.mono (hb0.trans ((below_of_drew hb1).mono hb0.size)).size)).size)).trans (hb4.mono (((hb0.trans ((below_of_drew hb1).mono hb0.size)).trans (hb2.mono (hb0.trans ((below_of_drew hb1).mono hb0.size)).size)).trans (hb3.mono ((hb0.trans ((below_of_drew hb1).mono hb0.size)).trans (hb2.mono (hb0.trans ((below_of_drew hb1).mono hb0.size)).size)).size)).size))
  clear hB hb0 c0 c1 ht0 s1 s2 s3 s4 hB1 hB2 hB3 hB4 ht1 ht2 ht3 hb1 hb2 hb3 hb4
  go_wp2_with fail
  refine (find_any _ _).mono ?_
  rintro e w5 ⟨fc, fok, rfl, hb5, hf⟩
  have b5 := b4.trans (hb5.mono b4.size)
  have ht5 := tab_keep ht4 hb5
  have HF := Lib.hid hf
  clear hf b4 ht4 hb5
  go_wp2_with fail
  go_loopw [7, 8] (fun v i wr => ∃ (k : Nat) (kn : Bool), k ≤ 21 ∧ i = .int .i64 k ∧ v = .bool kn ∧ KnownIs s k kn ∧ Below w.heap.size w wr ∧ Tab wr) (fun _ i _ => 21 - (intOf i).toNat)
  case atStart => exact ⟨0, false, by omega, rfl, rfl, .inr ⟨rfl, fun j h => absurd h (by omega)⟩, b5, ht5⟩
  case round =>
    obtain ⟨k, kn, hk, rfl, rfl, hkn, b6, ht6⟩ := hrel
    have HK := Lib.hid hkn
    clear hkn b5 ht5
    by_cases hlt : k < 21
    · have k0 : (0 : Int) ≤ k := by omega
      have k1 : (k : Int) < 21 := by omega
      cases kn
      · go_wp2_with fail
        refine (refWord_any _ _).mono ?_
        rintro e w7 ⟨rfl, hb7⟩
        have b7 := b6.trans (hb7.mono b6.size)
        have ht7 := tab_keep ht6 hb7
        by_cases hs : wordB k = s
        · have HS := Lib.hid hs
          rw [hs]
          clear hs
          have hbe : (s.toList == s.toList) = true := beq_self_eq_true _
          go_wp2
          go_roundw
          case rel => exact ⟨k + 1, true, by omega, by go_num, rfl, .inl ⟨rfl, k, by omega, HS.out⟩, b7, ht7⟩
          case measure => simp [intOf]; omega
        · have hbe := str_ne hs
          have HS := Lib.hid hs
          clear hs
          obtain ⟨t, hwt⟩ : ∃ t, t = wordB k := ⟨_, rfl⟩
          rw [← hwt] at hbe
          rw [← hwt]
          clear hwt
          go_wp2
          go_roundw
          case rel =>
            refine ⟨k + 1, false, by omega, by go_num, rfl, .inr ⟨rfl, fun j hj => ?_⟩, b7, ht7⟩
            rcases HK.out with ⟨h, _⟩ | ⟨_, h⟩
            · cases h
            · by_cases e : j = k
              · subst e; exact HS.out
              · exact h j (by omega)
          case measure => simp [intOf]; omega
      · go_wp2
        go_roundw
        case rel =>
          refine ⟨k + 1, true, by omega, by go_num, rfl, .inl ⟨rfl, ?_⟩, b6, ht6⟩
          rcases HK.out with ⟨_, j, hj, e⟩ | ⟨h, _⟩
          · exact ⟨j, by omega, e⟩
          · cases h
        case measure => simp [intOf]; omega
    · obtain rfl : k = 21 := by omega
      rcases HF.out with ⟨rfl, f0, f1, fw⟩ | ⟨rfl, rfl, fno⟩
      · obtain rfl : kn = true := by
          rcases HK.out with ⟨h, _⟩ | ⟨_, h⟩
          · exact h
          · exact absurd (by rw [Int.toNat_of_nonneg f0]; exact fw) (h fc.toNat (by omega))
        have FW := Lib.hid fw
        clear fw
        have hbe : (s.toList == s.toList) = true := beq_self_eq_true _
        go_wp2_with fail
        refine (refWord_any _ _).mono ?_
        rintro e w7 ⟨rfl, hb7⟩
        rw [FW.out]
        have b7 := b6.trans (hb7.mono b6.size)
        have ht7 := tab_keep ht6 hb7
        go_wp2_with fail
        refine (live_any _ ht7).mono ?_
        rintro e w8 ⟨rfl, hb8⟩
        go_wp2
        go_ret
        exact ⟨rfl, b7.trans (hb8.mono b7.size)⟩
      · obtain rfl : kn = false := by
          rcases HK.out with ⟨_, j, hj, e⟩ | ⟨h, _⟩
          · exact absurd e (fno j hj)
          · exact h
        clear fno
        go_wp2_with fail
        refine (live_any _ ht6).mono ?_
        rintro e w8 ⟨rfl, hb8⟩
        go_wp2
        go_ret
        exact ⟨rfl, b6.trans (hb8.mono b6.size)⟩
end Go.Proofs.YtjlolmachfbffaaDoor.Fa
