/- strings.IndexRune over the sixteen signs: a valid rune over 127 is not among them; whatever the rune. -/
import Derived.Test.YtogfjejodoefeaaDoorWrdG
import Derived.Test.YtogfjejodoefeaaDoorK1

namespace Go.Proofs.YtogfjejodoefeaaDoor.Cur
open Go.RowKit Mem
set_option linter.unusedVariables false
set_option maxRecDepth 100000

theorem sgn_ne {l c : Nat} (hl : l < 4) (hc : 128 ≤ c) : ¬ sgn l = (c : Int) := by unfold sgn; split <;> omega
set_option maxHeartbeats 4000000 in
theorem idx_good (r : Int) (h0 : 128 ≤ r) (h1 : r ≤ 2147483647) (hr : r ≠ 65533) (hv : Lib.validRune r = true) (w : World) : Calls Tryd.prog 29 #[.string DIG, .int .i32 r] w fun e w' => e = .returned (.int .i64 (-1)) ∧ Below w.heap.size w w' := by
  have HC := valid_any r w
  rw [hv] at HC
  have HC := Lib.hid HC
  obtain ⟨f1, f2, f3⟩ := Go.encode_facts r (by rw [Go.validRune_eq]; exact hv) h0
  have hce : ∀ w, (convert 21 9 (.int .i32 r)).run Tryd.prog w = .ok (.string (Utf8.encode r)) w := fun w => run_convert_int_string w 21 9 .i32 r (by rw [Tryd.underlying21]; rfl) Tryd.underlying9
  generalize Utf8.encode r = E at *
  obtain ⟨l, hl⟩ : ∃ l, E.size = l + 1 := ⟨E.size - 1, by omega⟩
  have hl3 : l < 4 := by omega
  have hl1 : 1 ≤ l := by omega
  have hlt : l < E.size := by omega
  have f4 : 128 ≤ (E[l]'hlt).toNat := by
    have := f3 (by omega)
    simp only [hl, Nat.add_sub_cancel] at this
    exact this
  have hi2 : ∀ w, (Instr.index 9 (.string E) (.int .i64 (l : Int))).run Tryd.prog w = .ok (.int .u8 ((E[l]'hlt).toNat : Int)) w := fun w => by
    rw [run_index_string _ _ _ _ _ Tryd.underlying9, dif_pos ⟨by omega, by omega⟩]
    rfl
  have hi1 : ∀ w, (Instr.index 9 (.string DIG) (.int .i64 (l : Int))).run Tryd.prog w = .ok (.int .u8 (sgn l)) w := fun w => by
    have : l = 1 ∨ l = 2 ∨ l = 3 := by omega
    rcases this with rfl | rfl | rfl <;> (rw [run_index_string _ _ _ _ _ Tryd.underlying9]; rfl)
  have f5 : (E[l]'hlt).toNat < 256 := (E[l]'hlt).toNat_lt
  clear f3
  generalize (E[l]'hlt).toNat = c at *
  have hne := sgn_ne hl3 f4
  generalize sgn l = q at *
  have HB : Hid (∀ w, Calls Tryd.prog 34 #[.string (DIG.extract (l + 1) 16), .int .u8 (c : Int)] w fun e w' => e = .returned (.int .i64 (-1)) ∧ w' = w) := Lib.hid (fun w => by
    refine (ibyte_any (DIG.extract (l + 1) 16) c w).mono ?_
    rintro e w' ⟨rfl, rfl⟩
    refine ⟨?_, rfl⟩
    rw [← Lib.firstIdx_eq, Go.firstIdx_ascii DIG _ _ _ dig_low (by simp; omega)])
  have e1 : IntKind.i64.wrap ((l : Int) + 1 - 1) = (l : Int) := by rw [IntWalk.i64_in _ (by omega)]; omega
  have e2 : IntKind.i64.wrap ((l : Int) + 1) = (l : Int) + 1 := by rw [IntWalk.i64_in _ (by omega)]
  go_enter Tryd.func29, Tryd.ntmps29
  go_wp2_with fail
  with_reducible refine HC.out.mono ?_
  rintro e w2 ⟨rfl, rfl⟩
  have HF := Lib.hid (And.intro f1 f2)
  have HL := Lib.hid hl
  have hs : (E.size : Int) = (l : Int) + 1 := by omega
  clear f1 f2 hl hlt
  go_wp2_with fail
  go_step3
  go_wp2_with fail
  have hsl : ∀ w, (Instr.slice 9 (.string DIG) (some (.int .i64 ((l : Int) + 1))) none none).run Tryd.prog w = .ok (.string (DIG.extract (l + 1) 16)) w := fun w => by
    have : l = 1 ∨ l = 2 ∨ l = 3 := by omega
    rcases this with rfl | rfl | rfl <;> rfl
  have hds : (DIG.size : Int) = 16 := rfl
  have hb : (q == (c : Int)) = false := by simpa using hne
  go_loopw [9] (fun v9 wr => v9 = .int .i64 (l : Int) ∧ wr = w2) (fun _ _ => 0)
  case atStart => exact ⟨rfl, rfl⟩
  case round =>
    obtain ⟨rfl, rfl⟩ := hrel
    go_wp2_with fail
    go_step3
    go_wp2_with fail
    have hbn : (q != (c : Int)) = true := by simpa using hne
    have hS : Below wr.heap.size wr wr.drew := (Below.refl wr.heap.size wr).drew
    refine Seq.wp_region_seq (fun w' => Below wr.heap.size wr w') (by kernel_rfl) (by kernel_rfl) hS ?_
    generalize wr.drew = w3 at *
    repeat (first | (refine Seq.Seq.skip (by rfl) ?_; (try simp only [Act.put, List.setIfInBounds_toArray, List.set_cons_zero, List.set_cons_succ])) | (refine Seq.Seq.det ?_ (by rfl) (fun w hS => ?_) ?_; rotate_left; ((try dsimp only at hS); go_simp; (try rw [if_pos (by omega)]); with_reducible rfl); (try simp only [Act.put, List.setIfInBounds_toArray, List.set_cons_zero, List.set_cons_succ])))
    refine Seq.Seq.nil ?_
    go_wp2_with fail
    refine Seq.wp_region_seq (fun w' => Below wr.heap.size wr w') (by kernel_rfl) (by kernel_rfl) hS.drew ?_
    replace hS := hS.drew
    generalize w3.drew = w4 at *
    repeat (first | (refine Seq.Seq.skip (by rfl) ?_; (try simp only [Act.put, List.setIfInBounds_toArray, List.set_cons_zero, List.set_cons_succ])) | (refine Seq.Seq.det ?_ (by rfl) (fun w hS => ?_) ?_; rotate_left; ((try dsimp only at hS); go_simp; (try rw [if_pos (by omega)]); with_reducible rfl); (try simp only [Act.put, List.setIfInBounds_toArray, List.set_cons_zero, List.set_cons_succ])))
    refine Seq.Seq.make (by rfl) (by rfl) (fun K Q' hK => ?_)
    go_simp
    go_at_call 34
    refine (HB.out _).mono ?_
    rintro e w5 ⟨rfl, rfl⟩
    refine hK.out _ _ (hS) ?_
    clear hK K
    try simp only [Act.put, List.setIfInBounds_toArray, List.set_cons_zero, List.set_cons_succ]
    repeat (first | (refine Seq.Seq.skip (by rfl) ?_; (try simp only [Act.put, List.setIfInBounds_toArray, List.set_cons_zero, List.set_cons_succ])) | (refine Seq.Seq.det ?_ (by rfl) (fun w hS => ?_) ?_; rotate_left; ((try dsimp only at hS); go_simp; (try rw [if_pos (by omega)]); with_reducible rfl); (try simp only [Act.put, List.setIfInBounds_toArray, List.set_cons_zero, List.set_cons_succ])))
    refine Seq.Seq.nil ?_
    go_wp2
    simp +zetaDelta only [Exit.noGoto, Exit.inBlock, Exit.then]
    go_ret
    exact ⟨rfl, hS⟩

/-- Whatever the rune. -/
theorem idx_hi (r : Int) (h0 : 128 ≤ r) (h1 : r ≤ 2147483647) (w : World) : Calls Tryd.prog 29 #[.string DIG, .int .i32 r] w fun e w' => e = .returned (.int .i64 (-1)) ∧ Below w.heap.size w w' := by
  by_cases hr : r = 65533
  · subst hr; exact idx_fffd w
  · cases hv : Lib.validRune r
    · exact (idx_bad r h0 h1 hr hv w).mono fun e w' ⟨h, hw⟩ => ⟨h, by rw [hw]; exact Below.refl _ _⟩
    · exact idx_good r h0 h1 hr hv w
end Go.Proofs.YtogfjejodoefeaaDoor.Cur
