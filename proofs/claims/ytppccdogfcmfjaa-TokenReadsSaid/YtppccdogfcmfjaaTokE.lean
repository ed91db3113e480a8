/- Two lists of tokens told the same or not, by the program and by the document. -/
import Derived.Test.YtppccdogfcmfjaaTokB
import Derived.Test.YtppccdogfcmfjaaK1
namespace Go.Proofs.Ytppccdogfcmfjaa.Cur
open Go.RowKit Mem
set_option linter.unusedVariables false


set_option maxHeartbeats 400000 in
theorem beq_any (A B : Option Addr) (n m c d : Nat) (y z : List Int) (w : World) (ha : Bs w A n y) (hb : Bs w B m z) (hy : ∀ x ∈ y, 0 ≤ x ∧ x < 256) (hz : ∀ x ∈ z, 0 ≤ x ∧ x < 256) :
    Calls Try.prog 55 #[.slice A n c, .slice B m d] w fun e w' => e = .returned (.bool (decide (y = z))) ∧ w = w' := by
  have h1 := run_convert_bs c ha
  have h2 := run_convert_bs d hb
  have hs : ((strOfNums y).toList == (strOfNums z).toList) = decide (y = z) := by
    by_cases h : y = z
    · subst h; simp
    · rw [decide_eq_false h, beq_eq_false_iff_ne]
      exact fun e => h (strOfNums_inj hy hz (bstr_inj e))
  generalize strOfNums y = s at *
  generalize strOfNums z = t at *
  generalize decide (y = z) = r at *
  clear hy hz ha hb
  go_enter Try.func55, Try.ntmps55
  go_wp2
  go_ret
  exact ⟨rfl, rfl⟩

set_option maxHeartbeats 1000000 in
theorem tequal_any (A B : Option Addr) (n m c d : Nat) (s t : Tk) (w : World) (ha : Bs w A n s.1) (hb : Bs w B m t.1) (hs : tkok s) (ht : tkok t) :
    Calls Try.prog 42 #[tv A n c s.2.1 s.2.2, tv B m d t.2.1 t.2.2] w fun e w' => e = .returned (.bool (decide (s = t))) ∧ Below w.heap.size w w' := by
  obtain ⟨y, o, l⟩ := s
  obtain ⟨z, o', l'⟩ := t
  simp only at ha hb ⊢
  have hy := hs.1
  have hz := ht.1
  simp only at hy hz
  have hX := Blk.new w #[.slice A n c, .int .i64 o, .int .i64 l] 28
  have hX2 := hX.alloc (.cells #[.slice B m d, .int .i64 o', .int .i64 l'] 28)
  have hY := Blk.new (w.alloc (.cells #[.slice A n c, .int .i64 o, .int .i64 l] 28)) #[.slice B m d, .int .i64 o', .int .i64 l'] 28
  have hsz : (w.alloc (.cells #[.slice A n c, .int .i64 o, .int .i64 l] 28)).heap.size = w.heap.size + 1 := by simp
  rw [hsz] at hY
  have hB := below_two w (.cells #[.slice A n c, .int .i64 o, .int .i64 l] 28) (.cells #[.slice B m d, .int .i64 o', .int .i64 l'] 28)
  have HA := Lib.hid (ha.below hB)
  have HB := Lib.hid (hb.below hB)
  have HY := Lib.hid hy
  have HZ := Lib.hid hz
  clear hs ht hX hsz ha hb hy hz
  by_cases h1 : o = o'
  · subst h1
    by_cases h2 : l = l'
    · subst h2
      have E : Hid (decide ((y, o, l) = (z, o, l)) = decide (y = z)) := Lib.hid (by simp)
      go_enter Try.func42, Try.ntmps42
      obtain ⟨x0, x1, x2⟩ := hX2.c3
      obtain ⟨y0, y1, y2⟩ := hY.c3
      go_wp2_with fail
      refine (beq_any A B n m c d y z _ HA.out HB.out HY.out HZ.out).mono ?_
      rintro e w1 ⟨rfl, rfl⟩
      go_wp2
      go_ret
      exact ⟨by rw [E.out]; rfl, hB⟩
    · have E : Hid (decide ((y, o, l) = (z, o, l')) = false) := Lib.hid (by simp [h2])
      have hb2 : (l == l') = false := by simpa using h2
      clear h2
      go_enter Try.func42, Try.ntmps42
      obtain ⟨x0, x1, x2⟩ := hX2.c3
      obtain ⟨y0, y1, y2⟩ := hY.c3
      go_wp2
      go_ret
      exact ⟨by rw [E.out]; rfl, hB⟩
  · have E : Hid (decide ((y, o, l) = (z, o', l')) = false) := Lib.hid (by simp [h1])
    have hb1 : (o == o') = false := by simpa using h1
    clear h1
    go_enter Try.func42, Try.ntmps42
    obtain ⟨x0, x1, x2⟩ := hX2.c3
    obtain ⟨y0, y1, y2⟩ := hY.c3
    go_wp2
    go_ret
    exact ⟨by rw [E.out]; rfl, hB⟩

/-- Lists that differ at a place. -/
theorem ne_of_at {S T : List Tk} {k : Nat} (h : S.getD k tk0 ≠ T.getD k tk0) : S ≠ T := fun e => h (by rw [e])
theorem eq_of_all {S T : List Tk} (hl : S.length = T.length) (h : ∀ j, j < S.length → S.getD j tk0 = T.getD j tk0) : S = T := by
  refine List.ext_getElem hl fun i h1 h2 => ?_
  have := h i h1
  rwa [List.getD_eq_getElem?_getD, List.getD_eq_getElem?_getD, List.getElem?_eq_getElem h1, List.getElem?_eq_getElem h2] at this


set_option maxHeartbeats 1000000 in
theorem tfun_any (A B : Option Addr) (n m c d : Nat) (S T : List Tk) (w : World) (hn : n ≤ 1000000) (hS : TksL w A n S) (hT : TksL w B m T) (hos : ∀ t ∈ S, tkok t) (hot : ∀ t ∈ T, tkok t) :
    Calls Try.prog 41 #[.slice A n c, .slice B m d, .func (.func 42) #[] #[]] w fun e w' => e = .returned (.bool (decide (S = T))) ∧ Below w.heap.size w w' := by
  have HS := Lib.hid hS
  have HT := Lib.hid hT
  have HOS := Lib.hid hos
  have HOT := Lib.hid hot
  clear hS hT hos hot
  by_cases hl : n = m
  · subst hl
    go_enter Try.func41, Try.ntmps41
    go_wp2
    go_loopw [17] (fun i wr => ∃ k : Nat, k ≤ n ∧ i = .int .i64 k ∧ Below w.heap.size w wr ∧ Hid (∀ j, j < k → S.getD j tk0 = T.getD j tk0)) (fun i _ => n - (intOf i).toNat)
    case atStart => exact ⟨0, by omega, rfl, Below.refl _ _, Lib.hid fun j hj => absurd hj (by omega)⟩
    case round =>
      obtain ⟨k, hk, rfl, hb, HE⟩ := hrel
      by_cases hlt : k < n
      · obtain ⟨g, o, Ar, Lr, Cr, rfl, hF, hnil, hle⟩ := HS.out.2 k hlt
        obtain ⟨g', o', Ar', Lr', Cr', rfl, hF', hnil', hle'⟩ := HT.out.2 k hlt
        have hks := tkok_getD HOS.out k
        have hkt := tkok_getD HOT.out k
        have HN : Hid (S.getD k tk0 = T.getD k tk0 → ∀ j, j < k + 1 → S.getD j tk0 = T.getD j tk0) := Lib.hid fun e j hj => by
          rcases Nat.lt_succ_iff_lt_or_eq.1 hj with h | rfl
          · exact HE.out j h
          · exact e
        have HD : Hid (S.getD k tk0 ≠ T.getD k tk0 → decide (S = T) = false) := Lib.hid fun h => decide_eq_false (ne_of_at h)
        obtain ⟨c0, c1, c2, _⟩ := hF.below hb (Nat.le_refl _)
        obtain ⟨d0, d1, d2, _⟩ := hF'.below hb (Nat.le_refl _)
        have hbX := (hb.alloc hb.size (.cells #[.slice Ar Lr Cr, .int .i64 (S.getD k tk0).2.1, .int .i64 (S.getD k tk0).2.2] 28))
        have hbY := hbX.alloc hbX.size (.cells #[.slice Ar' Lr' Cr', .int .i64 (T.getD k tk0).2.1, .int .i64 (T.getD k tk0).2.2] 28)
        have hX := (Blk.new wr #[.slice Ar Lr Cr, .int .i64 (S.getD k tk0).2.1, .int .i64 (S.getD k tk0).2.2] 28)
        have hX2 := hX.alloc (.cells #[.slice Ar' Lr' Cr', .int .i64 (T.getD k tk0).2.1, .int .i64 (T.getD k tk0).2.2] 28)
        have hY := Blk.new (wr.alloc (.cells #[.slice Ar Lr Cr, .int .i64 (S.getD k tk0).2.1, .int .i64 (S.getD k tk0).2.2] 28)) #[.slice Ar' Lr' Cr', .int .i64 (T.getD k tk0).2.1, .int .i64 (T.getD k tk0).2.2] 28
        have hsz : (wr.alloc (.cells #[.slice Ar Lr Cr, .int .i64 (S.getD k tk0).2.1, .int .i64 (S.getD k tk0).2.2] 28)).heap.size = wr.heap.size + 1 := by simp
        rw [hsz] at hY
        obtain ⟨x0, x1, x2⟩ := hX2.c3
        obtain ⟨y0, y1, y2⟩ := hY.c3
        obtain ⟨d0', d1', d2', _⟩ := hF'.below hbX (Nat.le_refl _)
        obtain ⟨_, _, _, hs0⟩ := hF.below hbY (Nat.le_refl _)
        obtain ⟨_, _, _, ht0⟩ := hF'.below hbY (Nat.le_refl _)
        clear hX hX2 hY hsz hF hF' hb hbX
        generalize S.getD k tk0 = s at *
        generalize T.getD k tk0 = t at *
        go_wp2_with fail
        refine (tequal_any _ _ _ _ _ _ s t _ hs0 ht0 hks hkt).mono ?_
        rintro e w2 ⟨rfl, hb2⟩
        have hb3 := hbY.trans (hb2.mono hbY.size)
        clear hs0 ht0 hbY hb2 x0 x1 x2 y0 y1 y2 c0 c1 c2 d0 d1 d2 d0' d1' d2'
        by_cases e : s = t
        · have HN2 := Lib.hid (HN.out e)
          rw [decide_eq_true e]
          clear e HN HD
          go_wp2
          go_roundw
          case rel => exact ⟨k + 1, hlt, by go_num, hb3, HN2⟩
          case measure => simp [intOf]; omega
        · have HD2 := Lib.hid (HD.out e)
          rw [decide_eq_false e]
          clear e HN HD
          go_wp2
          go_ret
          exact ⟨by rw [HD2.out]; rfl, hb3⟩
      · obtain rfl : k = n := by omega
        have E : Hid (decide (S = T) = true) := Lib.hid (decide_eq_true (eq_of_all (by rw [HS.out.1, HT.out.1]) (fun j hj => HE.out j (by rw [← HS.out.1]; exact hj))))
        go_wp2
        go_ret
        exact ⟨by rw [E.out]; rfl, hb⟩
  · have E : Hid (decide (S = T) = false) := Lib.hid (decide_eq_false (fun e => hl (by rw [← HS.out.1, ← HT.out.1, e])))
    have hb : ((n : Int) == (m : Int)) = false := by simp; omega
    have hb2 : ((n : Int) != (m : Int)) = true := by simp; omega
    clear hl
    go_enter Try.func41, Try.ntmps41
    go_wp2
    go_ret
    exact ⟨by rw [E.out]; rfl, Below.refl _ _⟩

set_option maxHeartbeats 1000000 in
theorem tsame_any (A B : Option Addr) (n m c d : Nat) (S T : List Tk) (w : World) (hn : n ≤ 1000000) (hS : TksL w A n S) (hT : TksL w B m T) (hos : ∀ t ∈ S, tkok t) (hot : ∀ t ∈ T, tkok t) :
    Calls Try.prog 20 #[.slice A n c, .slice B m d] w fun e w' => e = .returned (.bool (decide (S = T))) ∧ Below w.heap.size w w' := by
  have HS := Lib.hid hS
  have HT := Lib.hid hT
  have HOS := Lib.hid hos
  have HOT := Lib.hid hot
  clear hS hT hos hot
  go_enter Try.func20, Try.ntmps20
  go_wp2_with fail
  with_reducible refine (tfun_any _ _ _ _ _ _ S T _ hn HS.out HT.out HOS.out HOT.out).mono ?_
  rintro e w1 ⟨rfl, hb⟩
  go_wp2
  go_ret
  exact ⟨rfl, hb⟩

/-- What the document's Same looks at. -/
def SS (w0 : World) (w' : World) : Prop := Below w0.heap.size w0 w'
set_option maxRecDepth 100000 in
set_option maxHeartbeats 2000000 in
theorem rtsame_any (A B : Option Addr) (n m c d : Nat) (S T : List Tk) (w : World) (hn : n ≤ 1000000) (hS : TksL w A n S) (hT : TksL w B m T) (hos : ∀ t ∈ S, tkok t) (hot : ∀ t ∈ T, tkok t) :
    Calls Try.prog 21 #[.slice A n c, .slice B m d] w fun e w' => e = .returned (.bool (decide (S = T))) ∧ Below w.heap.size w w' := by
  have HS := Lib.hid hS
  have HT := Lib.hid hT
  have HOS := Lib.hid hos
  have HOT := Lib.hid hot
  clear hS hT hos hot
  by_cases hl : n = m
  · subst hl
    go_enter Try.func21, Try.ntmps21
    go_wp2
    go_loopw [5] (fun i wr => ∃ k : Nat, k ≤ n ∧ i = .int .i64 k ∧ Below w.heap.size w wr ∧ Hid (∀ j, j < k → S.getD j tk0 = T.getD j tk0)) (fun i _ => n - (intOf i).toNat)
    case atStart => exact ⟨0, by omega, rfl, Below.refl _ _, Lib.hid fun j hj => absurd hj (by omega)⟩
    case round =>
      obtain ⟨k, hk, rfl, hb, HE⟩ := hrel
      by_cases hlt : k < n
      · obtain ⟨g, o, Ar, Lr, Cr, rfl, hF, hnil, hle⟩ := HS.out.2 k hlt
        obtain ⟨g', o', Ar', Lr', Cr', rfl, hF', hnil', hle'⟩ := HT.out.2 k hlt
        have hks := tkok_getD HOS.out k
        have hkt := tkok_getD HOT.out k
        have HN : Hid (S.getD k tk0 = T.getD k tk0 → ∀ j, j < k + 1 → S.getD j tk0 = T.getD j tk0) := Lib.hid fun e j hj => by
          rcases Nat.lt_succ_iff_lt_or_eq.1 hj with h | rfl
          · exact HE.out j h
          · exact e
        have HD : Hid (S.getD k tk0 ≠ T.getD k tk0 → decide (S = T) = false) := Lib.hid fun h => decide_eq_false (ne_of_at h)
        have L : ∀ w', Below w.heap.size w w' → w'.cell? ⟨g, o + k * 3, none⟩ = some (.slice Ar Lr Cr) ∧ w'.cell? ⟨g, o + k * 3 + 1, none⟩ = some (.int .i64 (S.getD k tk0).2.1) ∧ w'.cell? ⟨g, o + k * 3 + 2, none⟩ = some (.int .i64 (S.getD k tk0).2.2) ∧ w'.cell? ⟨g', o' + k * 3, none⟩ = some (.slice Ar' Lr' Cr') ∧ w'.cell? ⟨g', o' + k * 3 + 1, none⟩ = some (.int .i64 (T.getD k tk0).2.1) ∧ w'.cell? ⟨g', o' + k * 3 + 2, none⟩ = some (.int .i64 (T.getD k tk0).2.2) := fun w' h => ⟨(hF.below h (Nat.le_refl _)).1, (hF.below h (Nat.le_refl _)).2.1, (hF.below h (Nat.le_refl _)).2.2.1, (hF'.below h (Nat.le_refl _)).1, (hF'.below h (Nat.le_refl _)).2.1, (hF'.below h (Nat.le_refl _)).2.2.1⟩
        have hbd : Below w.heap.size w wr.drew := hb.trans ((below_one' _).mono hb.size)
        obtain ⟨_, _, _, hs0⟩ := hF.below hbd (Nat.le_refl _)
        obtain ⟨_, _, _, ht0⟩ := hF'.below hbd (Nat.le_refl _)
        have hki : (k : Int) < n := by omega
        clear hF hF'
        generalize S.getD k tk0 = s at *
        generalize T.getD k tk0 = t at *
        obtain ⟨y, so, sl⟩ := s
        obtain ⟨z, to, tl⟩ := t
        simp only at *
        have hy := hks.1
        have hz := hkt.1
        simp only at hy hz
        clear hks hkt
        by_cases e1 : so = to
        · subst e1
          by_cases e2 : sl = tl
          · subst e2
            go_wp2
            refine Seq.wp_region_seq (fun w' => Below w.heap.size w w') (by kernel_rfl) (by kernel_rfl) hbd ?_
            generalize wr.drew = wd at *
            repeat (first | (refine Seq.Seq.skip (by rfl) ?_; (try simp only [Act.put, List.setIfInBounds_toArray, List.set_cons_zero, List.set_cons_succ])) | (refine Seq.Seq.det ?_ (by rfl) (fun w hS => ?_) ?_; rotate_left; ((try dsimp only at hS); go_simp; (try rw [if_pos (by omega)]); with_reducible rfl); (try simp only [Act.put, List.setIfInBounds_toArray, List.set_cons_zero, List.set_cons_succ])))
            refine Seq.Seq.make (by rfl) (by rfl) (fun K Q' hK => ?_)
            go_simp
            go_at_call 16
            refine (same_dec _ _ _ _ _ _ y z _ hs0 ht0 hy hz).mono ?_
            rintro e w' ⟨rfl, rfl⟩
            refine hK.out _ _ (hbd) ?_
            clear hK K
            try simp only [Act.put, List.setIfInBounds_toArray, List.set_cons_zero, List.set_cons_succ]
            clear hs0 ht0 hy hz L
            by_cases e : y = z
            · subst e
              have HN2 := Lib.hid (HN.out rfl)
              rw [decide_eq_true rfl]
              repeat (first | (refine Seq.Seq.skip (by rfl) ?_; (try simp only [Act.put, List.setIfInBounds_toArray, List.set_cons_zero, List.set_cons_succ])) | (refine Seq.Seq.det ?_ (by rfl) (fun w hS => ?_) ?_; rotate_left; ((try dsimp only at hS); go_simp; (try rw [if_pos (by omega)]); with_reducible rfl); (try simp only [Act.put, List.setIfInBounds_toArray, List.set_cons_zero, List.set_cons_succ])))
              refine Seq.Seq.nil ?_
              clear HN HD
              go_wp2
              go_roundw
              case rel => exact ⟨k + 1, hlt, by go_num, hbd, HN2⟩
              case measure => simp [intOf]; omega
            · have HD2 := Lib.hid (HD.out (fun h => e (by injection h)))
              rw [decide_eq_false e]
              repeat (first | (refine Seq.Seq.skip (by rfl) ?_; (try simp only [Act.put, List.setIfInBounds_toArray, List.set_cons_zero, List.set_cons_succ])) | (refine Seq.Seq.det ?_ (by rfl) (fun w hS => ?_) ?_; rotate_left; ((try dsimp only at hS); go_simp; (try rw [if_pos (by omega)]); with_reducible rfl); (try simp only [Act.put, List.setIfInBounds_toArray, List.set_cons_zero, List.set_cons_succ])))
              refine Seq.Seq.nil ?_
              clear e HN HD
              go_wp2
              go_ret
              exact ⟨by rw [HD2.out]; rfl, hbd⟩
          · have HD2 := Lib.hid (HD.out (fun h => e2 (by injection h with _ h; injection h)))
            have hb2 : (sl != tl) = true := by simpa using e2
            clear e2 HN HD hs0 ht0 hy hz
            go_wp2
            refine Seq.wp_region_seq (fun w' => Below w.heap.size w w') (by kernel_rfl) (by kernel_rfl) hbd ?_
            generalize wr.drew = wd at *
            repeat (first | (refine Seq.Seq.skip (by rfl) ?_; (try simp only [Act.put, List.setIfInBounds_toArray, List.set_cons_zero, List.set_cons_succ])) | (refine Seq.Seq.det ?_ (by rfl) (fun w hS => ?_) ?_; rotate_left; ((try dsimp only at hS); go_simp; (try rw [if_pos (by omega)]); with_reducible rfl); (try simp only [Act.put, List.setIfInBounds_toArray, List.set_cons_zero, List.set_cons_succ])))
            refine Seq.Seq.nil ?_
            clear L
            go_wp2
            go_ret
            exact ⟨by rw [HD2.out]; rfl, hbd⟩
        · have HD2 := Lib.hid (HD.out (fun h => e1 (by injection h with _ h; injection h)))
          have hb1 : (so != to) = true := by simpa using e1
          clear e1 HN HD hs0 ht0 hy hz
          go_wp2
          refine Seq.wp_region_seq (fun w' => Below w.heap.size w w') (by kernel_rfl) (by kernel_rfl) hbd ?_
          generalize wr.drew = wd at *
          repeat (first | (refine Seq.Seq.skip (by rfl) ?_; (try simp only [Act.put, List.setIfInBounds_toArray, List.set_cons_zero, List.set_cons_succ])) | (refine Seq.Seq.det ?_ (by rfl) (fun w hS => ?_) ?_; rotate_left; ((try dsimp only at hS); go_simp; (try rw [if_pos (by omega)]); with_reducible rfl); (try simp only [Act.put, List.setIfInBounds_toArray, List.set_cons_zero, List.set_cons_succ])))
          refine Seq.Seq.nil ?_
          clear L
          go_wp2
          go_ret
          exact ⟨by rw [HD2.out]; rfl, hbd⟩
      · obtain rfl : k = n := by omega
        have E : Hid (decide (S = T) = true) := Lib.hid (decide_eq_true (eq_of_all (by rw [HS.out.1, HT.out.1]) (fun j hj => HE.out j (by rw [← HS.out.1]; exact hj))))
        go_wp2
        go_ret
        exact ⟨by rw [E.out]; rfl, hb⟩
  · have E : Hid (decide (S = T) = false) := Lib.hid (decide_eq_false (fun e => hl (by rw [← HS.out.1, ← HT.out.1, e])))
    have hb : ((n : Int) == (m : Int)) = false := by simp; omega
    have hb2 : ((n : Int) != (m : Int)) = true := by simp; omega
    clear hl
    go_enter Try.func21, Try.ntmps21
    go_wp2
    go_ret
    exact ⟨by rw [E.out]; rfl, Below.refl _ _⟩
end Go.Proofs.Ytppccdogfcmfjaa.Cur
