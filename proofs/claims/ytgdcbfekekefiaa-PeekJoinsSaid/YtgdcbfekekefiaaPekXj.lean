/- As the seat's text, without what nothing here names. -/
import Derived.Test.YtgdcbfekekefiaaPekCj
import Derived.Test.YtgdcbfekekefiaaPekWj
import Derived.Test.YtgdcbfekekefiaaSeqFj
namespace Go.Proofs.Ytgdcbfekekefiaa.Cur
open Go.RowKit Mem
set_option linter.unusedVariables false
set_option maxRecDepth 100000
def jc26 (e b : Int) (L : List En) (e' b' : Int) (L' : List En) : Int :=
  if (btk (e, b, L) && btk (e', b', L')) = true then (if b + L.length = b' ∧ e' = e then (if btk (e, b, L ++ L') = true then 0 else 2) else 13) else 3
theorem jc26_bad {e b : Int} {L : List En} {e' b' : Int} {L' : List En} (h : btk (e, b, L) = false ∨ btk (e', b', L') = false) : jc26 e b L e' b' L' = 3 := by
  unfold jc26
  rcases h with h | h
  · rw [h]; rfl
  · rw [h, Bool.and_false]; rfl
theorem jc26_off {e b : Int} {L : List En} {e' b' : Int} {L' : List En} (h1 : btk (e, b, L) = true) (h2 : btk (e', b', L') = true) (h : ¬ (b + L.length = b' ∧ e' = e)) : jc26 e b L e' b' L' = 13 := by
  unfold jc26
  rw [h1, h2, if_pos (show (true && true) = true from rfl), if_neg h]
theorem jc26_on {e b : Int} {L : List En} {e' b' : Int} {L' : List En} (h1 : btk (e, b, L) = true) (h2 : btk (e', b', L') = true) (h : b + L.length = b' ∧ e' = e) : jc26 e b L e' b' L' = if btk (e, b, L ++ L') = true then 0 else 2 := by
  unfold jc26
  rw [h1, h2, if_pos (show (true && true) = true from rfl), if_pos h]
theorem enr_two {w : World} {P P' : Nat → Prop} {g t : Nat} {A A' : Option Addr} {n m n' m' : Nat} {L L' : List En} (hX : Blk w g #[.slice A n m, .slice A' n' m'] t) (hz : Ens w P A n L) (hz' : Ens w P' A' n' L') (hnm : n ≤ m) (hA : A = none → m = 0) (hnm' : n' ≤ m') (hA' : A' = none → m' = 0) :
    {Q : Nat → Prop} → (∀ k, P k → k < w.heap.size → Q k) → (∀ k, P' k → k < w.heap.size → Q k) → Q g → Enr w Q (some ⟨g, 0, none⟩) 2 [L, L'] := by
  intro Q hq hq' hg
  obtain ⟨rfl, h1⟩ := hz
  obtain ⟨rfl, h2⟩ := hz'
  obtain ⟨x0, x1⟩ := hX.c2
  refine ⟨rfl, [[.slice A L.length m], [.slice A' L'.length m']], ⟨⟨A, m, rfl, hnm, hA, h1.mono hq⟩, ⟨A', m', rfl, hnm', hA', h2.mono hq'⟩, trivial⟩, fun _ => ⟨g, 0, rfl, hg, fun i v hv => ?_⟩⟩
  rcases i with _ | _ | i
  · simp at hv; subst hv; exact x0
  · simp at hv; subst hv; exact x1
  · simp at hv
def JW (w w' : World) : Prop := Below w.heap.size w w'
theorem esm_app {L M : List En} (h : esm L) (h2 : esm M) : esm (L ++ M) := fun k => by
  by_cases hk : k < L.length
  · have := h k
    rwa [List.getD_eq_getElem?_getD, ← List.getElem?_append_left (l₂ := M) hk, ← List.getD_eq_getElem?_getD] at this
  · have := h2 (k - L.length)
    rwa [List.getD_eq_getElem?_getD, ← List.getElem?_append_right (l₁ := L) (by omega), ← List.getD_eq_getElem?_getD] at this
def PJoinPost (e b : Int) (L : List En) (e' b' : Int) (L' : List En) (n : Nat) (w : World) (en : Ending) (w' : World) : Prop :=
  Below w.heap.size w w' ∧ ((jc26 e b L e' b' L' ≠ 0 ∧ en = .returned (.tuple #[btagg 0 0 none 0 0, .int .i64 (jc26 e b L e' b' L')])) ∨
    (jc26 e b L e' b' L' = 0 ∧ ∃ A m, en = .returned (.tuple #[btagg e b A n m, .int .i64 0]) ∧ Ens w' (fun k => w.heap.size ≤ k) A n (L ++ L')))
set_option maxHeartbeats 4000000 in
theorem peekjoin_any (P P' : Nat → Prop) (e b : Int) (A : Option Addr) (n m : Nat) (L : List En) (e' b' : Int) (A' : Option Addr) (n' m' : Nat) (L' : List En) (w : World) (hz : Ens w P A n L) (hz' : Ens w P' A' n' L') (hn : n ≤ 400) (hn' : n' ≤ 400) (hs : esm L) (hs' : esm L')
    (b0 : 0 ≤ b) (b9 : b < 18446744073709551616) (c0 : 0 ≤ b') (c9 : b' < 18446744073709551616) (hnm : n ≤ m) (hA : A = none → m = 0) (hnm' : n' ≤ m') (hA' : A' = none → m' = 0) :
    Calls Try.prog 27 #[btagg e b A n m, btagg e' b' A' n' m'] w (PJoinPost e b L e' b' L' (n + n') w) := by
  have hX := ((Blk.new w (btenc e b A n m) 25).alloc (.cells (btenc e' b' A' n' m') 25)).alloc (.cells (btenc 0 0 none 0 0) 25)
  have hX' := (Blk.new (w.alloc (.cells (btenc e b A n m) 25)) (btenc e' b' A' n' m') 25).alloc (.cells (btenc 0 0 none 0 0) 25)
  have hY := Blk.new ((w.alloc (.cells (btenc e b A n m) 25)).alloc (.cells (btenc e' b' A' n' m') 25)) (btenc 0 0 none 0 0) 25
  rw [World.size_alloc] at hX'
  rw [World.size_alloc, World.size_alloc] at hY
  have hb := (below_two w (.cells (btenc e b A n m) 25) (.cells (btenc e' b' A' n' m') 25)).trans ((below_one ((w.alloc (.cells (btenc e b A n m) 25)).alloc (.cells (btenc e' b' A' n' m') 25)) (.cells (btenc 0 0 none 0 0) 25)).mono (by simp; omega))
  have HSZ : (((w.alloc (.cells (btenc e b A n m) 25)).alloc (.cells (btenc e' b' A' n' m') 25)).alloc (.cells (btenc 0 0 none 0 0) 25)).heap.size = w.heap.size + 3 := by simp
  have hR := bright_any P e b A n m L _ (hz.below hb) (by omega) hs b0 b9
  unfold BPost at hR
  have HZ := Lib.hid hz
  have HZ' := Lib.hid hz'
  have HSM := Lib.hid hs
  have HSM' := Lib.hid hs'
  have HLN := Lib.hid hz.1
  have HLN' := Lib.hid hz'.1
  clear hz hs hz' hs'
  obtain ⟨x0, x1, x2⟩ := hX.c3
  obtain ⟨z0, z1, z2⟩ := hX'.c3
  go_enter Try.func27, Try.ntmps27
  go_wp2_with fail
  generalize ((w.alloc (.cells (btenc e b A n m) 25)).alloc (.cells (btenc e' b' A' n' m') 25)).alloc (.cells (btenc 0 0 none 0 0) 25) = w0 at *
  refine hR.mono ?_
  rintro en w1 ⟨rfl, hb1⟩
  have hs1 := hb1.size
  have hX1 := hX.below hb1
  have hX1' := hX'.below hb1
  have hY1 := hY.below hb1
  have hbd := hb.trans (hb1.mono hb.size)
  clear x0 x1 x2 z0 z1 z2 hR hX hX' hY hb hb1
  obtain ⟨x0, x1, x2⟩ := hX1.c3
  obtain ⟨z0, z1, z2⟩ := hX1'.c3
  cases hok : btk (e, b, L)
  · have HP : Hid (jc26 e b L e' b' L' = 3) := Lib.hid (jc26_bad (.inl hok))
    have HBD := Lib.hid hbd
    clear hok hbd hX1 hX1'
    obtain ⟨y0, y1, y2⟩ := hY1.c3
    obtain ⟨k0, k1, k2⟩ := blk_f3 hY1
    have HYY := Lib.hid hY1
    go_wp2
    obtain ⟨hY9, hk9⟩ := set3 HYY.out (.int .u64 0) (.int .u64 0) (.slice none 0 0)
    obtain ⟨d0, d1, d2⟩ := hY9.c3
    have hfin := Kp.below HBD.out (Nat.le_refl _) hk9 (by omega)
    exact bodyPost_ret (v := .tuple #[btagg 0 0 none 0 0, .int .i64 3]) (by simp [results, Try.results27, go_sem, d0, d1, d2]) rfl ⟨hfin, .inl ⟨by rw [HP.out]; decide, by rw [HP.out]⟩⟩
  have hR := bright_any P' e' b' A' n' m' L' w1 (HZ'.out.below hbd) (by omega) HSM'.out c0 c9
  unfold BPost at hR
  go_wp2_with fail
  refine hR.mono ?_
  rintro en w2 ⟨rfl, hb2⟩
  have hs2 := hb2.size
  have hX2 := hX1.below hb2
  have hX2' := hX1'.below hb2
  have hY2 := hY1.below hb2
  replace hbd := hbd.trans (hb2.mono hbd.size)
  clear x0 x1 x2 z0 z1 z2 hR hX1 hX1' hY1 hb2
  cases hok' : btk (e', b', L')
  · have HP : Hid (jc26 e b L e' b' L' = 3) := Lib.hid (jc26_bad (.inr hok'))
    have HBD := Lib.hid hbd
    clear hok hok' hbd hX2 hX2'
    obtain ⟨y0, y1, y2⟩ := hY2.c3
    obtain ⟨k0, k1, k2⟩ := blk_f3 hY2
    have HYY := Lib.hid hY2
    go_wp2
    obtain ⟨hY9, hk9⟩ := set3 HYY.out (.int .u64 0) (.int .u64 0) (.slice none 0 0)
    obtain ⟨d0, d1, d2⟩ := hY9.c3
    have hfin := Kp.below HBD.out (Nat.le_refl _) hk9 (by omega)
    exact bodyPost_ret (v := .tuple #[btagg 0 0 none 0 0, .int .i64 3]) (by simp [results, Try.results27, go_sem, d0, d1, d2]) rfl ⟨hfin, .inl ⟨by rw [HP.out]; decide, by rw [HP.out]⟩⟩
  have hfit := fitn_bd (btk_fitx hok)
  have hln := HLN.out
  dsimp only at hfit
  have hE := fun w' (h : JW w2 w') => bend_any e b A n m w' (by omega)
  unfold BPost at hE
  rw [IntWalk.u64_in (b + n) (by omega)] at hE
  have HE := Lib.hid hE
  have HOK := Lib.hid (And.intro hok hok')
  have hn1 : 1 ≤ n := by omega
  clear hE hok hok' hfit
  have L1 : ∀ w', JW w2 w' → (w'.cell? ⟨w.heap.size, 0, none⟩ = some (.int .u64 e) ∧ w'.cell? ⟨w.heap.size, 1, none⟩ = some (.int .u64 b)) ∧ w'.cell? ⟨w.heap.size, 2, none⟩ = some (.slice A n m) := fun w' h => ⟨⟨(hX2.below h).c3.1, (hX2.below h).c3.2.1⟩, (hX2.below h).c3.2.2⟩
  have L2 : ∀ w', JW w2 w' → (w'.cell? ⟨w.heap.size + 1, 0, none⟩ = some (.int .u64 e') ∧ w'.cell? ⟨w.heap.size + 1, 1, none⟩ = some (.int .u64 b')) ∧ w'.cell? ⟨w.heap.size + 1, 2, none⟩ = some (.slice A' n' m') := fun w' h => ⟨⟨(hX2'.below h).c3.1, (hX2'.below h).c3.2.1⟩, (hX2'.below h).c3.2.2⟩
  have hS : JW w2 w2.drew := below_one' _
  by_cases h1 : b' = b + n
  case neg =>
    have HP : Hid (jc26 e b L e' b' L' = 13) := Lib.hid (jc26_off HOK.out.1 HOK.out.2 (fun h => h1 (by omega)))
    have q1 : (b' != b + (n : Int)) = true := by rw [bne_iff_ne]; exact h1
    go_wp2
    refine Seq.wp_region_seq (JW w2) (by kernel_rfl) (by kernel_rfl) hS ?_
    generalize w2.drew = wd at *
    repeat (first | (refine Seq.Seq.skip (by rfl) ?_; (try simp only [Act.put, List.setIfInBounds_toArray, List.set_cons_zero, List.set_cons_succ])) | (refine Seq.Seq.det ?_ (by rfl) (fun w hS => ?_) ?_; rotate_left; ((try dsimp only at hS); go_simp; (try rw [if_pos (by omega)]); with_reducible rfl); (try simp only [Act.put, List.setIfInBounds_toArray, List.set_cons_zero, List.set_cons_succ])))
    refine Seq.Seq.make (by rfl) (by rfl) (fun K Q' hK => ?_)
    go_simp
    go_at_call 29
    refine (HE.out _ hS).mono ?_
    rintro en w3 ⟨rfl, hbx⟩
    refine hK.out _ _ ((show JW _ _ from Below.trans hS (hbx.mono (Below.size hS)))) ?_
    clear hK K
    try simp only [Act.put, List.setIfInBounds_toArray, List.set_cons_zero, List.set_cons_succ]
    replace hS : JW _ w3 := Below.trans hS (hbx.mono (Below.size hS))
    clear hbx
    repeat (first | (refine Seq.Seq.skip (by rfl) ?_; (try simp only [Act.put, List.setIfInBounds_toArray, List.set_cons_zero, List.set_cons_succ])) | (refine Seq.Seq.det ?_ (by rfl) (fun w hS => ?_) ?_; rotate_left; ((try dsimp only at hS); go_simp; (try rw [if_pos (by omega)]); with_reducible rfl); (try simp only [Act.put, List.setIfInBounds_toArray, List.set_cons_zero, List.set_cons_succ])))
    refine Seq.Seq.nil ?_
    have hb3 : Below w2.heap.size w2 w3 := hS
    have HBD := Lib.hid (hbd.trans (hb3.mono hbd.size))
    have hs3 := hb3.size
    have hX3 := hX2.below hb3
    have hX3' := hX2'.below hb3
    have hY3 := hY2.below hb3
    clear hS hb3 L1 L2 HE hX2 hX2' hY2 hbd
    clear h1 q1
    obtain ⟨y0, y1, y2⟩ := hY3.c3
    obtain ⟨k0, k1, k2⟩ := blk_f3 hY3
    have HYY := Lib.hid hY3
    go_wp2
    obtain ⟨hY9, hk9⟩ := set3 HYY.out (.int .u64 0) (.int .u64 0) (.slice none 0 0)
    obtain ⟨d0, d1, d2⟩ := hY9.c3
    have hfin := Kp.below HBD.out (Nat.le_refl _) hk9 (by omega)
    exact bodyPost_ret (v := .tuple #[btagg 0 0 none 0 0, .int .i64 13]) (by simp [results, Try.results27, go_sem, d0, d1, d2]) rfl ⟨hfin, .inl ⟨by rw [HP.out]; decide, by rw [HP.out]⟩⟩
  subst h1
  by_cases h2 : e' = e
  case neg =>
    have HP : Hid (jc26 e b L e' (b + n) L' = 13) := Lib.hid (jc26_off HOK.out.1 HOK.out.2 (fun h => h2 h.2))
    have q1 : (e' != e) = true := by rw [bne_iff_ne]; exact h2
    go_wp2
    refine Seq.wp_region_seq (JW w2) (by kernel_rfl) (by kernel_rfl) hS ?_
    generalize w2.drew = wd at *
    repeat (first | (refine Seq.Seq.skip (by rfl) ?_; (try simp only [Act.put, List.setIfInBounds_toArray, List.set_cons_zero, List.set_cons_succ])) | (refine Seq.Seq.det ?_ (by rfl) (fun w hS => ?_) ?_; rotate_left; ((try dsimp only at hS); go_simp; (try rw [if_pos (by omega)]); with_reducible rfl); (try simp only [Act.put, List.setIfInBounds_toArray, List.set_cons_zero, List.set_cons_succ])))
    refine Seq.Seq.make (by rfl) (by rfl) (fun K Q' hK => ?_)
    go_simp
    go_at_call 29
    refine (HE.out _ hS).mono ?_
    rintro en w3 ⟨rfl, hbx⟩
    refine hK.out _ _ ((show JW _ _ from Below.trans hS (hbx.mono (Below.size hS)))) ?_
    clear hK K
    try simp only [Act.put, List.setIfInBounds_toArray, List.set_cons_zero, List.set_cons_succ]
    replace hS : JW _ w3 := Below.trans hS (hbx.mono (Below.size hS))
    clear hbx
    repeat (first | (refine Seq.Seq.skip (by rfl) ?_; (try simp only [Act.put, List.setIfInBounds_toArray, List.set_cons_zero, List.set_cons_succ])) | (refine Seq.Seq.det ?_ (by rfl) (fun w hS => ?_) ?_; rotate_left; ((try dsimp only at hS); go_simp; (try rw [if_pos (by omega)]); with_reducible rfl); (try simp only [Act.put, List.setIfInBounds_toArray, List.set_cons_zero, List.set_cons_succ])))
    refine Seq.Seq.nil ?_
    have hb3 : Below w2.heap.size w2 w3 := hS
    have HBD := Lib.hid (hbd.trans (hb3.mono hbd.size))
    have hs3 := hb3.size
    have hX3 := hX2.below hb3
    have hX3' := hX2'.below hb3
    have hY3 := hY2.below hb3
    clear hS hb3 L1 L2 HE hX2 hX2' hY2 hbd
    clear h2 q1
    obtain ⟨y0, y1, y2⟩ := hY3.c3
    obtain ⟨k0, k1, k2⟩ := blk_f3 hY3
    have HYY := Lib.hid hY3
    go_wp2
    obtain ⟨hY9, hk9⟩ := set3 HYY.out (.int .u64 0) (.int .u64 0) (.slice none 0 0)
    obtain ⟨d0, d1, d2⟩ := hY9.c3
    have hfin := Kp.below HBD.out (Nat.le_refl _) hk9 (by omega)
    exact bodyPost_ret (v := .tuple #[btagg 0 0 none 0 0, .int .i64 13]) (by simp [results, Try.results27, go_sem, d0, d1, d2]) rfl ⟨hfin, .inl ⟨by rw [HP.out]; decide, by rw [HP.out]⟩⟩
  subst h2
  go_wp2
  refine Seq.wp_region_seq (JW w2) (by kernel_rfl) (by kernel_rfl) hS ?_
  generalize w2.drew = wd at *
  repeat (first | (refine Seq.Seq.skip (by rfl) ?_; (try simp only [Act.put, List.setIfInBounds_toArray, List.set_cons_zero, List.set_cons_succ])) | (refine Seq.Seq.det ?_ (by rfl) (fun w hS => ?_) ?_; rotate_left; ((try dsimp only at hS); go_simp; (try rw [if_pos (by omega)]); with_reducible rfl); (try simp only [Act.put, List.setIfInBounds_toArray, List.set_cons_zero, List.set_cons_succ])))
  refine Seq.Seq.make (by rfl) (by rfl) (fun K Q' hK => ?_)
  go_simp
  go_at_call 29
  refine (HE.out _ hS).mono ?_
  rintro en w3 ⟨rfl, hbx⟩
  refine hK.out _ _ ((show JW _ _ from Below.trans hS (hbx.mono (Below.size hS)))) ?_
  clear hK K
  try simp only [Act.put, List.setIfInBounds_toArray, List.set_cons_zero, List.set_cons_succ]
  replace hS : JW _ w3 := Below.trans hS (hbx.mono (Below.size hS))
  clear hbx
  repeat (first | (refine Seq.Seq.skip (by rfl) ?_; (try simp only [Act.put, List.setIfInBounds_toArray, List.set_cons_zero, List.set_cons_succ])) | (refine Seq.Seq.det ?_ (by rfl) (fun w hS => ?_) ?_; rotate_left; ((try dsimp only at hS); go_simp; (try rw [if_pos (by omega)]); with_reducible rfl); (try simp only [Act.put, List.setIfInBounds_toArray, List.set_cons_zero, List.set_cons_succ])))
  refine Seq.Seq.nil ?_
  have hb3 : Below w2.heap.size w2 w3 := hS
  have HBD := Lib.hid (hbd.trans (hb3.mono hbd.size))
  have hs3 := hb3.size
  have hX3 := hX2.below hb3
  have hX3' := hX2'.below hb3
  have hY3 := hY2.below hb3
  clear hS hb3 L1 L2 HE hX2 hX2' hY2 hbd
  have HFF : Hid ([L, L'].flatten = L ++ L') := Lib.hid (by simp)
  have HFL : Hid ([L, L'].flatten.length = L.length + L'.length) := Lib.hid (by simp)
  go_wp2
  have L1 : ∀ w', JW w3 w' → (w'.cell? ⟨w.heap.size, 0, none⟩ = some (.int .u64 e') ∧ w'.cell? ⟨w.heap.size, 1, none⟩ = some (.int .u64 b)) ∧ w'.cell? ⟨w.heap.size, 2, none⟩ = some (.slice A n m) := fun w' h => ⟨⟨(hX3.below h).c3.1, (hX3.below h).c3.2.1⟩, (hX3.below h).c3.2.2⟩
  have L2 : ∀ w', JW w3 w' → (w'.cell? ⟨w.heap.size + 1, 0, none⟩ = some (.int .u64 e') ∧ w'.cell? ⟨w.heap.size + 1, 1, none⟩ = some (.int .u64 (b + n))) ∧ w'.cell? ⟨w.heap.size + 1, 2, none⟩ = some (.slice A' n' m') := fun w' h => ⟨⟨(hX3'.below h).c3.1, (hX3'.below h).c3.2.1⟩, (hX3'.below h).c3.2.2⟩
  have hS : JW w3 w3.drew := below_one' _
  refine SeqF.wp_region_float (JW w3) 11 (by kernel_rfl) rfl (by kernel_rfl) hS ?_
  generalize w3.drew = wd9 at *
  simp only [List.eraseIdx]
  repeat (first | (refine SeqF.Float.skip (by rfl) (by rfl) (by rfl) ?_; (try simp only [Act.put, List.setIfInBounds_toArray, List.set_cons_zero, List.set_cons_succ])) | (refine SeqF.Float.det ?_ (by rfl) (by rfl) (by rfl) (fun w hS => ?_) ?_; rotate_left; ((try dsimp only at hS); go_simp; (try rw [if_pos (by omega)]); with_reducible rfl); (try simp only [Act.put, List.setIfInBounds_toArray, List.set_cons_zero, List.set_cons_succ])))
  refine SeqF.Float.fork (by rfl) (by rfl) (by rfl) ?_ (fun K Q' hK => ?_)
  · refine Seq.Seq.make (by rfl) (by rfl) (fun K Q' hK => ?_)
    go_simp
    have hA := below_one wd9 (.cells (btenc 0 0 none 0 0) 25)
    have hS2 : JW w3 (wd9.alloc (.cells (btenc 0 0 none 0 0) 25)) := Below.trans hS (hA.mono (Below.size hS))
    have hC := Blk.new wd9 (btenc 0 0 none 0 0) 25
    refine hK.out _ _ (hS2) ?_
    clear hK K
    try simp only [Act.put, List.setIfInBounds_toArray, List.set_cons_zero, List.set_cons_succ]
    have hfb : w3.heap.size ≤ wd9.heap.size := Below.size hS
    have HFA : Hid ((wd9.alloc (.cells (btenc 0 0 none 0 0) 25)).heap.size = wd9.heap.size + 1) := Lib.hid (by simp)
    clear hA hS
    generalize wd9.heap.size = fb at *
    generalize wd9.alloc (.cells (btenc 0 0 none 0 0) 25) = wa at *
    have hS := hS2
    clear hS2
    refine Seq.Seq.make (by rfl) (by rfl) (fun K Q' hK => ?_)
    go_simp
    have hA := below_one wa (.cells #[.slice A n m, .slice A' n' m'] 23)
    have hS2 : JW w3 (wa.alloc (.cells #[.slice A n m, .slice A' n' m'] 23)) := Below.trans hS (hA.mono (Below.size hS))
    have hR := Blk.new wa #[.slice A n m, .slice A' n' m'] 23
    refine hK.out _ _ (hS2) ?_
    clear hK K
    try simp only [Act.put, List.setIfInBounds_toArray, List.set_cons_zero, List.set_cons_succ]
    have hsb : w3.heap.size ≤ wa.heap.size := Below.size hS
    have HSA : Hid ((wa.alloc (.cells #[.slice A n m, .slice A' n' m'] 23)).heap.size = wa.heap.size + 1) := Lib.hid (by simp)
    replace hC := hC.below hA
    clear hA hS
    generalize wa.heap.size = sb at *
    generalize wa.alloc (.cells #[.slice A n m, .slice A' n' m'] 23) = wr at *
    have hS := hS2
    clear hS2
    repeat (first | (refine Seq.Seq.skip (by rfl) ?_; (try simp only [Act.put, List.setIfInBounds_toArray, List.set_cons_zero, List.set_cons_succ])) | (refine Seq.Seq.det ?_ (by rfl) (fun w hS => ?_) ?_; rotate_left; ((try dsimp only at hS); go_simp; (try rw [if_pos (by omega)]); with_reducible rfl); (try simp only [Act.put, List.setIfInBounds_toArray, List.set_cons_zero, List.set_cons_succ])))
    refine Seq.Seq.make (by rfl) (by rfl) (fun K Q' hK => ?_)
    go_simp
    go_at_call 55
    have hfs : fb ≠ sb := by have := HFA.out; omega
    have hfr : fb < wr.heap.size := by have := HFA.out; have := HSA.out; omega
    have hen := enr_two hR ((HZ.out.mono (Q := fun k => k < w.heap.size) (fun k _ h => h)).below (HBD.out.trans (Below.mono (show Below w3.heap.size w3 wr from hS) HBD.out.size))) ((HZ'.out.mono (Q := fun k => k < w.heap.size) (fun k _ h => h)).below (HBD.out.trans (Below.mono (show Below w3.heap.size w3 wr from hS) HBD.out.size))) hnm hA hnm' hA' (Q := fun k => k ≠ fb) (fun k h _ => by have h9 : k < w.heap.size := h; have := HBD.out.size; first | omega | trivial) (fun k h _ => by have h9 : k < w.heap.size := h; have := HBD.out.size; first | omega | trivial) (by first | omega | trivial)
    have hca := econcat_any _ _ _ 2 _ wr hen (by omega) (by omega) (by rw [HFL.out, HLN.out, HLN'.out]; omega) (by rw [HFL.out, HLN.out, HLN'.out]; omega)
    rw [HFF.out] at hca
    unfold ECaPost at hca
    refine hca.mono ?_
    rintro en v2 ⟨A9, n9, m9, rfl, hbv, hE9, _⟩
    have hS3 : JW w3 v2 := Below.trans hS (Below.mono hbv (Below.size hS))
    refine hK.out _ _ (hS3) ?_
    clear hK K
    try simp only [Act.put, List.setIfInBounds_toArray, List.set_cons_zero, List.set_cons_succ]
    replace hE9 := hE9.mono (Q := fun k => k ≠ fb) (fun k h _ => by rcases h with h | h; · show k ≠ fb; omega
                                                                    · exact h)
    replace hC := hC.below hbv
    clear hS hca hen hbv hR HFA HSA
    have hS := hS3
    clear hS3
    obtain rfl : n9 = n + n' := by rw [← hE9.1, List.length_append, HLN.out, HLN'.out]
    repeat (first | (refine Seq.Seq.skip (by rfl) ?_; (try simp only [Act.put, List.setIfInBounds_toArray, List.set_cons_zero, List.set_cons_succ])) | (refine Seq.Seq.det ?_ (by rfl) (fun w hS => ?_) ?_; rotate_left; ((try dsimp only at hS); go_simp; (try rw [if_pos (by omega)]); with_reducible rfl); (try simp only [Act.put, List.setIfInBounds_toArray, List.set_cons_zero, List.set_cons_succ])))
    obtain ⟨x0, x1, x2⟩ := hC.c3
    obtain ⟨f0, f1, f2⟩ := blk_f3 hC
    obtain ⟨hCS, hkS⟩ := set3 hC (.int .u64 e') (.int .u64 b) (.slice A9 (n + n') m9)
    have hS4 : JW w3 _ := Kp.below hS (Nat.le_refl _) hkS hfb
    have hE7 := hE9.keep (w' := _) fun q h1 h2 => hkS.block q h2 h1
    refine Seq.Seq.make (by rfl) (by rfl) (fun K Q' hK => ?_)
    go_simp
    refine hK.out _ _ (hS4) ?_
    clear hK K
    try simp only [Act.put, List.setIfInBounds_toArray, List.set_cons_zero, List.set_cons_succ]
    refine Seq.Seq.nil ?_
    clear x0 x1 x2 f0 f1 f2 L1 L2 hS hC hkS hE9
    generalize ((World.setCell _ _ _).setCell _ _).setCell _ _ = w7 at hCS hS4 hE7 ⊢
    have hb7 : Below w3.heap.size w3 w7 := hS4
    have HBD7 := Lib.hid (HBD.out.trans (hb7.mono HBD.out.size))
    have hY7 := hY3.below hb7
    have hs7 := hb7.size
    have hs0 := HBD.out.size
    clear hS4 hb7 hX3 hX3' hY3 HBD
    obtain ⟨x0, x1, x2⟩ := hCS.c3
    have hR := bright_any _ e' b A9 (n + n') m9 (L ++ L') w7 hE7 (by omega) (esm_app HSM.out HSM'.out) b0 b9
    unfold BPost at hR
    go_wp2_with fail
    refine hR.mono ?_
    rintro en w8 ⟨rfl, hb8⟩
    have hs8 := hb8.size
    have hC8 := hCS.below hb8
    have hY8 := hY7.below hb8
    have hE8 := hE7.below hb8
    have hbd := HBD7.out.trans (hb8.mono HBD7.out.size)
    clear x0 x1 x2 hR hCS hY7 hE7 hb8 HBD7
    have hj := jc26_on HOK.out.1 HOK.out.2 ⟨show b + (L.length : Int) = b + n by rw [HLN.out], rfl⟩
    cases hok2 : btk (e', b, L ++ L')
    · have HP : Hid (jc26 e' b L e' (b + n) L' = 2) := Lib.hid (hj.trans (by rw [hok2]; rfl))
      have HBD := Lib.hid hbd
      clear hok2 hbd hC8 hE8 hj
      obtain ⟨y0, y1, y2⟩ := hY8.c3
      obtain ⟨k0, k1, k2⟩ := blk_f3 hY8
      have HYY := Lib.hid hY8
      go_wp2
      obtain ⟨hY9, hk9⟩ := set3 HYY.out (.int .u64 0) (.int .u64 0) (.slice none 0 0)
      obtain ⟨d0, d1, d2⟩ := hY9.c3
      have hfin := Kp.below HBD.out (Nat.le_refl _) hk9 (by omega)
      exact bodyPost_ret (v := .tuple #[btagg 0 0 none 0 0, .int .i64 2]) (by simp [results, Try.results27, go_sem, d0, d1, d2]) rfl ⟨hfin, .inl ⟨by rw [HP.out]; decide, by rw [HP.out]⟩⟩
    have HP : Hid (jc26 e' b L e' (b + n) L' = 0) := Lib.hid (hj.trans (by rw [hok2]; rfl))
    obtain ⟨x0, x1, x2⟩ := hC8.c3
    have hcp := bcopy_any _ e' b A9 (n + n') m9 _ w8 hE8 (by omega) (fun k => by have := esm_app HSM.out HSM'.out k; exact ⟨by omega, fun s hs => by have := this.2.1 s hs; omega, by omega⟩)
    unfold CbtPost at hcp
    have HE8 := Lib.hid hE8
    clear hok2 hE8 hj
    go_wp2_with fail
    refine hcp.mono ?_
    rintro en w10 ⟨g, cur, lo, hi, rfl, hb10, hcb⟩
    have hs10 := hb10.size
    have hE3 := hcb.ens HE8.out.1 (fun x hx => ((HE8.out.bds x hx).2))
    have hY10 := hY8.below hb10
    have HBD := Lib.hid (hbd.trans (hb10.mono hbd.size))
    have HE3 := Lib.hid hE3
    obtain ⟨y0, y1, y2⟩ := hY10.c3
    obtain ⟨k0, k1, k2⟩ := blk_f3 hY10
    clear hcp hcb hb10 hbd hY8 x0 x1 x2 hE3
    go_wp2
    obtain ⟨hY9, hk9⟩ := set3 hY10 (.int .u64 e') (.int .u64 b) (.slice (some ⟨g, 0, none⟩) (n + n') (n + n'))
    obtain ⟨d0, d1, d2⟩ := hY9.c3
    have hfin := Kp.below HBD.out (Nat.le_refl _) hk9 (by omega)
    have hE9 := HE3.out.keep (w' := _) fun q h1 h2 => hk9.block q h2 (by have h3 : w8.heap.size ≤ q := h1; omega)
    exact bodyPost_ret (v := .tuple #[btagg e' b (some ⟨g, 0, none⟩) (n + n') (n + n'), .int .i64 0]) (by simp [results, Try.results27, go_sem, d0, d1, d2]) rfl ⟨hfin, .inr ⟨HP.out, _, _, rfl, hE9.mono fun q h1 _ => by have h3 : w8.heap.size ≤ q := h1; show w.heap.size ≤ q; omega⟩⟩
  · go_simp
    have hA := below_one wd9 (.cells #[.slice A n m, .slice A' n' m'] 23)
    have hS2 : JW w3 (wd9.alloc (.cells #[.slice A n m, .slice A' n' m'] 23)) := Below.trans hS (hA.mono (Below.size hS))
    have hR := Blk.new wd9 #[.slice A n m, .slice A' n' m'] 23
    refine hK.out _ _ (hS2) ?_
    clear hK K
    try simp only [Act.put, List.setIfInBounds_toArray, List.set_cons_zero, List.set_cons_succ]
    have hsb : w3.heap.size ≤ wd9.heap.size := Below.size hS
    have HSA : Hid ((wd9.alloc (.cells #[.slice A n m, .slice A' n' m'] 23)).heap.size = wd9.heap.size + 1) := Lib.hid (by simp)
    clear hA hS
    generalize wd9.heap.size = sb at *
    generalize wd9.alloc (.cells #[.slice A n m, .slice A' n' m'] 23) = wr at *
    have hS := hS2
    clear hS2
    repeat (first | (refine SeqF.Float.skip (by rfl) (by rfl) (by rfl) ?_; (try simp only [Act.put, List.setIfInBounds_toArray, List.set_cons_zero, List.set_cons_succ])) | (refine SeqF.Float.det ?_ (by rfl) (by rfl) (by rfl) (fun w hS => ?_) ?_; rotate_left; ((try dsimp only at hS); go_simp; (try rw [if_pos (by omega)]); with_reducible rfl); (try simp only [Act.put, List.setIfInBounds_toArray, List.set_cons_zero, List.set_cons_succ])))
    refine SeqF.Float.fork (by rfl) (by rfl) (by rfl) ?_ (fun K Q' hK => ?_)
    · refine Seq.Seq.make (by rfl) (by rfl) (fun K Q' hK => ?_)
      go_simp
      have hsr : sb < wr.heap.size := by have := HSA.out; omega
      have hA := below_one wr (.cells (btenc 0 0 none 0 0) 25)
      have hS2 : JW w3 (wr.alloc (.cells (btenc 0 0 none 0 0) 25)) := Below.trans hS (hA.mono (Below.size hS))
      have hC := Blk.new wr (btenc 0 0 none 0 0) 25
      refine hK.out _ _ (hS2) ?_
      clear hK K
      try simp only [Act.put, List.setIfInBounds_toArray, List.set_cons_zero, List.set_cons_succ]
      have hfb : w3.heap.size ≤ wr.heap.size := Below.size hS
      have hR2 := hR.below hA
      clear hR
      have hR := hR2
      clear hR2
      have HFA : Hid ((wr.alloc (.cells (btenc 0 0 none 0 0) 25)).heap.size = wr.heap.size + 1) := Lib.hid (by simp)
      clear hA hS
      generalize wr.heap.size = fb at *
      generalize wr.alloc (.cells (btenc 0 0 none 0 0) 25) = wa at *
      have hS := hS2
      clear hS2
      have hfs : sb < fb := hsr
      have hfr : fb < wa.heap.size := by have := HFA.out; omega
      repeat (first | (refine Seq.Seq.skip (by rfl) ?_; (try simp only [Act.put, List.setIfInBounds_toArray, List.set_cons_zero, List.set_cons_succ])) | (refine Seq.Seq.det ?_ (by rfl) (fun w hS => ?_) ?_; rotate_left; ((try dsimp only at hS); go_simp; (try rw [if_pos (by omega)]); with_reducible rfl); (try simp only [Act.put, List.setIfInBounds_toArray, List.set_cons_zero, List.set_cons_succ])))
      refine Seq.Seq.make (by rfl) (by rfl) (fun K Q' hK => ?_)
      go_simp
      go_at_call 55
      have hen := enr_two hR ((HZ.out.mono (Q := fun k => k < w.heap.size) (fun k _ h => h)).below (HBD.out.trans (Below.mono (show Below w3.heap.size w3 wa from hS) HBD.out.size))) ((HZ'.out.mono (Q := fun k => k < w.heap.size) (fun k _ h => h)).below (HBD.out.trans (Below.mono (show Below w3.heap.size w3 wa from hS) HBD.out.size))) hnm hA hnm' hA' (Q := fun k => k ≠ fb) (fun k h _ => by have h9 : k < w.heap.size := h; have := HBD.out.size; first | omega | trivial) (fun k h _ => by have h9 : k < w.heap.size := h; have := HBD.out.size; first | omega | trivial) (by first | omega | trivial)
      have hca := econcat_any _ _ _ 2 _ wa hen (by omega) (by omega) (by rw [HFL.out, HLN.out, HLN'.out]; omega) (by rw [HFL.out, HLN.out, HLN'.out]; omega)
      rw [HFF.out] at hca
      unfold ECaPost at hca
      refine hca.mono ?_
      rintro en v2 ⟨A9, n9, m9, rfl, hbv, hE9, _⟩
      have hS3 : JW w3 v2 := Below.trans hS (Below.mono hbv (Below.size hS))
      refine hK.out _ _ (hS3) ?_
      clear hK K
      try simp only [Act.put, List.setIfInBounds_toArray, List.set_cons_zero, List.set_cons_succ]
      replace hE9 := hE9.mono (Q := fun k => k ≠ fb) (fun k h _ => by rcases h with h | h; · show k ≠ fb; omega
                                                                      · exact h)
      replace hC := hC.below hbv
      clear hS hca hen hbv hR HFA HSA
      have hS := hS3
      clear hS3
      obtain rfl : n9 = n + n' := by rw [← hE9.1, List.length_append, HLN.out, HLN'.out]
      repeat (first | (refine Seq.Seq.skip (by rfl) ?_; (try simp only [Act.put, List.setIfInBounds_toArray, List.set_cons_zero, List.set_cons_succ])) | (refine Seq.Seq.det ?_ (by rfl) (fun w hS => ?_) ?_; rotate_left; ((try dsimp only at hS); go_simp; (try rw [if_pos (by omega)]); with_reducible rfl); (try simp only [Act.put, List.setIfInBounds_toArray, List.set_cons_zero, List.set_cons_succ])))
      obtain ⟨x0, x1, x2⟩ := hC.c3
      obtain ⟨f0, f1, f2⟩ := blk_f3 hC
      obtain ⟨hCS, hkS⟩ := set3 hC (.int .u64 e') (.int .u64 b) (.slice A9 (n + n') m9)
      have hS4 : JW w3 _ := Kp.below hS (Nat.le_refl _) hkS hfb
      have hE7 := hE9.keep (w' := _) fun q h1 h2 => hkS.block q h2 h1
      refine Seq.Seq.make (by rfl) (by rfl) (fun K Q' hK => ?_)
      go_simp
      refine hK.out _ _ (hS4) ?_
      clear hK K
      try simp only [Act.put, List.setIfInBounds_toArray, List.set_cons_zero, List.set_cons_succ]
      refine Seq.Seq.nil ?_
      clear x0 x1 x2 f0 f1 f2 L1 L2 hS hC hkS hE9
      generalize ((World.setCell _ _ _).setCell _ _).setCell _ _ = w7 at hCS hS4 hE7 ⊢
      have hb7 : Below w3.heap.size w3 w7 := hS4
      have HBD7 := Lib.hid (HBD.out.trans (hb7.mono HBD.out.size))
      have hY7 := hY3.below hb7
      have hs7 := hb7.size
      have hs0 := HBD.out.size
      clear hS4 hb7 hX3 hX3' hY3 HBD
      obtain ⟨x0, x1, x2⟩ := hCS.c3
      have hR := bright_any _ e' b A9 (n + n') m9 (L ++ L') w7 hE7 (by omega) (esm_app HSM.out HSM'.out) b0 b9
      unfold BPost at hR
      go_wp2_with fail
      refine hR.mono ?_
      rintro en w8 ⟨rfl, hb8⟩
      have hs8 := hb8.size
      have hC8 := hCS.below hb8
      have hY8 := hY7.below hb8
      have hE8 := hE7.below hb8
      have hbd := HBD7.out.trans (hb8.mono HBD7.out.size)
      clear x0 x1 x2 hR hCS hY7 hE7 hb8 HBD7
      have hj := jc26_on HOK.out.1 HOK.out.2 ⟨show b + (L.length : Int) = b + n by rw [HLN.out], rfl⟩
      cases hok2 : btk (e', b, L ++ L')
      · have HP : Hid (jc26 e' b L e' (b + n) L' = 2) := Lib.hid (hj.trans (by rw [hok2]; rfl))
        have HBD := Lib.hid hbd
        clear hok2 hbd hC8 hE8 hj
        obtain ⟨y0, y1, y2⟩ := hY8.c3
        obtain ⟨k0, k1, k2⟩ := blk_f3 hY8
        have HYY := Lib.hid hY8
        go_wp2
        obtain ⟨hY9, hk9⟩ := set3 HYY.out (.int .u64 0) (.int .u64 0) (.slice none 0 0)
        obtain ⟨d0, d1, d2⟩ := hY9.c3
        have hfin := Kp.below HBD.out (Nat.le_refl _) hk9 (by omega)
        exact bodyPost_ret (v := .tuple #[btagg 0 0 none 0 0, .int .i64 2]) (by simp [results, Try.results27, go_sem, d0, d1, d2]) rfl ⟨hfin, .inl ⟨by rw [HP.out]; decide, by rw [HP.out]⟩⟩
      have HP : Hid (jc26 e' b L e' (b + n) L' = 0) := Lib.hid (hj.trans (by rw [hok2]; rfl))
      obtain ⟨x0, x1, x2⟩ := hC8.c3
      have hcp := bcopy_any _ e' b A9 (n + n') m9 _ w8 hE8 (by omega) (fun k => by have := esm_app HSM.out HSM'.out k; exact ⟨by omega, fun s hs => by have := this.2.1 s hs; omega, by omega⟩)
      unfold CbtPost at hcp
      have HE8 := Lib.hid hE8
      clear hok2 hE8 hj
      go_wp2_with fail
      refine hcp.mono ?_
      rintro en w10 ⟨g, cur, lo, hi, rfl, hb10, hcb⟩
      have hs10 := hb10.size
      have hE3 := hcb.ens HE8.out.1 (fun x hx => ((HE8.out.bds x hx).2))
      have hY10 := hY8.below hb10
      have HBD := Lib.hid (hbd.trans (hb10.mono hbd.size))
      have HE3 := Lib.hid hE3
      obtain ⟨y0, y1, y2⟩ := hY10.c3
      obtain ⟨k0, k1, k2⟩ := blk_f3 hY10
      clear hcp hcb hb10 hbd hY8 x0 x1 x2 hE3
      go_wp2
      obtain ⟨hY9, hk9⟩ := set3 hY10 (.int .u64 e') (.int .u64 b) (.slice (some ⟨g, 0, none⟩) (n + n') (n + n'))
      obtain ⟨d0, d1, d2⟩ := hY9.c3
      have hfin := Kp.below HBD.out (Nat.le_refl _) hk9 (by omega)
      have hE9 := HE3.out.keep (w' := _) fun q h1 h2 => hk9.block q h2 (by have h3 : w8.heap.size ≤ q := h1; omega)
      exact bodyPost_ret (v := .tuple #[btagg e' b (some ⟨g, 0, none⟩) (n + n') (n + n'), .int .i64 0]) (by simp [results, Try.results27, go_sem, d0, d1, d2]) rfl ⟨hfin, .inr ⟨HP.out, _, _, rfl, hE9.mono fun q h1 _ => by have h3 : w8.heap.size ≤ q := h1; show w.heap.size ≤ q; omega⟩⟩
    · go_simp
      go_at_call 55
      have hen := enr_two hR ((HZ.out.mono (Q := fun k => k < w.heap.size) (fun k _ h => h)).below (HBD.out.trans (Below.mono (show Below w3.heap.size w3 wr from hS) HBD.out.size))) ((HZ'.out.mono (Q := fun k => k < w.heap.size) (fun k _ h => h)).below (HBD.out.trans (Below.mono (show Below w3.heap.size w3 wr from hS) HBD.out.size))) hnm hA hnm' hA' (Q := fun k => True) (fun k h _ => by have h9 : k < w.heap.size := h; have := HBD.out.size; first | omega | trivial) (fun k h _ => by have h9 : k < w.heap.size := h; have := HBD.out.size; first | omega | trivial) (by first | omega | trivial)
      have hca := econcat_any _ _ _ 2 _ wr hen (by omega) (by omega) (by rw [HFL.out, HLN.out, HLN'.out]; omega) (by rw [HFL.out, HLN.out, HLN'.out]; omega)
      rw [HFF.out] at hca
      unfold ECaPost at hca
      refine hca.mono ?_
      rintro en v2 ⟨A9, n9, m9, rfl, hbv, hE9, _⟩
      have hS3 : JW w3 v2 := Below.trans hS (Below.mono hbv (Below.size hS))
      refine hK.out _ _ (hS3) ?_
      clear hK K
      try simp only [Act.put, List.setIfInBounds_toArray, List.set_cons_zero, List.set_cons_succ]
      clear hS hca hen hbv hR HSA
      have hS := hS3
      clear hS3
      obtain rfl : n9 = n + n' := by rw [← hE9.1, List.length_append, HLN.out, HLN'.out]
      repeat (first | (refine SeqF.Float.skip (by rfl) (by rfl) (by rfl) ?_; (try simp only [Act.put, List.setIfInBounds_toArray, List.set_cons_zero, List.set_cons_succ])) | (refine SeqF.Float.det ?_ (by rfl) (by rfl) (by rfl) (fun w hS => ?_) ?_; rotate_left; ((try dsimp only at hS); go_simp; (try rw [if_pos (by omega)]); with_reducible rfl); (try simp only [Act.put, List.setIfInBounds_toArray, List.set_cons_zero, List.set_cons_succ])))
      refine SeqF.Float.stop (by rfl) ?_
      refine Seq.Seq.make (by rfl) (by rfl) (fun K Q' hK => ?_)
      go_simp
      replace hE9 := hE9.mono (Q := fun k => k < v2.heap.size) (fun k _ h => h)
      have hA := below_one v2 (.cells (btenc 0 0 none 0 0) 25)
      have hS2 : JW w3 (v2.alloc (.cells (btenc 0 0 none 0 0) 25)) := Below.trans hS (hA.mono (Below.size hS))
      have hC := Blk.new v2 (btenc 0 0 none 0 0) 25
      refine hK.out _ _ (hS2) ?_
      clear hK K
      try simp only [Act.put, List.setIfInBounds_toArray, List.set_cons_zero, List.set_cons_succ]
      have hfb : w3.heap.size ≤ v2.heap.size := Below.size hS
      replace hE9 := hE9.below hA
      have HFA : Hid ((v2.alloc (.cells (btenc 0 0 none 0 0) 25)).heap.size = v2.heap.size + 1) := Lib.hid (by simp)
      clear hA hS
      generalize v2.heap.size = fb at *
      generalize v2.alloc (.cells (btenc 0 0 none 0 0) 25) = wa at *
      have hS := hS2
      clear hS2
      replace hE9 := hE9.mono (Q := fun k => k ≠ fb) (fun k h _ => by have h9 : k < fb := h; show k ≠ fb; omega)
      repeat (first | (refine Seq.Seq.skip (by rfl) ?_; (try simp only [Act.put, List.setIfInBounds_toArray, List.set_cons_zero, List.set_cons_succ])) | (refine Seq.Seq.det ?_ (by rfl) (fun w hS => ?_) ?_; rotate_left; ((try dsimp only at hS); go_simp; (try rw [if_pos (by omega)]); with_reducible rfl); (try simp only [Act.put, List.setIfInBounds_toArray, List.set_cons_zero, List.set_cons_succ])))
      obtain ⟨x0, x1, x2⟩ := hC.c3
      obtain ⟨f0, f1, f2⟩ := blk_f3 hC
      obtain ⟨hCS, hkS⟩ := set3 hC (.int .u64 e') (.int .u64 b) (.slice A9 (n + n') m9)
      have hS4 : JW w3 _ := Kp.below hS (Nat.le_refl _) hkS hfb
      have hE7 := hE9.keep (w' := _) fun q h1 h2 => hkS.block q h2 h1
      refine Seq.Seq.make (by rfl) (by rfl) (fun K Q' hK => ?_)
      go_simp
      refine hK.out _ _ (hS4) ?_
      clear hK K
      try simp only [Act.put, List.setIfInBounds_toArray, List.set_cons_zero, List.set_cons_succ]
      refine Seq.Seq.nil ?_
      clear x0 x1 x2 f0 f1 f2 L1 L2 hS hC hkS hE9
      generalize ((World.setCell _ _ _).setCell _ _).setCell _ _ = w7 at hCS hS4 hE7 ⊢
      have hb7 : Below w3.heap.size w3 w7 := hS4
      have HBD7 := Lib.hid (HBD.out.trans (hb7.mono HBD.out.size))
      have hY7 := hY3.below hb7
      have hs7 := hb7.size
      have hs0 := HBD.out.size
      clear hS4 hb7 hX3 hX3' hY3 HBD
      obtain ⟨x0, x1, x2⟩ := hCS.c3
      have hR := bright_any _ e' b A9 (n + n') m9 (L ++ L') w7 hE7 (by omega) (esm_app HSM.out HSM'.out) b0 b9
      unfold BPost at hR
      go_wp2_with fail
      refine hR.mono ?_
      rintro en w8 ⟨rfl, hb8⟩
      have hs8 := hb8.size
      have hC8 := hCS.below hb8
      have hY8 := hY7.below hb8
      have hE8 := hE7.below hb8
      have hbd := HBD7.out.trans (hb8.mono HBD7.out.size)
      clear x0 x1 x2 hR hCS hY7 hE7 hb8 HBD7
      have hj := jc26_on HOK.out.1 HOK.out.2 ⟨show b + (L.length : Int) = b + n by rw [HLN.out], rfl⟩
      cases hok2 : btk (e', b, L ++ L')
      · have HP : Hid (jc26 e' b L e' (b + n) L' = 2) := Lib.hid (hj.trans (by rw [hok2]; rfl))
        have HBD := Lib.hid hbd
        clear hok2 hbd hC8 hE8 hj
        obtain ⟨y0, y1, y2⟩ := hY8.c3
        obtain ⟨k0, k1, k2⟩ := blk_f3 hY8
        have HYY := Lib.hid hY8
        go_wp2
        obtain ⟨hY9, hk9⟩ := set3 HYY.out (.int .u64 0) (.int .u64 0) (.slice none 0 0)
        obtain ⟨d0, d1, d2⟩ := hY9.c3
        have hfin := Kp.below HBD.out (Nat.le_refl _) hk9 (by omega)
        exact bodyPost_ret (v := .tuple #[btagg 0 0 none 0 0, .int .i64 2]) (by simp [results, Try.results27, go_sem, d0, d1, d2]) rfl ⟨hfin, .inl ⟨by rw [HP.out]; decide, by rw [HP.out]⟩⟩
      have HP : Hid (jc26 e' b L e' (b + n) L' = 0) := Lib.hid (hj.trans (by rw [hok2]; rfl))
      obtain ⟨x0, x1, x2⟩ := hC8.c3
      have hcp := bcopy_any _ e' b A9 (n + n') m9 _ w8 hE8 (by omega) (fun k => by have := esm_app HSM.out HSM'.out k; exact ⟨by omega, fun s hs => by have := this.2.1 s hs; omega, by omega⟩)
      unfold CbtPost at hcp
      have HE8 := Lib.hid hE8
      clear hok2 hE8 hj
      go_wp2_with fail
      refine hcp.mono ?_
      rintro en w10 ⟨g, cur, lo, hi, rfl, hb10, hcb⟩
      have hs10 := hb10.size
      have hE3 := hcb.ens HE8.out.1 (fun x hx => ((HE8.out.bds x hx).2))
      have hY10 := hY8.below hb10
      have HBD := Lib.hid (hbd.trans (hb10.mono hbd.size))
      have HE3 := Lib.hid hE3
      obtain ⟨y0, y1, y2⟩ := hY10.c3
      obtain ⟨k0, k1, k2⟩ := blk_f3 hY10
      clear hcp hcb hb10 hbd hY8 x0 x1 x2 hE3
      go_wp2
      obtain ⟨hY9, hk9⟩ := set3 hY10 (.int .u64 e') (.int .u64 b) (.slice (some ⟨g, 0, none⟩) (n + n') (n + n'))
      obtain ⟨d0, d1, d2⟩ := hY9.c3
      have hfin := Kp.below HBD.out (Nat.le_refl _) hk9 (by omega)
      have hE9 := HE3.out.keep (w' := _) fun q h1 h2 => hk9.block q h2 (by have h3 : w8.heap.size ≤ q := h1; omega)
      exact bodyPost_ret (v := .tuple #[btagg e' b (some ⟨g, 0, none⟩) (n + n') (n + n'), .int .i64 0]) (by simp [results, Try.results27, go_sem, d0, d1, d2]) rfl ⟨hfin, .inr ⟨HP.out, _, _, rfl, hE9.mono fun q h1 _ => by have h3 : w8.heap.size ≤ q := h1; show w.heap.size ≤ q; omega⟩⟩
end Go.Proofs.Ytgdcbfekekefiaa.Cur
