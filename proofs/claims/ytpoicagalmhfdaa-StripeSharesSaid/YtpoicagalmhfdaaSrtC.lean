/- slices.Sort at numbers of 64 digits: the heap sort. -/
import Derived.Test.YtpoicagalmhfdaaSrtB
namespace Go.Proofs.Ytpoicagalmhfdaa.Cur
open Go.RowKit Mem Go.Sort
set_option linter.unusedVariables false
set_option maxRecDepth 100000


theorem sd_done {hi first r : Nat} {d : Array Int} (h : 2 * r + 1 ≥ hi) : siftDown ltInt hi first r d = d := by rw [siftDown, dif_pos h]
theorem sd_step {hi first r c : Nat} {d : Array Int} (h : 2 * r + 1 < hi) (hc : c = if 2 * r + 2 < hi ∧ ltInt d[first + (2 * r + 1)]! d[first + (2 * r + 1) + 1]! = true then 2 * r + 2 else 2 * r + 1) :
    siftDown ltInt hi first r d = if ltInt d[first + r]! d[first + c]! = true then siftDown ltInt hi first c (Go.Sort.swp d (first + r) (first + c)) else d := by
  subst hc
  rw [siftDown, dif_neg (by omega)]
  by_cases h2 : 2 * r + 2 < hi ∧ ltInt d[first + (2 * r + 1)]! d[first + (2 * r + 1) + 1]! = true
  · rw [if_pos (by simp only [Bool.and_eq_true, decide_eq_true_eq]; exact h2), if_pos h2]
    by_cases h3 : ltInt d[first + r]! d[first + (2 * r + 2)]! = true
    · rw [if_neg (by simp [h3]), dif_pos h2.1, if_pos h3]
    · rw [if_pos (by simpa using h3), if_neg h3]
  · rw [if_neg (by simp only [Bool.and_eq_true, decide_eq_true_eq]; exact h2), if_neg h2]
    by_cases h3 : ltInt d[first + r]! d[first + (2 * r + 1)]! = true
    · rw [if_neg (by simp [h3]), if_pos h3]
    · rw [if_pos (by simpa using h3), if_neg h3]
set_option maxHeartbeats 4000000 in
theorem ssift_any (B g n cap hi first r0 : Nat) (d : Array Int) (w : World) (h : OwnA w B g n cap d) (hn : n ≤ 1000) (hb : first + hi ≤ n) (hr : r0 ≤ 1000) :
    Calls Try.prog 96 #[.slice (some ⟨g, 0, none⟩) n cap, .int .i64 r0, .int .i64 hi, .int .i64 first] w (SrP B g n cap (siftDown ltInt hi first r0 d) w) := by
  obtain ⟨F, hF⟩ : ∃ F, F = siftDown ltInt hi first r0 d := ⟨_, rfl⟩
  rw [← hF]
  have H0 : Hid (OwnA w B g n cap d ∧ siftDown ltInt hi first r0 d = F ∧ Ks (fun x => x = g) w w) := Lib.hid ⟨h, hF.symm, Ks.refl _ _⟩
  clear h hF
  go_enter Try.func96, Try.ntmps96
  go_wp2
  go_loopw [8] (fun x wr => ∃ (r : Nat) (d : Array Int), r ≤ 1000 ∧ x = .int .i64 r ∧ Hid (OwnA wr B g n cap d ∧ siftDown ltInt hi first r d = F ∧ Ks (fun x => x = g) w wr)) (fun x _ => 1000 - (intOf x).toNat)
  case atStart => exact ⟨r0, d, hr, rfl, H0⟩
  case round =>
    clear H0
    obtain ⟨r, d, hr1, rfl, HR⟩ := hrel
    obtain ⟨ho, hF, hk⟩ := HR.out
    obtain ⟨c1, hc1⟩ : ∃ c, c = 2 * r + 1 := ⟨_, rfl⟩
    have e1 : IntKind.i64.wrap (2 * (r : Int)) = 2 * (r : Int) := IntWalk.i64_in _ (by omega)
    have e2 : IntKind.i64.wrap (2 * (r : Int) + 1) = (c1 : Int) := by rw [IntWalk.i64_in _ (by omega)]; omega
    by_cases hch : hi ≤ c1
    · have e3 : (hi : Int) ≤ c1 := by omega
      have HE : Hid (OwnA wr B g n cap F ∧ Ks (fun x => x = g) w wr) := Lib.hid ⟨by rw [← hF, sd_done (by omega)]; exact ho, hk⟩
      clear ho hF hk HR hc1
      go_wp2
      refine bodyPost_ret (v := .tuple #[]) (results_none rfl _ _ _) rfl ?_
      exact ⟨rfl, HE.out.1, HE.out.2⟩
    · have e3 : ¬ (hi : Int) ≤ c1 := by omega
      have HSTEP := Lib.hid (fun c hc => sd_step (hi := hi) (first := first) (r := r) (c := c) (d := d) (by omega) hc)
      obtain ⟨c2, hc2⟩ : ∃ c, c = c1 + 1 := ⟨_, rfl⟩
      obtain ⟨p0, hp0⟩ : ∃ c, c = first + r := ⟨_, rfl⟩
      obtain ⟨p1, hp1⟩ : ∃ c, c = first + c1 := ⟨_, rfl⟩
      obtain ⟨p2, hp2⟩ : ∃ c, c = p1 + 1 := ⟨_, rfl⟩
      have e4 : IntKind.i64.wrap ((c1 : Int) + 1) = (c2 : Int) := by rw [IntWalk.i64_in _ (by omega)]; omega
      have e5 : IntKind.i64.wrap ((first : Int) + r) = (p0 : Int) := by rw [IntWalk.i64_in _ (by omega)]; omega
      have e6 : IntKind.i64.wrap ((first : Int) + c1) = (p1 : Int) := by rw [IntWalk.i64_in _ (by omega)]; omega
      have e7 : IntKind.i64.wrap ((p1 : Int) + 1) = (p2 : Int) := by rw [IntWalk.i64_in _ (by omega)]; omega
      have e8 : IntKind.i64.wrap ((first : Int) + c2) = (p2 : Int) := by rw [IntWalk.i64_in _ (by omega)]; omega
      have l0 : (p0 : Int) < n := by omega
      have l1 : (p1 : Int) < n := by omega
      have m0 : p0 < n := by omega
      have m1 : p1 < n := by omega
      have m01 : p0 < p1 := by omega
      have m12 : p1 < p2 := by omega
      have k1 : c1 ≤ 1000 := by omega
      have k2 : c2 ≤ 1000 := by omega
      have r1 : r < c1 := by omega
      have r2 : c1 < c2 := by omega
      have HP0 : Hid (first + r = p0) := Lib.hid hp0.symm
      have HS : Hid (c1 = 2 * r + 1 ∧ c2 = 2 * r + 2 ∧ p1 = first + (2 * r + 1) ∧ p2 = first + (2 * r + 1) + 1 ∧ p2 = first + c2 ∧ p1 = first + c1) := Lib.hid ⟨hc1, by omega, by omega, by omega, by omega, by omega⟩
      have HF := Lib.hid hF
      have hS : (fun w' => OwnA w' B g n cap d) wr.drew := ho.drew
      have HK := Lib.hid (hk.trans (Ks.of_below (below_one' wr)))
      by_cases hc2h : c2 < hi
      · have e9 : (c2 : Int) < hi := by omega
        have l2 : (p2 : Int) < n := by omega
        have m2 : p2 < n := by omega
        have L : ∀ w', (fun w' => OwnA w' B g n cap d) w' → w'.cell? ⟨g, p1, none⟩ = some (.int .u64 d[p1]!) ∧ w'.cell? ⟨g, p2, none⟩ = some (.int .u64 d[p2]!) := fun w' h => ⟨OwnA.cell h m1, OwnA.cell h m2⟩
        clear hc1 hc2 hp0 hp1 hp2 ho hF hk HR hch
        go_wp2
        refine Seq.wp_region_seq (fun w' => OwnA w' B g n cap d) (by kernel_rfl) (by kernel_rfl) hS ?_
        generalize wr.drew = w1 at *
        repeat (first | (refine Seq.Seq.skip (by rfl) ?_; (try simp only [Act.put, List.setIfInBounds_toArray, List.set_cons_zero, List.set_cons_succ])) | (refine Seq.Seq.det ?_ (by rfl) (fun w hS => ?_) ?_; rotate_left; ((try dsimp only at hS); go_simp; (try rw [if_pos (by omega)]); with_reducible rfl); (try simp only [Act.put, List.setIfInBounds_toArray, List.set_cons_zero, List.set_cons_succ])))
        refine Seq.Seq.make (by rfl) (by rfl) (fun K Q' hK => ?_)
        go_simp
        go_at_call 88
        refine (lessu_any _ _ _).mono ?_
        rintro e w' ⟨rfl, rfl⟩
        refine hK.out _ _ (hS) ?_
        clear hK K
        try simp only [Act.put, List.setIfInBounds_toArray, List.set_cons_zero, List.set_cons_succ]
        repeat (first | (refine Seq.Seq.skip (by rfl) ?_; (try simp only [Act.put, List.setIfInBounds_toArray, List.set_cons_zero, List.set_cons_succ])) | (refine Seq.Seq.det ?_ (by rfl) (fun w hS => ?_) ?_; rotate_left; ((try dsimp only at hS); go_simp; (try rw [if_pos (by omega)]); with_reducible rfl); (try simp only [Act.put, List.setIfInBounds_toArray, List.set_cons_zero, List.set_cons_succ])))
        refine Seq.Seq.nil ?_
        clear L
        obtain ⟨q, hq⟩ : ∃ q, q = ltInt d[p1]! d[p2]! := ⟨_, rfl⟩
        rw [← hq]
        have HQ := Lib.hid hq
        clear hq
        cases q
        · have HCC : Hid (c1 = if 2 * r + 2 < hi ∧ ltInt d[first + (2 * r + 1)]! d[first + (2 * r + 1) + 1]! = true then 2 * r + 2 else 2 * r + 1) := Lib.hid (by
            rw [← HS.out.2.2.1, ← show p2 = p1 + 1 by have := HS.out; omega, ← HQ.out, if_neg (by simp)]; exact HS.out.1)
          have HPC : Hid (first + c1 = p1) := Lib.hid HS.out.2.2.2.2.2.symm
          have L2 : ∀ w', (fun w' => OwnA w' B g n cap d) w' → w'.cell? ⟨g, p0, none⟩ = some (.int .u64 d[p0]!) ∧ w'.cell? ⟨g, p1, none⟩ = some (.int .u64 d[p1]!) := fun w' h => ⟨OwnA.cell h (by omega), OwnA.cell h (by omega)⟩
          have hS2 : (fun w' => OwnA w' B g n cap d) w1.drew := OwnA.drew hS
          have HK2 := Lib.hid (HK.out.trans (Ks.of_below (below_one' w1)))
          clear hS
          go_wp2
          refine Seq.wp_region_seq (fun w' => OwnA w' B g n cap d) (by kernel_rfl) (by kernel_rfl) hS2 ?_
          generalize w1.drew = w2 at *
          obtain ⟨x, hx⟩ : ∃ x, x = d[p0]! := ⟨_, rfl⟩
          obtain ⟨y, hy⟩ : ∃ y, y = d[p1]! := ⟨_, rfl⟩
          rw [← hx, ← hy] at L2
          have HX := Lib.hid hx
          have HY := Lib.hid hy
          clear hx hy
          repeat (first | (refine Seq.Seq.skip (by rfl) ?_; (try simp only [Act.put, List.setIfInBounds_toArray, List.set_cons_zero, List.set_cons_succ])) | (refine Seq.Seq.det ?_ (by rfl) (fun w hS => ?_) ?_; rotate_left; ((try dsimp only at hS); go_simp; (try rw [if_pos (by omega)]); with_reducible rfl); (try simp only [Act.put, List.setIfInBounds_toArray, List.set_cons_zero, List.set_cons_succ])))
          refine Seq.Seq.make (by rfl) (by rfl) (fun K Q' hK => ?_)
          go_simp
          go_at_call 88
          refine (lessu_any _ _ _).mono ?_
          rintro e w' ⟨rfl, rfl⟩
          refine hK.out _ _ (hS2) ?_
          clear hK K
          try simp only [Act.put, List.setIfInBounds_toArray, List.set_cons_zero, List.set_cons_succ]
          repeat (first | (refine Seq.Seq.skip (by rfl) ?_; (try simp only [Act.put, List.setIfInBounds_toArray, List.set_cons_zero, List.set_cons_succ])) | (refine Seq.Seq.det ?_ (by rfl) (fun w hS => ?_) ?_; rotate_left; ((try dsimp only at hS); go_simp; (try rw [if_pos (by omega)]); with_reducible rfl); (try simp only [Act.put, List.setIfInBounds_toArray, List.set_cons_zero, List.set_cons_succ])))
          refine Seq.Seq.nil ?_
          obtain ⟨cc0, cc1⟩ := L2 w2 hS2
          have f0 := OwnA.free hS2 p0
          have f1 := OwnA.free hS2 p1
          obtain ⟨t, ht⟩ : ∃ t, t = ltInt x y := ⟨_, rfl⟩
          rw [← ht]
          rw [HX.out, HY.out] at ht
          have HT := Lib.hid ht
          clear ht L2
          have HST := HSTEP.out c1 HCC.out
          cases t
          · have HE : Hid (OwnA w2 B g n cap F ∧ Ks (fun x => x = g) w w2) := Lib.hid ⟨by rw [← HF.out, HST, HP0.out, HPC.out, ← HT.out, if_neg (by decide)]; exact hS2, HK2.out⟩
            clear hS2 cc0 cc1 f0 f1 HST
            go_wp2
            refine bodyPost_ret (v := .tuple #[]) (results_none rfl _ _ _) rfl ?_
            exact ⟨rfl, HE.out.1, HE.out.2⟩
          · have HEND : Hid (OwnA ((w2.setCell ⟨g, p0, none⟩ (.int .u64 y)).setCell ⟨g, p1, none⟩ (.int .u64 x)).drew B g n cap (Go.Sort.swp d p0 p1) ∧ siftDown ltInt hi first c1 (Go.Sort.swp d p0 p1) = F ∧ Ks (fun x => x = g) w ((w2.setCell ⟨g, p0, none⟩ (.int .u64 y)).setCell ⟨g, p1, none⟩ (.int .u64 x)).drew) :=
              Lib.hid ⟨by rw [HX.out, HY.out]; exact (OwnA.swp hS2 p0 p1).drew, by rw [← HF.out, HST, HP0.out, HPC.out, ← HT.out, if_pos rfl], (Ks.two HK2.out).trans (Ks.of_below (below_one' _))⟩
            clear hS2 HST
            go_wp2
            go_region
            go_wp2
            go_roundw
            case rel => exact ⟨c1, _, by omega, by go_num, HEND⟩
            case measure => simp [intOf]; omega
        · have HCC : Hid (c2 = if 2 * r + 2 < hi ∧ ltInt d[first + (2 * r + 1)]! d[first + (2 * r + 1) + 1]! = true then 2 * r + 2 else 2 * r + 1) := Lib.hid (by
            rw [← HS.out.2.2.1, ← show p2 = p1 + 1 by have := HS.out; omega, ← HQ.out, if_pos ⟨by have := HS.out; omega, rfl⟩]; exact HS.out.2.1)
          have HPC : Hid (first + c2 = p2) := Lib.hid HS.out.2.2.2.2.1.symm
          have m02 : p0 < p2 := by omega
          have L2 : ∀ w', (fun w' => OwnA w' B g n cap d) w' → w'.cell? ⟨g, p0, none⟩ = some (.int .u64 d[p0]!) ∧ w'.cell? ⟨g, p2, none⟩ = some (.int .u64 d[p2]!) := fun w' h => ⟨OwnA.cell h (by omega), OwnA.cell h (by omega)⟩
          have hS2 : (fun w' => OwnA w' B g n cap d) w1.drew := OwnA.drew hS
          have HK2 := Lib.hid (HK.out.trans (Ks.of_below (below_one' w1)))
          clear hS
          go_wp2
          refine Seq.wp_region_seq (fun w' => OwnA w' B g n cap d) (by kernel_rfl) (by kernel_rfl) hS2 ?_
          generalize w1.drew = w2 at *
          obtain ⟨x, hx⟩ : ∃ x, x = d[p0]! := ⟨_, rfl⟩
          obtain ⟨y, hy⟩ : ∃ y, y = d[p2]! := ⟨_, rfl⟩
          rw [← hx, ← hy] at L2
          have HX := Lib.hid hx
          have HY := Lib.hid hy
          clear hx hy
          repeat (first | (refine Seq.Seq.skip (by rfl) ?_; (try simp only [Act.put, List.setIfInBounds_toArray, List.set_cons_zero, List.set_cons_succ])) | (refine Seq.Seq.det ?_ (by rfl) (fun w hS => ?_) ?_; rotate_left; ((try dsimp only at hS); go_simp; (try rw [if_pos (by omega)]); with_reducible rfl); (try simp only [Act.put, List.setIfInBounds_toArray, List.set_cons_zero, List.set_cons_succ])))
          refine Seq.Seq.make (by rfl) (by rfl) (fun K Q' hK => ?_)
          go_simp
          go_at_call 88
          refine (lessu_any _ _ _).mono ?_
          rintro e w' ⟨rfl, rfl⟩
          refine hK.out _ _ (hS2) ?_
          clear hK K
          try simp only [Act.put, List.setIfInBounds_toArray, List.set_cons_zero, List.set_cons_succ]
          repeat (first | (refine Seq.Seq.skip (by rfl) ?_; (try simp only [Act.put, List.setIfInBounds_toArray, List.set_cons_zero, List.set_cons_succ])) | (refine Seq.Seq.det ?_ (by rfl) (fun w hS => ?_) ?_; rotate_left; ((try dsimp only at hS); go_simp; (try rw [if_pos (by omega)]); with_reducible rfl); (try simp only [Act.put, List.setIfInBounds_toArray, List.set_cons_zero, List.set_cons_succ])))
          refine Seq.Seq.nil ?_
          obtain ⟨cc0, cc1⟩ := L2 w2 hS2
          have f0 := OwnA.free hS2 p0
          have f1 := OwnA.free hS2 p2
          obtain ⟨t, ht⟩ : ∃ t, t = ltInt x y := ⟨_, rfl⟩
          rw [← ht]
          rw [HX.out, HY.out] at ht
          have HT := Lib.hid ht
          clear ht L2
          have HST := HSTEP.out c2 HCC.out
          cases t
          · have HE : Hid (OwnA w2 B g n cap F ∧ Ks (fun x => x = g) w w2) := Lib.hid ⟨by rw [← HF.out, HST, HP0.out, HPC.out, ← HT.out, if_neg (by decide)]; exact hS2, HK2.out⟩
            clear hS2 cc0 cc1 f0 f1 HST
            go_wp2
            refine bodyPost_ret (v := .tuple #[]) (results_none rfl _ _ _) rfl ?_
            exact ⟨rfl, HE.out.1, HE.out.2⟩
          · have HEND : Hid (OwnA ((w2.setCell ⟨g, p0, none⟩ (.int .u64 y)).setCell ⟨g, p2, none⟩ (.int .u64 x)).drew B g n cap (Go.Sort.swp d p0 p2) ∧ siftDown ltInt hi first c2 (Go.Sort.swp d p0 p2) = F ∧ Ks (fun x => x = g) w ((w2.setCell ⟨g, p0, none⟩ (.int .u64 y)).setCell ⟨g, p2, none⟩ (.int .u64 x)).drew) :=
              Lib.hid ⟨by rw [HX.out, HY.out]; exact (OwnA.swp hS2 p0 p2).drew, by rw [← HF.out, HST, HP0.out, HPC.out, ← HT.out, if_pos rfl], (Ks.two HK2.out).trans (Ks.of_below (below_one' _))⟩
            clear hS2 HST
            go_wp2
            go_region
            go_wp2
            go_roundw
            case rel => exact ⟨c2, _, by omega, by go_num, HEND⟩
            case measure => simp [intOf]; omega
      · have e9 : ¬ (c2 : Int) < hi := by omega
        clear hc1 hc2 hp0 hp1 hp2 ho hF hk HR hch
        go_wp2
        refine Seq.wp_region_seq (fun w' => OwnA w' B g n cap d) (by kernel_rfl) (by kernel_rfl) hS ?_
        generalize wr.drew = w1 at *
        repeat (first | (refine Seq.Seq.skip (by rfl) ?_; (try simp only [Act.put, List.setIfInBounds_toArray, List.set_cons_zero, List.set_cons_succ])) | (refine Seq.Seq.det ?_ (by rfl) (fun w hS => ?_) ?_; rotate_left; ((try dsimp only at hS); go_simp; (try rw [if_pos (by omega)]); with_reducible rfl); (try simp only [Act.put, List.setIfInBounds_toArray, List.set_cons_zero, List.set_cons_succ])))
        refine Seq.Seq.nil ?_
        have HCC : Hid (c1 = if 2 * r + 2 < hi ∧ ltInt d[first + (2 * r + 1)]! d[first + (2 * r + 1) + 1]! = true then 2 * r + 2 else 2 * r + 1) := Lib.hid (by
          rw [if_neg (fun h => by have := HS.out; omega)]; exact HS.out.1)
        have HPC : Hid (first + c1 = p1) := Lib.hid HS.out.2.2.2.2.2.symm
        have L2 : ∀ w', (fun w' => OwnA w' B g n cap d) w' → w'.cell? ⟨g, p0, none⟩ = some (.int .u64 d[p0]!) ∧ w'.cell? ⟨g, p1, none⟩ = some (.int .u64 d[p1]!) := fun w' h => ⟨OwnA.cell h (by omega), OwnA.cell h (by omega)⟩
        have hS2 : (fun w' => OwnA w' B g n cap d) w1.drew := OwnA.drew hS
        have HK2 := Lib.hid (HK.out.trans (Ks.of_below (below_one' w1)))
        clear hS
        go_wp2
        refine Seq.wp_region_seq (fun w' => OwnA w' B g n cap d) (by kernel_rfl) (by kernel_rfl) hS2 ?_
        generalize w1.drew = w2 at *
        obtain ⟨x, hx⟩ : ∃ x, x = d[p0]! := ⟨_, rfl⟩
        obtain ⟨y, hy⟩ : ∃ y, y = d[p1]! := ⟨_, rfl⟩
        rw [← hx, ← hy] at L2
        have HX := Lib.hid hx
        have HY := Lib.hid hy
        clear hx hy
        repeat (first | (refine Seq.Seq.skip (by rfl) ?_; (try simp only [Act.put, List.setIfInBounds_toArray, List.set_cons_zero, List.set_cons_succ])) | (refine Seq.Seq.det ?_ (by rfl) (fun w hS => ?_) ?_; rotate_left; ((try dsimp only at hS); go_simp; (try rw [if_pos (by omega)]); with_reducible rfl); (try simp only [Act.put, List.setIfInBounds_toArray, List.set_cons_zero, List.set_cons_succ])))
        refine Seq.Seq.make (by rfl) (by rfl) (fun K Q' hK => ?_)
        go_simp
        go_at_call 88
        refine (lessu_any _ _ _).mono ?_
        rintro e w' ⟨rfl, rfl⟩
        refine hK.out _ _ (hS2) ?_
        clear hK K
        try simp only [Act.put, List.setIfInBounds_toArray, List.set_cons_zero, List.set_cons_succ]
        repeat (first | (refine Seq.Seq.skip (by rfl) ?_; (try simp only [Act.put, List.setIfInBounds_toArray, List.set_cons_zero, List.set_cons_succ])) | (refine Seq.Seq.det ?_ (by rfl) (fun w hS => ?_) ?_; rotate_left; ((try dsimp only at hS); go_simp; (try rw [if_pos (by omega)]); with_reducible rfl); (try simp only [Act.put, List.setIfInBounds_toArray, List.set_cons_zero, List.set_cons_succ])))
        refine Seq.Seq.nil ?_
        obtain ⟨cc0, cc1⟩ := L2 w2 hS2
        have f0 := OwnA.free hS2 p0
        have f1 := OwnA.free hS2 p1
        obtain ⟨t, ht⟩ : ∃ t, t = ltInt x y := ⟨_, rfl⟩
        rw [← ht]
        rw [HX.out, HY.out] at ht
        have HT := Lib.hid ht
        clear ht L2
        have HST := HSTEP.out c1 HCC.out
        cases t
        · have HE : Hid (OwnA w2 B g n cap F ∧ Ks (fun x => x = g) w w2) := Lib.hid ⟨by rw [← HF.out, HST, HP0.out, HPC.out, ← HT.out, if_neg (by decide)]; exact hS2, HK2.out⟩
          clear hS2 cc0 cc1 f0 f1 HST
          go_wp2
          refine bodyPost_ret (v := .tuple #[]) (results_none rfl _ _ _) rfl ?_
          exact ⟨rfl, HE.out.1, HE.out.2⟩
        · have HEND : Hid (OwnA ((w2.setCell ⟨g, p0, none⟩ (.int .u64 y)).setCell ⟨g, p1, none⟩ (.int .u64 x)).drew B g n cap (Go.Sort.swp d p0 p1) ∧ siftDown ltInt hi first c1 (Go.Sort.swp d p0 p1) = F ∧ Ks (fun x => x = g) w ((w2.setCell ⟨g, p0, none⟩ (.int .u64 y)).setCell ⟨g, p1, none⟩ (.int .u64 x)).drew) :=
            Lib.hid ⟨by rw [HX.out, HY.out]; exact (OwnA.swp hS2 p0 p1).drew, by rw [← HF.out, HST, HP0.out, HPC.out, ← HT.out, if_pos rfl], (Ks.two HK2.out).trans (Ks.of_below (below_one' _))⟩
          clear hS2 HST
          go_wp2
          go_region
          go_wp2
          go_roundw
          case rel => exact ⟨c1, _, by omega, by go_num, HEND⟩
          case measure => simp [intOf]; omega
end Go.Proofs.Ytpoicagalmhfdaa.Cur
