/- slices.Sort at numbers of 64 digits: the partial insertion sort. -/
import Derived.Test.YtpoicagalmhfdaaSrtH
namespace Go.Proofs.Ytpoicagalmhfdaa.Cur
open Go.RowKit Mem Go.Sort
set_option linter.unusedVariables false
set_option maxRecDepth 100000



theorem scs_step (d : Array Int) {b k : Nat} (h : k < b) : scanSorted ltInt d b k = if ltInt d[k]! d[k - 1]! = true then k else scanSorted ltInt d b (k + 1) := by
  conv => lhs; unfold scanSorted
  by_cases hq : ltInt d[k]! d[k - 1]! = true
  · rw [if_pos hq, if_neg (by simp [hq])]
  · rw [if_neg hq, if_pos (by simp [h, hq])]
theorem scs_done (d : Array Int) {b k : Nat} (h : ¬ k < b) : scanSorted ltInt d b k = k := by
  unfold scanSorted
  simp [h]
theorem scs_bounds (d : Array Int) (b : Nat) : ∀ (f k : Nat), b - k ≤ f → k ≤ b → k ≤ scanSorted ltInt d b k ∧ scanSorted ltInt d b k ≤ b
  | 0, k, hf, hk => by rw [scs_done d (by omega)]; omega
  | f + 1, k, hf, hk => by
    by_cases h : k < b
    · rw [scs_step d h]
      split
      · omega
      · have := scs_bounds d b f (k + 1) (by omega) (by omega)
        omega
    · rw [scs_done d h]; omega
theorem shd_step (d : Array Int) {k m : Nat} (h : k = m + 1) : shiftDown ltInt k d = if ltInt d[k]! d[m]! = true then shiftDown ltInt m (Go.Sort.swp d k m) else d := by
  subst h
  conv => lhs; unfold shiftDown
  by_cases hq : ltInt d[m + 1]! d[m]! = true
  · rw [if_pos hq, if_neg (by simp [hq])]
  · rw [if_neg hq, if_pos (by simp [hq])]
theorem shu_step (d : Array Int) {b k m : Nat} (h : k = m + 1) (hk : k < b) : shiftUp ltInt b k d = if ltInt d[k]! d[m]! = true then shiftUp ltInt b (k + 1) (Go.Sort.swp d k m) else d := by
  subst h
  conv => lhs; unfold shiftUp
  rw [if_pos hk]
  show (if (!ltInt d[m + 1]! d[m]!) = true then _ else _) = _
  by_cases hq : ltInt d[m + 1]! d[m]! = true
  · rw [if_pos hq, if_neg (by simp [hq])]; rfl
  · rw [if_neg hq, if_pos (by simp [hq])]
theorem shu_done (d : Array Int) {b k : Nat} (h : ¬ k < b) : shiftUp ltInt b k d = d := by
  unfold shiftUp
  rw [if_neg h]
theorem pin_step {a b s i i2 : Nat} {d : Array Int} (hi : scanSorted ltInt d b i = i2) :
    partialIns ltInt a b (s + 1) i d = if i2 = b then (d, true) else if b - a < 50 then (d, false) else
      partialIns ltInt a b s i2 (if b - i2 ≥ 2 then shiftUp ltInt b (i2 + 1) (if i2 - a ≥ 2 then shiftDown ltInt (i2 - 1) (Go.Sort.swp d i2 (i2 - 1)) else Go.Sort.swp d i2 (i2 - 1)) else (if i2 - a ≥ 2 then shiftDown ltInt (i2 - 1) (Go.Sort.swp d i2 (i2 - 1)) else Go.Sort.swp d i2 (i2 - 1))) := by
  subst hi
  rfl

/-- What the partial sort answers. -/
def SbP (B g n cap : Nat) (r : Array Int × Bool) (w : World) (e : Ending) (w' : World) : Prop := e = .returned (.bool r.2) ∧ OwnA w' B g n cap r.1 ∧ Ks (fun x => x = g) w w'
set_option maxHeartbeats 8000000 in
theorem spins_any (B g n cap a b : Nat) (d : Array Int) (w : World) (h : OwnA w B g n cap d) (hn : n ≤ 1000) (hab : a < b) (hb : b ≤ n) :
    Calls Try.prog 87 #[.slice (some ⟨g, 0, none⟩) n cap, .int .i64 a, .int .i64 b] w (SbP B g n cap (partialInsertionSort ltInt d a b) w) := by
  unfold partialInsertionSort
  obtain ⟨F, hF⟩ : ∃ F, F = partialIns ltInt a b 5 (a + 1) d := ⟨_, rfl⟩
  rw [← hF]
  have H0 : Hid (OwnA w B g n cap d ∧ partialIns ltInt a b 5 (a + 1) d = F ∧ Ks (fun x => x = g) w w) := Lib.hid ⟨h, hF.symm, Ks.refl _ _⟩
  have e0 : IntKind.i64.wrap ((a : Int) + 1) = ((a + 1 : Nat) : Int) := IntWalk.i64_in _ (by omega)
  obtain ⟨p1, hp1⟩ : ∃ x, x = b - a := ⟨_, rfl⟩
  have e1 : IntKind.i64.wrap ((b : Int) - a) = (p1 : Int) := by rw [IntWalk.i64_in _ (by omega)]; omega
  have HP1 := Lib.hid hp1
  clear h hF hp1
  go_enter Try.func87, Try.ntmps87
  go_wp2
  go_loopw [7, 8] (fun x y wr => ∃ (i t s : Nat) (d : Array Int), a < i ∧ i ≤ b ∧ t + s = 5 ∧ x = .int .i64 i ∧ y = .int .i64 t ∧ Hid (OwnA wr B g n cap d ∧ partialIns ltInt a b s i d = F ∧ Ks (fun x => x = g) w wr)) (fun x y _ => 5 - (intOf y).toNat)
  case atStart => exact ⟨a + 1, 0, 5, d, by omega, by omega, rfl, by go_num, rfl, H0⟩
  case round =>
    clear H0 e0 d
    obtain ⟨i, t, s, d, ai, ib, ts, rfl, rfl, HR⟩ := hrel
    rcases s with _ | s
    · have ht : ¬ (t : Int) < 5 := by omega
      have HE : Hid (F = (d, false)) := Lib.hid HR.out.2.1.symm
      have HC := Lib.hid (And.intro HR.out.1 HR.out.2.2)
      clear ts HR
      go_wp2
      go_ret
      rw [HE.out]
      exact ⟨rfl, HC.out.1, HC.out.2⟩
    · have ht : (t : Int) < 5 := by omega
      have e2 : IntKind.i64.wrap ((t : Int) + 1) = ((t + 1 : Nat) : Int) := IntWalk.i64_in _ (by omega)
      obtain ⟨i2, hi2⟩ : ∃ x, x = scanSorted ltInt d b i := ⟨_, rfl⟩
      have q1 := scs_bounds d b (b - i) i (Nat.le_refl _) ib
      rw [← hi2] at q1
      obtain ⟨q1, q2⟩ := q1
      have HST := Lib.hid (pin_step (a := a) (s := s) hi2.symm)
      have HI := Lib.hid hi2.symm
      have HF := Lib.hid HR.out.2.1
      have HC := Lib.hid (And.intro HR.out.1 HR.out.2.2)
      clear HR hi2
      go_upto_block 2 with fail
      go_cut [7] from 17 to 34 (fun x wx => x = .int .i64 (i2 : Nat) ∧ Hid (OwnA wx B g n cap d ∧ Ks (fun x => x = g) w wx))
      case first =>
        go_wp2
        go_loopw [7] (fun x wr => ∃ k : Nat, i ≤ k ∧ k ≤ b ∧ x = .int .i64 k ∧ Hid (OwnA wr B g n cap d ∧ scanSorted ltInt d b k = i2 ∧ Ks (fun x => x = g) w wr)) (fun x _ => 1001 - (intOf x).toNat)
        case atStart => exact ⟨i, Nat.le_refl _, ib, rfl, Lib.hid ⟨HC.out.1, HI.out, HC.out.2⟩⟩
        case round =>
          clear HC HI HF HST
          obtain ⟨k, hik, hkb, rfl, HR⟩ := hrel
          by_cases hkj : k < b
          · obtain ⟨m, hm⟩ : ∃ m, m = k - 1 := ⟨_, rfl⟩
            have e3 : (k : Int) < b := by omega
            have e4 : IntKind.i64.wrap ((k : Int) + 1) = ((k + 1 : Nat) : Int) := IntWalk.i64_in _ (by omega)
            have e5 : IntKind.i64.wrap ((k : Int) - 1) = (m : Int) := by rw [IntWalk.i64_in _ (by omega)]; omega
            have b0 : (k : Int) < n := by omega
            have b1 : k < n := by omega
            have b2 : (m : Int) < n := by omega
            have b3 : m < n := by omega
            have HIN : Hid (scanSorted ltInt d b k = if ltInt d[k]! d[m]! = true then k else scanSorted ltInt d b (k + 1)) := Lib.hid (by rw [hm]; exact scs_step d hkj)
            clear hm
            obtain ⟨x, hx⟩ : ∃ x, x = d[k]! := ⟨_, rfl⟩
            obtain ⟨y, hy⟩ : ∃ y, y = d[m]! := ⟨_, rfl⟩
            have L : ∀ w', (fun w' => OwnA w' B g n cap d) w' → w'.cell? ⟨g, k, none⟩ = some (.int .u64 x) ∧ w'.cell? ⟨g, m, none⟩ = some (.int .u64 y) := fun w' h => by
              rw [hx, hy]; exact ⟨OwnA.cell h (by omega), OwnA.cell h (by omega)⟩
            have hS : (fun w' => OwnA w' B g n cap d) wr.drew := HR.out.1.drew
            have HX := Lib.hid hx
            have HY := Lib.hid hy
            have HF := Lib.hid HR.out.2.1
            have HK := Lib.hid (HR.out.2.2.trans (Ks.of_below (below_one' wr)))
            clear HR hx hy
            go_wp2
            refine Seq.wp_region_seq (fun w' => OwnA w' B g n cap d) (by kernel_rfl) (by kernel_rfl) hS ?_
            generalize wr.drew = w1 at *
            repeat (first | (refine Seq.Seq.skip (by rfl) ?_; (try simp only [Act.put, List.setIfInBounds_toArray, List.set_cons_zero, List.set_cons_succ])) | (refine Seq.Seq.det ?_ (by rfl) (fun w hS => ?_) ?_; rotate_left; ((try dsimp only at hS); go_simp; (try rw [if_pos (by omega)]); with_reducible rfl); (try simp only [Act.put, List.setIfInBounds_toArray, List.set_cons_zero, List.set_cons_succ])))
            refine Seq.Seq.make (by rfl) (by rfl) (fun K Q' hK => ?_)
            go_simp
            go_at_call 88
            refine (lessu_any _ _ _).mono ?_
            rintro e w' ⟨rfl, rfl⟩
            refine hK.out _ _ (hS) ?_
            clear hK K
            try simp only [Act.put, List.setIfInBounds_toArray, List.set_cons_zero, List.set_cons_succ]
            repeat (first | (refine Seq.Seq.skip (by rfl) ?_; (try simp only [Act.put, List.setIfInBounds_toArray, List.set_cons_zero, List.set_cons_succ])) | (refine Seq.Seq.det ?_ (by rfl) (fun w hS => ?_) ?_; rotate_left; ((try dsimp only at hS); go_simp; (try rw [if_pos (by omega)]); with_reducible rfl); (try simp only [Act.put, List.setIfInBounds_toArray, List.set_cons_zero, List.set_cons_succ])))
            refine Seq.Seq.nil ?_
            obtain ⟨q, hq⟩ : ∃ q, q = ltInt x y := ⟨_, rfl⟩
            rw [← hq]
            rw [HX.out, HY.out] at hq
            have HQ := Lib.hid hq
            clear L hq
            cases q
            · have HE : Hid (OwnA w1 B g n cap d ∧ scanSorted ltInt d b (k + 1) = i2 ∧ Ks (fun x => x = g) w w1) := Lib.hid ⟨hS, by
                have h9 := HF.out
                rw [HIN.out, ← HQ.out, if_neg (by decide)] at h9
                exact h9, HK.out⟩
              clear hS
              go_wp2
              go_roundw
              case rel => exact ⟨k + 1, by omega, by omega, by go_num, HE⟩
              case measure => simp [intOf]; omega
            · have HE : Hid (k = i2 ∧ OwnA w1 B g n cap d ∧ Ks (fun x => x = g) w w1) := Lib.hid ⟨by
                have h9 := HF.out
                rw [HIN.out, ← HQ.out, if_pos rfl] at h9
                exact h9, hS, HK.out⟩
              clear hS
              go_wp2
              go_meet
              exact ⟨by rw [HE.out.1], Lib.hid HE.out.2⟩
          · have e3 : ¬ (k : Int) < b := by omega
            have HE : Hid (k = i2 ∧ OwnA wr.drew B g n cap d ∧ Ks (fun x => x = g) w wr.drew) := Lib.hid ⟨by
                have h9 := HR.out.2.1
                rw [scs_done d hkj] at h9
                exact h9, HR.out.1.drew, HR.out.2.2.trans (Ks.of_below (below_one' wr))⟩
            clear HR
            go_wp2
            refine Seq.wp_region_seq (fun w' => True) (by kernel_rfl) (by kernel_rfl) trivial ?_
            generalize wr.drew = w1 at *
            have hS : (fun w' : World => True) w1 := trivial
            repeat (first | (refine Seq.Seq.skip (by rfl) ?_; (try simp only [Act.put, List.setIfInBounds_toArray, List.set_cons_zero, List.set_cons_succ])) | (refine Seq.Seq.det ?_ (by rfl) (fun w hS => ?_) ?_; rotate_left; ((try dsimp only at hS); go_simp; (try rw [if_pos (by omega)]); with_reducible rfl); (try simp only [Act.put, List.setIfInBounds_toArray, List.set_cons_zero, List.set_cons_succ])))
            refine Seq.Seq.nil ?_
            go_wp2
            go_meet
            exact ⟨by rw [HE.out.1], Lib.hid HE.out.2⟩
      case rest =>
        clear HC HI
        obtain ⟨rfl, HC⟩ := hcut
        by_cases hib : i2 = b
        · subst hib
          have HE : Hid (F = (d, true)) := Lib.hid (by rw [← HF.out, HST.out, if_pos rfl])
          clear HF HST
          go_wp2
          go_ret
          rw [HE.out]
          exact ⟨rfl, HC.out.1, HC.out.2⟩
        · have q3 : ((i2 : Int) == b) = false := by rw [beq_eq_false_iff_ne]; omega
          by_cases h50 : p1 < 50
          · have p50 : (p1 : Int) < 50 := by omega
            have HE : Hid (F = (d, false)) := Lib.hid (by rw [← HF.out, HST.out, if_neg hib, ← HP1.out, if_pos h50])
            clear HF HST hib h50
            go_wp2
            go_ret
            rw [HE.out]
            exact ⟨rfl, HC.out.1, HC.out.2⟩
          · have p50 : ¬ (p1 : Int) < 50 := by omega
            have q5 : i2 < b := by omega
            obtain ⟨m2, hm2⟩ : ∃ x, x = i2 - 1 := ⟨_, rfl⟩
            obtain ⟨p2, hp2⟩ : ∃ x, x = i2 - a := ⟨_, rfl⟩
            obtain ⟨p3, hp3⟩ : ∃ x, x = b - i2 := ⟨_, rfl⟩
            have e5 : IntKind.i64.wrap ((i2 : Int) - 1) = (m2 : Int) := by rw [IntWalk.i64_in _ (by omega)]; omega
            have e6 : IntKind.i64.wrap ((i2 : Int) - a) = (p2 : Int) := by rw [IntWalk.i64_in _ (by omega)]; omega
            have e7 : IntKind.i64.wrap ((b : Int) - i2) = (p3 : Int) := by rw [IntWalk.i64_in _ (by omega)]; omega
            have e8 : IntKind.i64.wrap ((i2 : Int) + 1) = ((i2 + 1 : Nat) : Int) := IntWalk.i64_in _ (by omega)
            have HF2 : Hid (partialIns ltInt a b s i2 (if p3 ≥ 2 then shiftUp ltInt b (i2 + 1) (if p2 ≥ 2 then shiftDown ltInt m2 (Go.Sort.swp d i2 m2) else Go.Sort.swp d i2 m2) else (if p2 ≥ 2 then shiftDown ltInt m2 (Go.Sort.swp d i2 m2) else Go.Sort.swp d i2 m2)) = F) := Lib.hid (by rw [hp3, hp2, hm2, ← HF.out, HST.out, if_neg hib, ← HP1.out, if_neg h50])
            have m2i : m2 < i2 := by omega
            clear HF HST hib h50 hm2 hp2 hp3
            go_wp2
            have c0 := HC.out.1.cell (i := i2) (by omega)
            have c1 := HC.out.1.cell (i := m2) (by omega)
            have f0 := HC.out.1.free i2
            have f1 := HC.out.1.free m2
            obtain ⟨v9, c9⟩ := HC.out.1.cell2 i2 (j := m2) (.int .u64 d[m2]!) (by omega)
            have l2 : ((i2 : Nat) : Int) < n := by omega
            have l3 : ((m2 : Nat) : Int) < n := by omega
            have HX : Hid (OwnA (((wc.setCell ⟨g, i2, none⟩ (.int .u64 d[m2]!)).setCell ⟨g, m2, none⟩ (.int .u64 d[i2]!)).drew) B g n cap (Go.Sort.swp d i2 m2) ∧ Ks (fun x => x = g) w (((wc.setCell ⟨g, i2, none⟩ (.int .u64 d[m2]!)).setCell ⟨g, m2, none⟩ (.int .u64 d[i2]!)).drew)) :=
              Lib.hid ⟨(HC.out.1.swp i2 m2).drew, (Ks.two HC.out.2).trans (Ks.of_below (below_one' _))⟩
            obtain ⟨x, hx⟩ : ∃ x, x = d[i2]! := ⟨_, rfl⟩
            obtain ⟨y, hy⟩ : ∃ y, y = d[m2]! := ⟨_, rfl⟩
            rw [← hx, ← hy] at HX
            rw [← hx] at c0
            rw [← hy] at c1 c9
            clear hx hy HC
            go_wp2
            go_region
            clear c0 c1 c9 f0 f1 l2 l3
            have HC := HX
            clear HX
            obtain ⟨D1, hD1⟩ : ∃ x, x = Go.Sort.swp d i2 m2 := ⟨_, rfl⟩
            rw [← hD1] at HC HF2
            clear hD1
            by_cases hu2 : p2 ≥ 2
            · have u2 : (2 : Int) ≤ p2 := by omega
              obtain ⟨D2, hD2⟩ : ∃ x, x = shiftDown ltInt m2 D1 := ⟨_, rfl⟩
              have H2 := Lib.hid hD2
              have HF := HF2
              rw [if_pos hu2, ← hD2] at HF
              clear hD2 HF2 hu2
              go_upto_block 4 with fail
              go_cut [9] from 64 to 94 (fun x wx => Hid (OwnA wx B g n cap D2 ∧ Ks (fun x => x = g) w wx))
              case first =>
                go_wp2
                go_loopw [9] (fun x wr => ∃ (k : Nat) (d : Array Int), k ≤ m2 ∧ x = .int .i64 k ∧ Hid (OwnA wr B g n cap d ∧ shiftDown ltInt k d = D2 ∧ Ks (fun x => x = g) w wr)) (fun x _ => (intOf x).toNat)
                case atStart => exact ⟨m2, D1, by omega, by go_num, Lib.hid ⟨HC.out.1, H2.out.symm, HC.out.2⟩⟩
                case round =>
                  clear HC H2 HF d
                  obtain ⟨k, d, hk1, rfl, HR⟩ := hrel
                  by_cases hk2 : 1 ≤ k
                  · obtain ⟨m, hm⟩ : ∃ m, k = m + 1 := ⟨k - 1, by omega⟩
                    have e20 : (1 : Int) ≤ k := by omega
                    have e21 : IntKind.i64.wrap ((k : Int) - 1) = (m : Int) := by rw [IntWalk.i64_in _ (by omega)]; omega
                    have b0 : (k : Int) < n := by omega
                    have b1 : (m : Int) < n := by omega
                    have hkn : k < n := by omega
                    have hmk : m < k := by omega
                    have HIN := Lib.hid (shd_step d hm)
                    clear hm
                    obtain ⟨x, hx⟩ : ∃ x, x = d[k]! := ⟨_, rfl⟩
                    obtain ⟨y, hy⟩ : ∃ y, y = d[m]! := ⟨_, rfl⟩
                    have L : ∀ w', (fun w' => OwnA w' B g n cap d) w' → w'.cell? ⟨g, k, none⟩ = some (.int .u64 x) ∧ w'.cell? ⟨g, m, none⟩ = some (.int .u64 y) := fun w' h => by
                      rw [hx, hy]; exact ⟨OwnA.cell h (by omega), OwnA.cell h (by omega)⟩
                    have hS : (fun w' => OwnA w' B g n cap d) wr.drew := HR.out.1.drew
                    have HX := Lib.hid hx
                    have HY := Lib.hid hy
                    have HF := Lib.hid HR.out.2.1
                    have HK := Lib.hid (HR.out.2.2.trans (Ks.of_below (below_one' wr)))
                    clear HR hx hy
                    go_wp2
                    refine Seq.wp_region_seq (fun w' => OwnA w' B g n cap d) (by kernel_rfl) (by kernel_rfl) hS ?_
                    generalize wr.drew = w1 at *
                    repeat (first | (refine Seq.Seq.skip (by rfl) ?_; (try simp only [Act.put, List.setIfInBounds_toArray, List.set_cons_zero, List.set_cons_succ])) | (refine Seq.Seq.det ?_ (by rfl) (fun w hS => ?_) ?_; rotate_left; ((try dsimp only at hS); go_simp; (try rw [if_pos (by omega)]); with_reducible rfl); (try simp only [Act.put, List.setIfInBounds_toArray, List.set_cons_zero, List.set_cons_succ])))
                    refine Seq.Seq.make (by rfl) (by rfl) (fun K Q' hK => ?_)
                    go_simp
                    go_at_call 88
                    refine (lessu_any _ _ _).mono ?_
                    rintro e w' ⟨rfl, rfl⟩
                    refine hK.out _ _ (hS) ?_
                    clear hK K
                    try simp only [Act.put, List.setIfInBounds_toArray, List.set_cons_zero, List.set_cons_succ]
                    repeat (first | (refine Seq.Seq.skip (by rfl) ?_; (try simp only [Act.put, List.setIfInBounds_toArray, List.set_cons_zero, List.set_cons_succ])) | (refine Seq.Seq.det ?_ (by rfl) (fun w hS => ?_) ?_; rotate_left; ((try dsimp only at hS); go_simp; (try rw [if_pos (by omega)]); with_reducible rfl); (try simp only [Act.put, List.setIfInBounds_toArray, List.set_cons_zero, List.set_cons_succ])))
                    refine Seq.Seq.nil ?_
                    obtain ⟨q, hq⟩ : ∃ q, q = ltInt x y := ⟨_, rfl⟩
                    rw [← hq]
                    rw [HX.out, HY.out] at hq
                    have HQ := Lib.hid hq
                    clear L hq
                    cases q
                    · have HE : Hid (OwnA w1 B g n cap D2 ∧ Ks (fun x => x = g) w w1) := Lib.hid ⟨by
                        have h9 := HF.out
                        rw [HIN.out, ← HQ.out, if_neg (by decide)] at h9
                        rw [← h9]; exact hS, HK.out⟩
                      clear hS
                      go_wp2
                      go_meet
                      exact HE
                    · have HFN : Hid (shiftDown ltInt m (Go.Sort.swp d k m) = D2) := Lib.hid (by
                        have h9 := HF.out
                        rw [HIN.out, ← HQ.out, if_pos rfl] at h9
                        exact h9)
                      have HC : Hid (OwnA w1 B g n cap d ∧ Ks (fun x => x = g) w w1) := Lib.hid ⟨hS, HK.out⟩
                      clear hS HIN HF HX HY HQ HK
                      go_wp2
                      have c0 := HC.out.1.cell (i := k) (by omega)
                      have c1 := HC.out.1.cell (i := m) (by omega)
                      have f0 := HC.out.1.free k
                      have f1 := HC.out.1.free m
                      obtain ⟨v9, c9⟩ := HC.out.1.cell2 k (j := m) (.int .u64 d[m]!) (by omega)
                      have l2 : ((k : Nat) : Int) < n := by omega
                      have l3 : ((m : Nat) : Int) < n := by omega
                      have HX : Hid (OwnA (((w1.setCell ⟨g, k, none⟩ (.int .u64 d[m]!)).setCell ⟨g, m, none⟩ (.int .u64 d[k]!)).drew) B g n cap (Go.Sort.swp d k m) ∧ Ks (fun x => x = g) w (((w1.setCell ⟨g, k, none⟩ (.int .u64 d[m]!)).setCell ⟨g, m, none⟩ (.int .u64 d[k]!)).drew)) :=
                        Lib.hid ⟨(HC.out.1.swp k m).drew, (Ks.two HC.out.2).trans (Ks.of_below (below_one' _))⟩
                      obtain ⟨x, hx⟩ : ∃ x, x = d[k]! := ⟨_, rfl⟩
                      obtain ⟨y, hy⟩ : ∃ y, y = d[m]! := ⟨_, rfl⟩
                      rw [← hx, ← hy] at HX
                      rw [← hx] at c0
                      rw [← hy] at c1 c9
                      clear hx hy HC
                      go_wp2
                      go_region
                      clear c0 c1 c9 f0 f1 l2 l3
                      have HC := HX
                      clear HX
                      go_wp2
                      go_roundw
                      case rel => exact ⟨m, _, by omega, by go_num, Lib.hid ⟨HC.out.1, HFN.out, HC.out.2⟩⟩
                      case measure => simp [intOf]; omega
                  · have e20 : ¬ (1 : Int) ≤ k := by omega
                    have HE : Hid (OwnA wr B g n cap D2 ∧ Ks (fun x => x = g) w wr) := Lib.hid ⟨by
                      have h9 := HR.out.2.1
                      rw [show k = 0 by omega] at h9
                      rw [← h9]; exact HR.out.1, HR.out.2.2⟩
                    clear HR
                    go_wp2
                    go_meet
                    exact HE
              case rest =>
                clear HC H2
                have HC := hcut
                clear hcut
                by_cases hu : p3 ≥ 2
                · have u0 : (2 : Int) ≤ p3 := by omega
                  obtain ⟨D3, hD3⟩ : ∃ x, x = shiftUp ltInt b (i2 + 1) D2 := ⟨_, rfl⟩
                  have H3 := Lib.hid hD3
                  have HFF : Hid (partialIns ltInt a b s i2 D3 = F) := Lib.hid (by have h9 := HF.out; rw [if_pos hu, ← hD3] at h9; exact h9)
                  clear hD3 HF
                  go_upto_block 6 with fail
                  go_wp2
                  go_loopw [10] (fun x wr => ∃ (k : Nat) (d : Array Int), 1 ≤ k ∧ k ≤ b ∧ x = .int .i64 k ∧ Hid (OwnA wr B g n cap d ∧ shiftUp ltInt b k d = D3 ∧ Ks (fun x => x = g) w wr)) (fun x _ => 1001 - (intOf x).toNat)
                  case atStart => exact ⟨i2 + 1, D2, by omega, by omega, by go_num, Lib.hid ⟨HC.out.1, H3.out.symm, HC.out.2⟩⟩
                  case round =>
                    clear HC H3 d
                    obtain ⟨k, d, hk1, hkb, rfl, HR⟩ := hrel
                    by_cases hkb2 : k < b
                    · obtain ⟨m, hm⟩ : ∃ m, k = m + 1 := ⟨k - 1, by omega⟩
                      have e20 : (k : Int) < b := by omega
                      have e21 : IntKind.i64.wrap ((k : Int) - 1) = (m : Int) := by rw [IntWalk.i64_in _ (by omega)]; omega
                      have e22 : IntKind.i64.wrap ((k : Int) + 1) = ((k + 1 : Nat) : Int) := IntWalk.i64_in _ (by omega)
                      have b0 : (k : Int) < n := by omega
                      have b1 : (m : Int) < n := by omega
                      have hkn : k < n := by omega
                      have hmk : m < k := by omega
                      have HIN := Lib.hid (shu_step d hm hkb2)
                      clear hm
                      obtain ⟨x, hx⟩ : ∃ x, x = d[k]! := ⟨_, rfl⟩
                      obtain ⟨y, hy⟩ : ∃ y, y = d[m]! := ⟨_, rfl⟩
                      have L : ∀ w', (fun w' => OwnA w' B g n cap d) w' → w'.cell? ⟨g, k, none⟩ = some (.int .u64 x) ∧ w'.cell? ⟨g, m, none⟩ = some (.int .u64 y) := fun w' h => by
                        rw [hx, hy]; exact ⟨OwnA.cell h (by omega), OwnA.cell h (by omega)⟩
                      have hS : (fun w' => OwnA w' B g n cap d) wr.drew := HR.out.1.drew
                      have HX := Lib.hid hx
                      have HY := Lib.hid hy
                      have HF := Lib.hid HR.out.2.1
                      have HK := Lib.hid (HR.out.2.2.trans (Ks.of_below (below_one' wr)))
                      clear HR hx hy
                      go_wp2
                      refine Seq.wp_region_seq (fun w' => OwnA w' B g n cap d) (by kernel_rfl) (by kernel_rfl) hS ?_
                      generalize wr.drew = w1 at *
                      repeat (first | (refine Seq.Seq.skip (by rfl) ?_; (try simp only [Act.put, List.setIfInBounds_toArray, List.set_cons_zero, List.set_cons_succ])) | (refine Seq.Seq.det ?_ (by rfl) (fun w hS => ?_) ?_; rotate_left; ((try dsimp only at hS); go_simp; (try rw [if_pos (by omega)]); with_reducible rfl); (try simp only [Act.put, List.setIfInBounds_toArray, List.set_cons_zero, List.set_cons_succ])))
                      refine Seq.Seq.make (by rfl) (by rfl) (fun K Q' hK => ?_)
                      go_simp
                      go_at_call 88
                      refine (lessu_any _ _ _).mono ?_
                      rintro e w' ⟨rfl, rfl⟩
                      refine hK.out _ _ (hS) ?_
                      clear hK K
                      try simp only [Act.put, List.setIfInBounds_toArray, List.set_cons_zero, List.set_cons_succ]
                      repeat (first | (refine Seq.Seq.skip (by rfl) ?_; (try simp only [Act.put, List.setIfInBounds_toArray, List.set_cons_zero, List.set_cons_succ])) | (refine Seq.Seq.det ?_ (by rfl) (fun w hS => ?_) ?_; rotate_left; ((try dsimp only at hS); go_simp; (try rw [if_pos (by omega)]); with_reducible rfl); (try simp only [Act.put, List.setIfInBounds_toArray, List.set_cons_zero, List.set_cons_succ])))
                      refine Seq.Seq.nil ?_
                      obtain ⟨q, hq⟩ : ∃ q, q = ltInt x y := ⟨_, rfl⟩
                      rw [← hq]
                      rw [HX.out, HY.out] at hq
                      have HQ := Lib.hid hq
                      clear L hq
                      cases q
                      · have HE : Hid (OwnA w1 B g n cap D3 ∧ Ks (fun x => x = g) w w1) := Lib.hid ⟨by
                          have h9 := HF.out
                          rw [HIN.out, ← HQ.out, if_neg (by decide)] at h9
                          rw [← h9]; exact hS, HK.out⟩
                        clear hS
                        go_wp2
                        go_roundw
                        case rel => exact ⟨i2, t + 1, s, D3, by omega, by omega, by omega, by go_num, by go_num, Lib.hid ⟨HE.out.1, HFF.out, HE.out.2⟩⟩
                        case measure => simp [intOf]; omega
                      · have HFN : Hid (shiftUp ltInt b (k + 1) (Go.Sort.swp d k m) = D3) := Lib.hid (by
                          have h9 := HF.out
                          rw [HIN.out, ← HQ.out, if_pos rfl] at h9
                          exact h9)
                        have HC : Hid (OwnA w1 B g n cap d ∧ Ks (fun x => x = g) w w1) := Lib.hid ⟨hS, HK.out⟩
                        clear hS HIN HF HX HY HQ HK
                        go_wp2
                        have c0 := HC.out.1.cell (i := k) (by omega)
                        have c1 := HC.out.1.cell (i := m) (by omega)
                        have f0 := HC.out.1.free k
                        have f1 := HC.out.1.free m
                        obtain ⟨v9, c9⟩ := HC.out.1.cell2 k (j := m) (.int .u64 d[m]!) (by omega)
                        have l2 : ((k : Nat) : Int) < n := by omega
                        have l3 : ((m : Nat) : Int) < n := by omega
                        have HX : Hid (OwnA (((w1.setCell ⟨g, k, none⟩ (.int .u64 d[m]!)).setCell ⟨g, m, none⟩ (.int .u64 d[k]!)).drew) B g n cap (Go.Sort.swp d k m) ∧ Ks (fun x => x = g) w (((w1.setCell ⟨g, k, none⟩ (.int .u64 d[m]!)).setCell ⟨g, m, none⟩ (.int .u64 d[k]!)).drew)) :=
                          Lib.hid ⟨(HC.out.1.swp k m).drew, (Ks.two HC.out.2).trans (Ks.of_below (below_one' _))⟩
                        obtain ⟨x, hx⟩ : ∃ x, x = d[k]! := ⟨_, rfl⟩
                        obtain ⟨y, hy⟩ : ∃ y, y = d[m]! := ⟨_, rfl⟩
                        rw [← hx, ← hy] at HX
                        rw [← hx] at c0
                        rw [← hy] at c1 c9
                        clear hx hy HC
                        go_wp2
                        go_region
                        clear c0 c1 c9 f0 f1 l2 l3
                        have HC := HX
                        clear HX
                        go_wp2
                        go_roundw
                        case rel => exact ⟨k + 1, _, by omega, by omega, by go_num, Lib.hid ⟨HC.out.1, HFN.out, HC.out.2⟩⟩
                        case measure => simp [intOf]; omega
                    · have e20 : ¬ (k : Int) < b := by omega
                      have HE : Hid (OwnA wr B g n cap D3 ∧ Ks (fun x => x = g) w wr) := Lib.hid ⟨by rw [← HR.out.2.1, shu_done d hkb2]; exact HR.out.1, HR.out.2.2⟩
                      clear HR
                      go_wp2
                      go_roundw
                      case rel => exact ⟨i2, t + 1, s, D3, by omega, by omega, by omega, by go_num, by go_num, Lib.hid ⟨HE.out.1, HFF.out, HE.out.2⟩⟩
                      case measure => simp [intOf]; omega
                · have u0 : ¬ (2 : Int) ≤ p3 := by omega
                  have HFF : Hid (partialIns ltInt a b s i2 D2 = F) := Lib.hid (by have h9 := HF.out; rw [if_neg hu] at h9; exact h9)
                  clear HF
                  go_wp2
                  go_roundw
                  case rel => exact ⟨i2, t + 1, s, D2, by omega, by omega, by omega, by go_num, by go_num, Lib.hid ⟨HC.out.1, HFF.out, HC.out.2⟩⟩
                  case measure => simp [intOf]; omega
            · have u2 : ¬ (2 : Int) ≤ p2 := by omega
              obtain ⟨D2, hD2⟩ : ∃ x, x = D1 := ⟨_, rfl⟩
              have HF := HF2
              rw [if_neg hu2, ← hD2] at HF
              rw [← hD2] at HC
              clear hD2 HF2 hu2 D1
              by_cases hu : p3 ≥ 2
              · have u0 : (2 : Int) ≤ p3 := by omega
                obtain ⟨D3, hD3⟩ : ∃ x, x = shiftUp ltInt b (i2 + 1) D2 := ⟨_, rfl⟩
                have H3 := Lib.hid hD3
                have HFF : Hid (partialIns ltInt a b s i2 D3 = F) := Lib.hid (by have h9 := HF.out; rw [if_pos hu, ← hD3] at h9; exact h9)
                clear hD3 HF
                go_upto_block 6 with fail
                go_wp2
                go_loopw [10] (fun x wr => ∃ (k : Nat) (d : Array Int), 1 ≤ k ∧ k ≤ b ∧ x = .int .i64 k ∧ Hid (OwnA wr B g n cap d ∧ shiftUp ltInt b k d = D3 ∧ Ks (fun x => x = g) w wr)) (fun x _ => 1001 - (intOf x).toNat)
                case atStart => exact ⟨i2 + 1, D2, by omega, by omega, by go_num, Lib.hid ⟨HC.out.1, H3.out.symm, HC.out.2⟩⟩
                case round =>
                  clear HC H3 d
                  obtain ⟨k, d, hk1, hkb, rfl, HR⟩ := hrel
                  by_cases hkb2 : k < b
                  · obtain ⟨m, hm⟩ : ∃ m, k = m + 1 := ⟨k - 1, by omega⟩
                    have e20 : (k : Int) < b := by omega
                    have e21 : IntKind.i64.wrap ((k : Int) - 1) = (m : Int) := by rw [IntWalk.i64_in _ (by omega)]; omega
                    have e22 : IntKind.i64.wrap ((k : Int) + 1) = ((k + 1 : Nat) : Int) := IntWalk.i64_in _ (by omega)
                    have b0 : (k : Int) < n := by omega
                    have b1 : (m : Int) < n := by omega
                    have hkn : k < n := by omega
                    have hmk : m < k := by omega
                    have HIN := Lib.hid (shu_step d hm hkb2)
                    clear hm
                    obtain ⟨x, hx⟩ : ∃ x, x = d[k]! := ⟨_, rfl⟩
                    obtain ⟨y, hy⟩ : ∃ y, y = d[m]! := ⟨_, rfl⟩
                    have L : ∀ w', (fun w' => OwnA w' B g n cap d) w' → w'.cell? ⟨g, k, none⟩ = some (.int .u64 x) ∧ w'.cell? ⟨g, m, none⟩ = some (.int .u64 y) := fun w' h => by
                      rw [hx, hy]; exact ⟨OwnA.cell h (by omega), OwnA.cell h (by omega)⟩
                    have hS : (fun w' => OwnA w' B g n cap d) wr.drew := HR.out.1.drew
                    have HX := Lib.hid hx
                    have HY := Lib.hid hy
                    have HF := Lib.hid HR.out.2.1
                    have HK := Lib.hid (HR.out.2.2.trans (Ks.of_below (below_one' wr)))
                    clear HR hx hy
                    go_wp2
                    refine Seq.wp_region_seq (fun w' => OwnA w' B g n cap d) (by kernel_rfl) (by kernel_rfl) hS ?_
                    generalize wr.drew = w1 at *
                    repeat (first | (refine Seq.Seq.skip (by rfl) ?_; (try simp only [Act.put, List.setIfInBounds_toArray, List.set_cons_zero, List.set_cons_succ])) | (refine Seq.Seq.det ?_ (by rfl) (fun w hS => ?_) ?_; rotate_left; ((try dsimp only at hS); go_simp; (try rw [if_pos (by omega)]); with_reducible rfl); (try simp only [Act.put, List.setIfInBounds_toArray, List.set_cons_zero, List.set_cons_succ])))
                    refine Seq.Seq.make (by rfl) (by rfl) (fun K Q' hK => ?_)
                    go_simp
                    go_at_call 88
                    refine (lessu_any _ _ _).mono ?_
                    rintro e w' ⟨rfl, rfl⟩
                    refine hK.out _ _ (hS) ?_
                    clear hK K
                    try simp only [Act.put, List.setIfInBounds_toArray, List.set_cons_zero, List.set_cons_succ]
                    repeat (first | (refine Seq.Seq.skip (by rfl) ?_; (try simp only [Act.put, List.setIfInBounds_toArray, List.set_cons_zero, List.set_cons_succ])) | (refine Seq.Seq.det ?_ (by rfl) (fun w hS => ?_) ?_; rotate_left; ((try dsimp only at hS); go_simp; (try rw [if_pos (by omega)]); with_reducible rfl); (try simp only [Act.put, List.setIfInBounds_toArray, List.set_cons_zero, List.set_cons_succ])))
                    refine Seq.Seq.nil ?_
                    obtain ⟨q, hq⟩ : ∃ q, q = ltInt x y := ⟨_, rfl⟩
                    rw [← hq]
                    rw [HX.out, HY.out] at hq
                    have HQ := Lib.hid hq
                    clear L hq
                    cases q
                    · have HE : Hid (OwnA w1 B g n cap D3 ∧ Ks (fun x => x = g) w w1) := Lib.hid ⟨by
                        have h9 := HF.out
                        rw [HIN.out, ← HQ.out, if_neg (by decide)] at h9
                        rw [← h9]; exact hS, HK.out⟩
                      clear hS
                      go_wp2
                      go_roundw
                      case rel => exact ⟨i2, t + 1, s, D3, by omega, by omega, by omega, by go_num, by go_num, Lib.hid ⟨HE.out.1, HFF.out, HE.out.2⟩⟩
                      case measure => simp [intOf]; omega
                    · have HFN : Hid (shiftUp ltInt b (k + 1) (Go.Sort.swp d k m) = D3) := Lib.hid (by
                        have h9 := HF.out
                        rw [HIN.out, ← HQ.out, if_pos rfl] at h9
                        exact h9)
                      have HC : Hid (OwnA w1 B g n cap d ∧ Ks (fun x => x = g) w w1) := Lib.hid ⟨hS, HK.out⟩
                      clear hS HIN HF HX HY HQ HK
                      go_wp2
                      have c0 := HC.out.1.cell (i := k) (by omega)
                      have c1 := HC.out.1.cell (i := m) (by omega)
                      have f0 := HC.out.1.free k
                      have f1 := HC.out.1.free m
                      obtain ⟨v9, c9⟩ := HC.out.1.cell2 k (j := m) (.int .u64 d[m]!) (by omega)
                      have l2 : ((k : Nat) : Int) < n := by omega
                      have l3 : ((m : Nat) : Int) < n := by omega
                      have HX : Hid (OwnA (((w1.setCell ⟨g, k, none⟩ (.int .u64 d[m]!)).setCell ⟨g, m, none⟩ (.int .u64 d[k]!)).drew) B g n cap (Go.Sort.swp d k m) ∧ Ks (fun x => x = g) w (((w1.setCell ⟨g, k, none⟩ (.int .u64 d[m]!)).setCell ⟨g, m, none⟩ (.int .u64 d[k]!)).drew)) :=
                        Lib.hid ⟨(HC.out.1.swp k m).drew, (Ks.two HC.out.2).trans (Ks.of_below (below_one' _))⟩
                      obtain ⟨x, hx⟩ : ∃ x, x = d[k]! := ⟨_, rfl⟩
                      obtain ⟨y, hy⟩ : ∃ y, y = d[m]! := ⟨_, rfl⟩
                      rw [← hx, ← hy] at HX
                      rw [← hx] at c0
                      rw [← hy] at c1 c9
                      clear hx hy HC
                      go_wp2
                      go_region
                      clear c0 c1 c9 f0 f1 l2 l3
                      have HC := HX
                      clear HX
                      go_wp2
                      go_roundw
                      case rel => exact ⟨k + 1, _, by omega, by omega, by go_num, Lib.hid ⟨HC.out.1, HFN.out, HC.out.2⟩⟩
                      case measure => simp [intOf]; omega
                  · have e20 : ¬ (k : Int) < b := by omega
                    have HE : Hid (OwnA wr B g n cap D3 ∧ Ks (fun x => x = g) w wr) := Lib.hid ⟨by rw [← HR.out.2.1, shu_done d hkb2]; exact HR.out.1, HR.out.2.2⟩
                    clear HR
                    go_wp2
                    go_roundw
                    case rel => exact ⟨i2, t + 1, s, D3, by omega, by omega, by omega, by go_num, by go_num, Lib.hid ⟨HE.out.1, HFF.out, HE.out.2⟩⟩
                    case measure => simp [intOf]; omega
              · have u0 : ¬ (2 : Int) ≤ p3 := by omega
                have HFF : Hid (partialIns ltInt a b s i2 D2 = F) := Lib.hid (by have h9 := HF.out; rw [if_neg hu] at h9; exact h9)
                clear HF
                go_wp2
                go_roundw
                case rel => exact ⟨i2, t + 1, s, D2, by omega, by omega, by omega, by go_num, by go_num, Lib.hid ⟨HC.out.1, HFF.out, HC.out.2⟩⟩
                case measure => simp [intOf]; omega
end Go.Proofs.Ytpoicagalmhfdaa.Cur
