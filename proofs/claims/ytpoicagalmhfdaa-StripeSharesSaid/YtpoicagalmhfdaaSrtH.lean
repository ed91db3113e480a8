/- slices.Sort at numbers of 64 digits: the row parted. -/
import Derived.Test.YtpoicagalmhfdaaSrtG
namespace Go.Proofs.Ytpoicagalmhfdaa.Cur
open Go.RowKit Mem Go.Sort
set_option linter.unusedVariables false
set_option maxRecDepth 100000



theorem part_step {a i j i2 j2 : Nat} {d : Array Int} (hi : scanUp (fun x => ltInt x d[a]!) d j i = i2) (hj : scanDown (fun x => !ltInt x d[a]!) d i2 j = j2) :
    partLoop ltInt a i j d = if i2 > j2 then (j2, d) else partLoop ltInt a (i2 + 1) (j2 - 1) (Go.Sort.swp d i2 j2) := by
  have h1 := (scanup_bounds (fun x => ltInt x d[a]!) d j (j + 1 - i) i (Nat.le_refl _)).1
  have h2 := scandown_le (fun x => !ltInt x d[a]!) d i2 j
  rw [partLoop]
  simp only [hi, hj]
  rw [hi] at h1
  rw [hj] at h2
  by_cases h : i2 > j2
  · rw [if_pos h, if_pos h]
  · rw [if_neg h, if_neg h, dif_pos (by omega)]

/-- What the parting answers. -/
def StP (B g n cap : Nat) (r : Nat × Bool × Array Int) (w : World) (e : Ending) (w' : World) : Prop := e = .returned (.tuple #[.int .i64 r.1, .bool r.2.1]) ∧ OwnA w' B g n cap r.2.2 ∧ Ks (fun x => x = g) w w'
set_option maxHeartbeats 8000000 in
theorem spart_any (B g n cap a b pv : Nat) (dd : Array Int) (w : World) (h : OwnA w B g n cap dd) (hn : n ≤ 1000) (hab : a < b) (hb : b ≤ n) (hp : pv < n) :
    Calls Try.prog 90 #[.slice (some ⟨g, 0, none⟩) n cap, .int .i64 a, .int .i64 b, .int .i64 pv] w (StP B g n cap (partition ltInt dd a b pv) w) := by
  unfold partition
  have e0 : IntKind.i64.wrap ((a : Int) + 1) = ((a + 1 : Nat) : Int) := IntWalk.i64_in _ (by omega)
  have e1 : IntKind.i64.wrap ((b : Int) - 1) = ((b - 1 : Nat) : Int) := by rw [IntWalk.i64_in _ (by omega)]; omega
  have la : (a : Int) < n := by omega
  have HC : Hid (OwnA w B g n cap dd ∧ Ks (fun x => x = g) w w) := Lib.hid ⟨h, Ks.refl _ _⟩
  obtain ⟨d, hd1⟩ : ∃ x, x = Go.Sort.swp dd a pv := ⟨_, rfl⟩
  have HD := Lib.hid hd1
  rw [← hd1]
  obtain ⟨i, hi⟩ : ∃ x, x = a + 1 := ⟨_, rfl⟩
  obtain ⟨j, hj⟩ : ∃ x, x = b - 1 := ⟨_, rfl⟩
  rw [← hi] at e0 ⊢
  rw [← hj] at e1 ⊢
  dsimp only
  obtain ⟨i2, hi2⟩ : ∃ x, x = scanUp (fun x => ltInt x d[a]!) d j i := ⟨_, rfl⟩
  rw [← hi2]
  obtain ⟨j2, hj2⟩ : ∃ x, x = scanDown (fun x => !ltInt x d[a]!) d i2 j := ⟨_, rfl⟩
  rw [← hj2]
  have q1 := scanup_bounds (fun x => ltInt x d[a]!) d j (j + 1 - i) i (Nat.le_refl _)
  have q2 := scandown_le (fun x => !ltInt x d[a]!) d i2 j
  rw [← hi2] at q1
  rw [← hj2] at q2
  obtain ⟨q1, q3⟩ := q1
  have q4 : i2 ≤ b := by omega
  have ai : a < i := by omega
  have ib : i ≤ b := by omega
  have jb : j < b := by omega
  have HI := Lib.hid hi2.symm
  have HJ := Lib.hid hj2.symm
  obtain ⟨F, hF⟩ : ∃ F, F = (if i2 > j2 then (j2, true, Go.Sort.swp d j2 a) else ((partLoop ltInt a (i2 + 1) (j2 - 1) (Go.Sort.swp d i2 j2)).1, false, Go.Sort.swp (partLoop ltInt a (i2 + 1) (j2 - 1) (Go.Sort.swp d i2 j2)).2 (partLoop ltInt a (i2 + 1) (j2 - 1) (Go.Sort.swp d i2 j2)).1 a)) := ⟨_, rfl⟩
  rw [← hF]
  have HF := Lib.hid hF
  clear hF hi hj hi2 hj2 hd1 h q3
  go_enter Try.func90, Try.ntmps90
  go_wp2
  have c0 := HC.out.1.cell (i := a) (by omega)
  have c1 := HC.out.1.cell (i := pv) (by omega)
  have f0 := HC.out.1.free a
  have f1 := HC.out.1.free pv
  obtain ⟨v9, c9⟩ := HC.out.1.cell2 a (j := pv) (.int .u64 dd[pv]!) (by omega)
  have l2 : ((a : Nat) : Int) < n := by omega
  have l3 : ((pv : Nat) : Int) < n := by omega
  have HX : Hid (OwnA (((w.setCell ⟨g, a, none⟩ (.int .u64 dd[pv]!)).setCell ⟨g, pv, none⟩ (.int .u64 dd[a]!)).drew) B g n cap (Go.Sort.swp dd a pv) ∧ Ks (fun x => x = g) w (((w.setCell ⟨g, a, none⟩ (.int .u64 dd[pv]!)).setCell ⟨g, pv, none⟩ (.int .u64 dd[a]!)).drew)) :=
    Lib.hid ⟨(HC.out.1.swp a pv).drew, (Ks.two HC.out.2).trans (Ks.of_below (below_one' _))⟩
  obtain ⟨x, hx⟩ : ∃ x, x = dd[a]! := ⟨_, rfl⟩
  obtain ⟨y, hy⟩ : ∃ y, y = dd[pv]! := ⟨_, rfl⟩
  rw [← hx, ← hy] at HX
  rw [← hx] at c0
  rw [← hy] at c1 c9
  clear hx hy HC
  go_wp2
  go_region
  clear c0 c1 c9 f0 f1 l2 l3
  have HC := HX
  clear HX
  rw [← HD.out] at HC
  clear HD
  go_upto_block 0 with fail
  go_cut [10] from 30 to 45 (fun x wx => x = .int .i64 (i2 : Nat) ∧ Hid (OwnA wx B g n cap d ∧ Ks (fun x => x = g) w wx))
  case first =>
    go_wp2
    go_loopw [10] (fun x wr => ∃ k : Nat, i ≤ k ∧ k ≤ b ∧ x = .int .i64 k ∧ Hid (OwnA wr B g n cap d ∧ scanUp (fun x => ltInt x d[a]!) d j k = i2 ∧ Ks (fun x => x = g) w wr)) (fun x _ => 1001 - (intOf x).toNat)
    case atStart => exact ⟨i, Nat.le_refl _, ib, rfl, Lib.hid ⟨HC.out.1, HI.out, HC.out.2⟩⟩
    case round =>
      clear HC HI
      obtain ⟨k, hik, hkb, rfl, HR⟩ := hrel
      by_cases hkj : k ≤ j
      · have e3 : (k : Int) ≤ j := by omega
        have e4 : IntKind.i64.wrap ((k : Int) + 1) = ((k + 1 : Nat) : Int) := IntWalk.i64_in _ (by omega)
        have b0 : (k : Int) < n := by omega
        have b1 : k < n := by omega
        have HIN := Lib.hid (scanup_step (fun x => ltInt x d[a]!) d hkj)
        obtain ⟨x, hx⟩ : ∃ x, x = d[k]! := ⟨_, rfl⟩
        obtain ⟨y, hy⟩ : ∃ y, y = d[a]! := ⟨_, rfl⟩
        have L : ∀ w', (fun w' => OwnA w' B g n cap d) w' → w'.cell? ⟨g, k, none⟩ = some (.int .u64 x) ∧ w'.cell? ⟨g, a, none⟩ = some (.int .u64 y) := fun w' h => by
          rw [hx, hy]; exact ⟨OwnA.cell h (by omega), OwnA.cell h (by omega)⟩
        have hS : (fun w' => OwnA w' B g n cap d) wr.drew := HR.out.1.drew
        have HX := Lib.hid hx
        have HY := Lib.hid hy
        have HF := Lib.hid HR.out.2.1
        have HK := Lib.hid (HR.out.2.2.trans (Ks.of_below (below_one' wr)))
        clear HR hx hy
        go_wp2
        refine Seq.wp_region_seq (fun w' => OwnA w' B g n cap d) (by kernel_rfl) (by kernel_rfl) hS ?_
        generalize wr.drew = w1 at *
        repeat (first | (refine Seq.Seq.skip (by rfl) ?_; (try simp only [Act.put, List.setIfInBounds_toArray, List.set_cons_zero, List.set_cons_succ])) | (refine Seq.Seq.det ?_ (by rfl) (fun w hS => ?_) ?_; rotate_left; ((try dsimp only at hS); go_simp; (try rw [if_pos (by omega)]); with_reducible rfl); (try simp only [Act.put, List.setIfInBounds_toArray, List.set_cons_zero, List.set_cons_succ])))
        refine Seq.Seq.make (by rfl) (by rfl) (fun K Q' hK => ?_)
        go_simp
        go_at_call 88
        refine (lessu_any _ _ _).mono ?_
        rintro e w' ⟨rfl, rfl⟩
        refine hK.out _ _ (hS) ?_
        clear hK K
        try simp only [Act.put, List.setIfInBounds_toArray, List.set_cons_zero, List.set_cons_succ]
        repeat (first | (refine Seq.Seq.skip (by rfl) ?_; (try simp only [Act.put, List.setIfInBounds_toArray, List.set_cons_zero, List.set_cons_succ])) | (refine Seq.Seq.det ?_ (by rfl) (fun w hS => ?_) ?_; rotate_left; ((try dsimp only at hS); go_simp; (try rw [if_pos (by omega)]); with_reducible rfl); (try simp only [Act.put, List.setIfInBounds_toArray, List.set_cons_zero, List.set_cons_succ])))
        refine Seq.Seq.nil ?_
        obtain ⟨q, hq⟩ : ∃ q, q = ltInt x y := ⟨_, rfl⟩
        rw [← hq]
        rw [HX.out, HY.out] at hq
        have HQ := Lib.hid hq
        clear L hq
        by_cases hq2 : q = true
        · subst hq2
          have HE : Hid (OwnA w1 B g n cap d ∧ scanUp (fun x => ltInt x d[a]!) d j (k + 1) = i2 ∧ Ks (fun x => x = g) w w1) := Lib.hid ⟨hS, by
            have h9 := HF.out
            rw [HIN.out, if_pos (by simp only [← HQ.out] <;> rfl)] at h9
            exact h9, HK.out⟩
          clear hS
          go_wp2
          go_roundw
          case rel => exact ⟨k + 1, by omega, by omega, by go_num, HE⟩
          case measure => simp [intOf]; omega
        · have hq3 : q = false := by cases q <;> first | rfl | exact absurd rfl hq2
          clear hq2
          subst hq3
          have HE : Hid (k = i2 ∧ OwnA w1 B g n cap d ∧ Ks (fun x => x = g) w w1) := Lib.hid ⟨by
            have h9 := HF.out
            rw [HIN.out, if_neg (by simp only [← HQ.out] <;> decide)] at h9
            exact h9, hS, HK.out⟩
          clear hS
          go_wp2
          go_meet
          exact ⟨by rw [HE.out.1], Lib.hid HE.out.2⟩
      · have e3 : ¬ (k : Int) ≤ j := by omega
        have HE : Hid (k = i2 ∧ OwnA wr.drew B g n cap d ∧ Ks (fun x => x = g) w wr.drew) := Lib.hid ⟨by
            have h9 := HR.out.2.1
            rw [scanup_done (fun x => ltInt x d[a]!) d hkj] at h9
            exact h9, HR.out.1.drew, HR.out.2.2.trans (Ks.of_below (below_one' wr))⟩
        clear HR
        go_wp2
        refine Seq.wp_region_seq (fun w' => True) (by kernel_rfl) (by kernel_rfl) trivial ?_
        generalize wr.drew = w1 at *
        have hS : (fun w' : World => True) w1 := trivial
        repeat (first | (refine Seq.Seq.skip (by rfl) ?_; (try simp only [Act.put, List.setIfInBounds_toArray, List.set_cons_zero, List.set_cons_succ])) | (refine Seq.Seq.det ?_ (by rfl) (fun w hS => ?_) ?_; rotate_left; ((try dsimp only at hS); go_simp; (try rw [if_pos (by omega)]); with_reducible rfl); (try simp only [Act.put, List.setIfInBounds_toArray, List.set_cons_zero, List.set_cons_succ])))
        refine Seq.Seq.nil ?_
        go_wp2
        go_meet
        exact ⟨by rw [HE.out.1], Lib.hid HE.out.2⟩
  case rest =>
    clear HC
    obtain ⟨rfl, HC⟩ := hcut
    go_upto_block 2 with fail
    go_cut [11] from 46 to 62 (fun x wx => x = .int .i64 (j2 : Nat) ∧ Hid (OwnA wx B g n cap d ∧ Ks (fun x => x = g) w wx))
    case first =>
      go_wp2
      go_loopw [11] (fun x wr => ∃ k : Nat, k ≤ j ∧ x = .int .i64 k ∧ Hid (OwnA wr B g n cap d ∧ scanDown (fun x => !ltInt x d[a]!) d i2 k = j2 ∧ Ks (fun x => x = g) w wr)) (fun x _ => (intOf x).toNat)
      case atStart => exact ⟨j, Nat.le_refl _, rfl, Lib.hid ⟨HC.out.1, HJ.out, HC.out.2⟩⟩
      case round =>
        clear HC HJ
        obtain ⟨k, hkj, rfl, HR⟩ := hrel
        by_cases hik : i2 ≤ k
        · have e3 : (i2 : Int) ≤ k := by omega
          have e4 : IntKind.i64.wrap ((k : Int) - 1) = ((k - 1 : Nat) : Int) := by rw [IntWalk.i64_in _ (by omega)]; omega
          have b0 : (k : Int) < n := by omega
          have b1 : k < n := by omega
          have HIN := Lib.hid (scandown_step (fun x => !ltInt x d[a]!) d hik (by omega))
          obtain ⟨x, hx⟩ : ∃ x, x = d[k]! := ⟨_, rfl⟩
          obtain ⟨y, hy⟩ : ∃ y, y = d[a]! := ⟨_, rfl⟩
          have L : ∀ w', (fun w' => OwnA w' B g n cap d) w' → w'.cell? ⟨g, k, none⟩ = some (.int .u64 x) ∧ w'.cell? ⟨g, a, none⟩ = some (.int .u64 y) := fun w' h => by
            rw [hx, hy]; exact ⟨OwnA.cell h (by omega), OwnA.cell h (by omega)⟩
          have hS : (fun w' => OwnA w' B g n cap d) wr.drew := HR.out.1.drew
          have HX := Lib.hid hx
          have HY := Lib.hid hy
          have HF := Lib.hid HR.out.2.1
          have HK := Lib.hid (HR.out.2.2.trans (Ks.of_below (below_one' wr)))
          clear HR hx hy
          go_wp2
          refine Seq.wp_region_seq (fun w' => OwnA w' B g n cap d) (by kernel_rfl) (by kernel_rfl) hS ?_
          generalize wr.drew = w1 at *
          repeat (first | (refine Seq.Seq.skip (by rfl) ?_; (try simp only [Act.put, List.setIfInBounds_toArray, List.set_cons_zero, List.set_cons_succ])) | (refine Seq.Seq.det ?_ (by rfl) (fun w hS => ?_) ?_; rotate_left; ((try dsimp only at hS); go_simp; (try rw [if_pos (by omega)]); with_reducible rfl); (try simp only [Act.put, List.setIfInBounds_toArray, List.set_cons_zero, List.set_cons_succ])))
          refine Seq.Seq.make (by rfl) (by rfl) (fun K Q' hK => ?_)
          go_simp
          go_at_call 88
          refine (lessu_any _ _ _).mono ?_
          rintro e w' ⟨rfl, rfl⟩
          refine hK.out _ _ (hS) ?_
          clear hK K
          try simp only [Act.put, List.setIfInBounds_toArray, List.set_cons_zero, List.set_cons_succ]
          repeat (first | (refine Seq.Seq.skip (by rfl) ?_; (try simp only [Act.put, List.setIfInBounds_toArray, List.set_cons_zero, List.set_cons_succ])) | (refine Seq.Seq.det ?_ (by rfl) (fun w hS => ?_) ?_; rotate_left; ((try dsimp only at hS); go_simp; (try rw [if_pos (by omega)]); with_reducible rfl); (try simp only [Act.put, List.setIfInBounds_toArray, List.set_cons_zero, List.set_cons_succ])))
          refine Seq.Seq.nil ?_
          obtain ⟨q, hq⟩ : ∃ q, q = ltInt x y := ⟨_, rfl⟩
          rw [← hq]
          rw [HX.out, HY.out] at hq
          have HQ := Lib.hid hq
          clear L hq
          by_cases hq2 : q = false
          · subst hq2
            have HE : Hid (OwnA w1 B g n cap d ∧ scanDown (fun x => !ltInt x d[a]!) d i2 (k - 1) = j2 ∧ Ks (fun x => x = g) w w1) := Lib.hid ⟨hS, by
              have h9 := HF.out
              rw [HIN.out, if_pos (by simp only [← HQ.out] <;> rfl)] at h9
              exact h9, HK.out⟩
            clear hS
            go_wp2
            go_roundw
            case rel => exact ⟨k - 1, by omega, by go_num, HE⟩
            case measure => simp [intOf]; omega
          · have hq3 : q = true := by cases q <;> first | rfl | exact absurd rfl hq2
            clear hq2
            subst hq3
            have HE : Hid (k = j2 ∧ OwnA w1 B g n cap d ∧ Ks (fun x => x = g) w w1) := Lib.hid ⟨by
              have h9 := HF.out
              rw [HIN.out, if_neg (by simp only [← HQ.out] <;> decide)] at h9
              exact h9, hS, HK.out⟩
            clear hS
            go_wp2
            go_meet
            exact ⟨by rw [HE.out.1], Lib.hid HE.out.2⟩
        · have e3 : ¬ (i2 : Int) ≤ k := by omega
          have HE : Hid (k = j2 ∧ OwnA wr.drew B g n cap d ∧ Ks (fun x => x = g) w wr.drew) := Lib.hid ⟨by
              have h9 := HR.out.2.1
              rw [scandown_done (fun x => !ltInt x d[a]!) d hik] at h9
              exact h9, HR.out.1.drew, HR.out.2.2.trans (Ks.of_below (below_one' wr))⟩
          clear HR
          go_wp2
          refine Seq.wp_region_seq (fun w' => True) (by kernel_rfl) (by kernel_rfl) trivial ?_
          generalize wr.drew = w1 at *
          have hS : (fun w' : World => True) w1 := trivial
          repeat (first | (refine Seq.Seq.skip (by rfl) ?_; (try simp only [Act.put, List.setIfInBounds_toArray, List.set_cons_zero, List.set_cons_succ])) | (refine Seq.Seq.det ?_ (by rfl) (fun w hS => ?_) ?_; rotate_left; ((try dsimp only at hS); go_simp; (try rw [if_pos (by omega)]); with_reducible rfl); (try simp only [Act.put, List.setIfInBounds_toArray, List.set_cons_zero, List.set_cons_succ])))
          refine Seq.Seq.nil ?_
          go_wp2
          go_meet
          exact ⟨by rw [HE.out.1], Lib.hid HE.out.2⟩
    case rest =>
      clear HC
      obtain ⟨rfl, HC⟩ := hcut
      clear HI HJ
      by_cases hgt : i2 > j2
      · have e5 : (j2 : Int) < i2 := by omega
        have HE : Hid (F = (j2, true, Go.Sort.swp d j2 a)) := Lib.hid (by rw [HF.out, if_pos hgt])
        clear HF
        go_wp2
        have c0 := HC.out.1.cell (i := j2) (by omega)
        have c1 := HC.out.1.cell (i := a) (by omega)
        have f0 := HC.out.1.free j2
        have f1 := HC.out.1.free a
        obtain ⟨v9, c9⟩ := HC.out.1.cell2 j2 (j := a) (.int .u64 d[a]!) (by omega)
        have l2 : ((j2 : Nat) : Int) < n := by omega
        have l3 : ((a : Nat) : Int) < n := by omega
        have HX : Hid (OwnA (((wc.setCell ⟨g, j2, none⟩ (.int .u64 d[a]!)).setCell ⟨g, a, none⟩ (.int .u64 d[j2]!)).drew) B g n cap (Go.Sort.swp d j2 a) ∧ Ks (fun x => x = g) w (((wc.setCell ⟨g, j2, none⟩ (.int .u64 d[a]!)).setCell ⟨g, a, none⟩ (.int .u64 d[j2]!)).drew)) :=
          Lib.hid ⟨(HC.out.1.swp j2 a).drew, (Ks.two HC.out.2).trans (Ks.of_below (below_one' _))⟩
        obtain ⟨x, hx⟩ : ∃ x, x = d[j2]! := ⟨_, rfl⟩
        obtain ⟨y, hy⟩ : ∃ y, y = d[a]! := ⟨_, rfl⟩
        rw [← hx, ← hy] at HX
        rw [← hx] at c0
        rw [← hy] at c1 c9
        clear hx hy HC
        go_wp2
        go_region
        clear c0 c1 c9 f0 f1 l2 l3
        have HC := HX
        clear HX
        go_wp2
        go_ret2
        rw [HE.out]
        exact ⟨rfl, HC.out.1, HC.out.2⟩
      · have e5 : ¬ (j2 : Int) < i2 := by omega
        have e6 : IntKind.i64.wrap ((i2 : Int) + 1) = ((i2 + 1 : Nat) : Int) := IntWalk.i64_in _ (by omega)
        have e7 : IntKind.i64.wrap ((j2 : Int) - 1) = ((j2 - 1 : Nat) : Int) := by rw [IntWalk.i64_in _ (by omega)]; omega
        obtain ⟨R, hR⟩ : ∃ R, R = partLoop ltInt a (i2 + 1) (j2 - 1) (Go.Sort.swp d i2 j2) := ⟨_, rfl⟩
        rw [← hR] at HF
        have HE : Hid (F = (R.1, false, Go.Sort.swp R.2 R.1 a)) := Lib.hid (by rw [HF.out, if_neg hgt])
        have HR := Lib.hid hR.symm
        clear HF hR
        go_wp2
        have c0 := HC.out.1.cell (i := i2) (by omega)
        have c1 := HC.out.1.cell (i := j2) (by omega)
        have f0 := HC.out.1.free i2
        have f1 := HC.out.1.free j2
        obtain ⟨v9, c9⟩ := HC.out.1.cell2 i2 (j := j2) (.int .u64 d[j2]!) (by omega)
        have l2 : ((i2 : Nat) : Int) < n := by omega
        have l3 : ((j2 : Nat) : Int) < n := by omega
        have HX : Hid (OwnA (((wc.setCell ⟨g, i2, none⟩ (.int .u64 d[j2]!)).setCell ⟨g, j2, none⟩ (.int .u64 d[i2]!)).drew) B g n cap (Go.Sort.swp d i2 j2) ∧ Ks (fun x => x = g) w (((wc.setCell ⟨g, i2, none⟩ (.int .u64 d[j2]!)).setCell ⟨g, j2, none⟩ (.int .u64 d[i2]!)).drew)) :=
          Lib.hid ⟨(HC.out.1.swp i2 j2).drew, (Ks.two HC.out.2).trans (Ks.of_below (below_one' _))⟩
        obtain ⟨x, hx⟩ : ∃ x, x = d[i2]! := ⟨_, rfl⟩
        obtain ⟨y, hy⟩ : ∃ y, y = d[j2]! := ⟨_, rfl⟩
        rw [← hx, ← hy] at HX
        rw [← hx] at c0
        rw [← hy] at c1 c9
        clear hx hy HC
        go_wp2
        go_region
        clear c0 c1 c9 f0 f1 l2 l3
        have HC := HX
        clear HX
        go_wp2
        go_loopw [10, 11] (fun x y wr => ∃ (i j : Nat) (d : Array Int), a < i ∧ i ≤ b ∧ j < b ∧ x = .int .i64 i ∧ y = .int .i64 j ∧ Hid (OwnA wr B g n cap d ∧ partLoop ltInt a i j d = R ∧ Ks (fun x => x = g) w wr)) (fun x y _ => (intOf y).toNat + 1 - (intOf x).toNat)
        case atStart => exact ⟨i2 + 1, j2 - 1, _, by omega, by omega, by omega, by go_num, by go_num, Lib.hid ⟨HC.out.1, HR.out, HC.out.2⟩⟩
        case round =>
          clear HC HR e0 e1 e5 e6 e7 hgt q1 q2 q4 ai ib jb
          obtain ⟨i, j, d, ai, ib, jb, rfl, rfl, HR⟩ := hrel
          obtain ⟨i2, hi2⟩ : ∃ x, x = scanUp (fun x => ltInt x d[a]!) d j i := ⟨_, rfl⟩
          obtain ⟨j2, hj2⟩ : ∃ x, x = scanDown (fun x => !ltInt x d[a]!) d i2 j := ⟨_, rfl⟩
          have q1 := scanup_bounds (fun x => ltInt x d[a]!) d j (j + 1 - i) i (Nat.le_refl _)
          have q2 := scandown_le (fun x => !ltInt x d[a]!) d i2 j
          rw [← hi2] at q1
          rw [← hj2] at q2
          obtain ⟨q1, q3⟩ := q1
          have q4 : i2 ≤ b := by omega
          have HST := Lib.hid (part_step hi2.symm hj2.symm)
          have HI := Lib.hid hi2.symm
          have HJ := Lib.hid hj2.symm
          have HF := Lib.hid HR.out.2.1
          have HC := Lib.hid (And.intro HR.out.1 HR.out.2.2)
          clear HR hi2 hj2 q3
          go_upto_block 6 with fail
          go_cut [10] from 99 to 114 (fun x wx => x = .int .i64 (i2 : Nat) ∧ Hid (OwnA wx B g n cap d ∧ Ks (fun x => x = g) w wx))
          case first =>
            go_wp2
            go_loopw [10] (fun x wr => ∃ k : Nat, i ≤ k ∧ k ≤ b ∧ x = .int .i64 k ∧ Hid (OwnA wr B g n cap d ∧ scanUp (fun x => ltInt x d[a]!) d j k = i2 ∧ Ks (fun x => x = g) w wr)) (fun x _ => 1001 - (intOf x).toNat)
            case atStart => exact ⟨i, Nat.le_refl _, ib, rfl, Lib.hid ⟨HC.out.1, HI.out, HC.out.2⟩⟩
            case round =>
              clear HC HI
              obtain ⟨k, hik, hkb, rfl, HR⟩ := hrel
              by_cases hkj : k ≤ j
              · have e3 : (k : Int) ≤ j := by omega
                have e4 : IntKind.i64.wrap ((k : Int) + 1) = ((k + 1 : Nat) : Int) := IntWalk.i64_in _ (by omega)
                have b0 : (k : Int) < n := by omega
                have b1 : k < n := by omega
                have HIN := Lib.hid (scanup_step (fun x => ltInt x d[a]!) d hkj)
                obtain ⟨x, hx⟩ : ∃ x, x = d[k]! := ⟨_, rfl⟩
                obtain ⟨y, hy⟩ : ∃ y, y = d[a]! := ⟨_, rfl⟩
                have L : ∀ w', (fun w' => OwnA w' B g n cap d) w' → w'.cell? ⟨g, k, none⟩ = some (.int .u64 x) ∧ w'.cell? ⟨g, a, none⟩ = some (.int .u64 y) := fun w' h => by
                  rw [hx, hy]; exact ⟨OwnA.cell h (by omega), OwnA.cell h (by omega)⟩
                have hS : (fun w' => OwnA w' B g n cap d) wr.drew := HR.out.1.drew
                have HX := Lib.hid hx
                have HY := Lib.hid hy
                have HF := Lib.hid HR.out.2.1
                have HK := Lib.hid (HR.out.2.2.trans (Ks.of_below (below_one' wr)))
                clear HR hx hy
                go_wp2
                refine Seq.wp_region_seq (fun w' => OwnA w' B g n cap d) (by kernel_rfl) (by kernel_rfl) hS ?_
                generalize wr.drew = w1 at *
                repeat (first | (refine Seq.Seq.skip (by rfl) ?_; (try simp only [Act.put, List.setIfInBounds_toArray, List.set_cons_zero, List.set_cons_succ])) | (refine Seq.Seq.det ?_ (by rfl) (fun w hS => ?_) ?_; rotate_left; ((try dsimp only at hS); go_simp; (try rw [if_pos (by omega)]); with_reducible rfl); (try simp only [Act.put, List.setIfInBounds_toArray, List.set_cons_zero, List.set_cons_succ])))
                refine Seq.Seq.make (by rfl) (by rfl) (fun K Q' hK => ?_)
                go_simp
                go_at_call 88
                refine (lessu_any _ _ _).mono ?_
                rintro e w' ⟨rfl, rfl⟩
                refine hK.out _ _ (hS) ?_
                clear hK K
                try simp only [Act.put, List.setIfInBounds_toArray, List.set_cons_zero, List.set_cons_succ]
                repeat (first | (refine Seq.Seq.skip (by rfl) ?_; (try simp only [Act.put, List.setIfInBounds_toArray, List.set_cons_zero, List.set_cons_succ])) | (refine Seq.Seq.det ?_ (by rfl) (fun w hS => ?_) ?_; rotate_left; ((try dsimp only at hS); go_simp; (try rw [if_pos (by omega)]); with_reducible rfl); (try simp only [Act.put, List.setIfInBounds_toArray, List.set_cons_zero, List.set_cons_succ])))
                refine Seq.Seq.nil ?_
                obtain ⟨q, hq⟩ : ∃ q, q = ltInt x y := ⟨_, rfl⟩
                rw [← hq]
                rw [HX.out, HY.out] at hq
                have HQ := Lib.hid hq
                clear L hq
                by_cases hq2 : q = true
                · subst hq2
                  have HE : Hid (OwnA w1 B g n cap d ∧ scanUp (fun x => ltInt x d[a]!) d j (k + 1) = i2 ∧ Ks (fun x => x = g) w w1) := Lib.hid ⟨hS, by
                    have h9 := HF.out
                    rw [HIN.out, if_pos (by simp only [← HQ.out] <;> rfl)] at h9
                    exact h9, HK.out⟩
                  clear hS
                  go_wp2
                  go_roundw
                  case rel => exact ⟨k + 1, by omega, by omega, by go_num, HE⟩
                  case measure => simp [intOf]; omega
                · have hq3 : q = false := by cases q <;> first | rfl | exact absurd rfl hq2
                  clear hq2
                  subst hq3
                  have HE : Hid (k = i2 ∧ OwnA w1 B g n cap d ∧ Ks (fun x => x = g) w w1) := Lib.hid ⟨by
                    have h9 := HF.out
                    rw [HIN.out, if_neg (by simp only [← HQ.out] <;> decide)] at h9
                    exact h9, hS, HK.out⟩
                  clear hS
                  go_wp2
                  go_meet
                  exact ⟨by rw [HE.out.1], Lib.hid HE.out.2⟩
              · have e3 : ¬ (k : Int) ≤ j := by omega
                have HE : Hid (k = i2 ∧ OwnA wr.drew B g n cap d ∧ Ks (fun x => x = g) w wr.drew) := Lib.hid ⟨by
                    have h9 := HR.out.2.1
                    rw [scanup_done (fun x => ltInt x d[a]!) d hkj] at h9
                    exact h9, HR.out.1.drew, HR.out.2.2.trans (Ks.of_below (below_one' wr))⟩
                clear HR
                go_wp2
                refine Seq.wp_region_seq (fun w' => True) (by kernel_rfl) (by kernel_rfl) trivial ?_
                generalize wr.drew = w1 at *
                have hS : (fun w' : World => True) w1 := trivial
                repeat (first | (refine Seq.Seq.skip (by rfl) ?_; (try simp only [Act.put, List.setIfInBounds_toArray, List.set_cons_zero, List.set_cons_succ])) | (refine Seq.Seq.det ?_ (by rfl) (fun w hS => ?_) ?_; rotate_left; ((try dsimp only at hS); go_simp; (try rw [if_pos (by omega)]); with_reducible rfl); (try simp only [Act.put, List.setIfInBounds_toArray, List.set_cons_zero, List.set_cons_succ])))
                refine Seq.Seq.nil ?_
                go_wp2
                go_meet
                exact ⟨by rw [HE.out.1], Lib.hid HE.out.2⟩
          case rest =>
            clear HC
            obtain ⟨rfl, HC⟩ := hcut
            go_upto_block 8 with fail
            go_cut [11] from 115 to 131 (fun x wx => x = .int .i64 (j2 : Nat) ∧ Hid (OwnA wx B g n cap d ∧ Ks (fun x => x = g) w wx))
            case first =>
              go_wp2
              go_loopw [11] (fun x wr => ∃ k : Nat, k ≤ j ∧ x = .int .i64 k ∧ Hid (OwnA wr B g n cap d ∧ scanDown (fun x => !ltInt x d[a]!) d i2 k = j2 ∧ Ks (fun x => x = g) w wr)) (fun x _ => (intOf x).toNat)
              case atStart => exact ⟨j, Nat.le_refl _, rfl, Lib.hid ⟨HC.out.1, HJ.out, HC.out.2⟩⟩
              case round =>
                clear HC HJ
                obtain ⟨k, hkj, rfl, HR⟩ := hrel
                by_cases hik : i2 ≤ k
                · have e3 : (i2 : Int) ≤ k := by omega
                  have e4 : IntKind.i64.wrap ((k : Int) - 1) = ((k - 1 : Nat) : Int) := by rw [IntWalk.i64_in _ (by omega)]; omega
                  have b0 : (k : Int) < n := by omega
                  have b1 : k < n := by omega
                  have HIN := Lib.hid (scandown_step (fun x => !ltInt x d[a]!) d hik (by omega))
                  obtain ⟨x, hx⟩ : ∃ x, x = d[k]! := ⟨_, rfl⟩
                  obtain ⟨y, hy⟩ : ∃ y, y = d[a]! := ⟨_, rfl⟩
                  have L : ∀ w', (fun w' => OwnA w' B g n cap d) w' → w'.cell? ⟨g, k, none⟩ = some (.int .u64 x) ∧ w'.cell? ⟨g, a, none⟩ = some (.int .u64 y) := fun w' h => by
                    rw [hx, hy]; exact ⟨OwnA.cell h (by omega), OwnA.cell h (by omega)⟩
                  have hS : (fun w' => OwnA w' B g n cap d) wr.drew := HR.out.1.drew
                  have HX := Lib.hid hx
                  have HY := Lib.hid hy
                  have HF := Lib.hid HR.out.2.1
                  have HK := Lib.hid (HR.out.2.2.trans (Ks.of_below (below_one' wr)))
                  clear HR hx hy
                  go_wp2
                  refine Seq.wp_region_seq (fun w' => OwnA w' B g n cap d) (by kernel_rfl) (by kernel_rfl) hS ?_
                  generalize wr.drew = w1 at *
                  repeat (first | (refine Seq.Seq.skip (by rfl) ?_; (try simp only [Act.put, List.setIfInBounds_toArray, List.set_cons_zero, List.set_cons_succ])) | (refine Seq.Seq.det ?_ (by rfl) (fun w hS => ?_) ?_; rotate_left; ((try dsimp only at hS); go_simp; (try rw [if_pos (by omega)]); with_reducible rfl); (try simp only [Act.put, List.setIfInBounds_toArray, List.set_cons_zero, List.set_cons_succ])))
                  refine Seq.Seq.make (by rfl) (by rfl) (fun K Q' hK => ?_)
                  go_simp
                  go_at_call 88
                  refine (lessu_any _ _ _).mono ?_
                  rintro e w' ⟨rfl, rfl⟩
                  refine hK.out _ _ (hS) ?_
                  clear hK K
                  try simp only [Act.put, List.setIfInBounds_toArray, List.set_cons_zero, List.set_cons_succ]
                  repeat (first | (refine Seq.Seq.skip (by rfl) ?_; (try simp only [Act.put, List.setIfInBounds_toArray, List.set_cons_zero, List.set_cons_succ])) | (refine Seq.Seq.det ?_ (by rfl) (fun w hS => ?_) ?_; rotate_left; ((try dsimp only at hS); go_simp; (try rw [if_pos (by omega)]); with_reducible rfl); (try simp only [Act.put, List.setIfInBounds_toArray, List.set_cons_zero, List.set_cons_succ])))
                  refine Seq.Seq.nil ?_
                  obtain ⟨q, hq⟩ : ∃ q, q = ltInt x y := ⟨_, rfl⟩
                  rw [← hq]
                  rw [HX.out, HY.out] at hq
                  have HQ := Lib.hid hq
                  clear L hq
                  by_cases hq2 : q = false
                  · subst hq2
                    have HE : Hid (OwnA w1 B g n cap d ∧ scanDown (fun x => !ltInt x d[a]!) d i2 (k - 1) = j2 ∧ Ks (fun x => x = g) w w1) := Lib.hid ⟨hS, by
                      have h9 := HF.out
                      rw [HIN.out, if_pos (by simp only [← HQ.out] <;> rfl)] at h9
                      exact h9, HK.out⟩
                    clear hS
                    go_wp2
                    go_roundw
                    case rel => exact ⟨k - 1, by omega, by go_num, HE⟩
                    case measure => simp [intOf]; omega
                  · have hq3 : q = true := by cases q <;> first | rfl | exact absurd rfl hq2
                    clear hq2
                    subst hq3
                    have HE : Hid (k = j2 ∧ OwnA w1 B g n cap d ∧ Ks (fun x => x = g) w w1) := Lib.hid ⟨by
                      have h9 := HF.out
                      rw [HIN.out, if_neg (by simp only [← HQ.out] <;> decide)] at h9
                      exact h9, hS, HK.out⟩
                    clear hS
                    go_wp2
                    go_meet
                    exact ⟨by rw [HE.out.1], Lib.hid HE.out.2⟩
                · have e3 : ¬ (i2 : Int) ≤ k := by omega
                  have HE : Hid (k = j2 ∧ OwnA wr.drew B g n cap d ∧ Ks (fun x => x = g) w wr.drew) := Lib.hid ⟨by
                      have h9 := HR.out.2.1
                      rw [scandown_done (fun x => !ltInt x d[a]!) d hik] at h9
                      exact h9, HR.out.1.drew, HR.out.2.2.trans (Ks.of_below (below_one' wr))⟩
                  clear HR
                  go_wp2
                  refine Seq.wp_region_seq (fun w' => True) (by kernel_rfl) (by kernel_rfl) trivial ?_
                  generalize wr.drew = w1 at *
                  have hS : (fun w' : World => True) w1 := trivial
                  repeat (first | (refine Seq.Seq.skip (by rfl) ?_; (try simp only [Act.put, List.setIfInBounds_toArray, List.set_cons_zero, List.set_cons_succ])) | (refine Seq.Seq.det ?_ (by rfl) (fun w hS => ?_) ?_; rotate_left; ((try dsimp only at hS); go_simp; (try rw [if_pos (by omega)]); with_reducible rfl); (try simp only [Act.put, List.setIfInBounds_toArray, List.set_cons_zero, List.set_cons_succ])))
                  refine Seq.Seq.nil ?_
                  go_wp2
                  go_meet
                  exact ⟨by rw [HE.out.1], Lib.hid HE.out.2⟩
            case rest =>
              clear HC
              obtain ⟨rfl, HC⟩ := hcut
              clear HI HJ
              by_cases hgt : i2 > j2
              · have e5 : (j2 : Int) < i2 := by omega
                have HE2 : Hid (R = (j2, d)) := Lib.hid (by rw [← HF.out, HST.out, if_pos hgt])
                rw [HE2.out] at HE
                clear HF HST HE2
                go_wp2
                have c0 := HC.out.1.cell (i := j2) (by omega)
                have c1 := HC.out.1.cell (i := a) (by omega)
                have f0 := HC.out.1.free j2
                have f1 := HC.out.1.free a
                obtain ⟨v9, c9⟩ := HC.out.1.cell2 j2 (j := a) (.int .u64 d[a]!) (by omega)
                have l2 : ((j2 : Nat) : Int) < n := by omega
                have l3 : ((a : Nat) : Int) < n := by omega
                have HX : Hid (OwnA (((wc.setCell ⟨g, j2, none⟩ (.int .u64 d[a]!)).setCell ⟨g, a, none⟩ (.int .u64 d[j2]!)).drew) B g n cap (Go.Sort.swp d j2 a) ∧ Ks (fun x => x = g) w (((wc.setCell ⟨g, j2, none⟩ (.int .u64 d[a]!)).setCell ⟨g, a, none⟩ (.int .u64 d[j2]!)).drew)) :=
                  Lib.hid ⟨(HC.out.1.swp j2 a).drew, (Ks.two HC.out.2).trans (Ks.of_below (below_one' _))⟩
                obtain ⟨x, hx⟩ : ∃ x, x = d[j2]! := ⟨_, rfl⟩
                obtain ⟨y, hy⟩ : ∃ y, y = d[a]! := ⟨_, rfl⟩
                rw [← hx, ← hy] at HX
                rw [← hx] at c0
                rw [← hy] at c1 c9
                clear hx hy HC
                go_wp2
                go_region
                clear c0 c1 c9 f0 f1 l2 l3
                have HC := HX
                clear HX
                go_wp2
                go_ret2
                rw [HE.out]
                exact ⟨rfl, HC.out.1, HC.out.2⟩
              · have e5 : ¬ (j2 : Int) < i2 := by omega
                have e6 : IntKind.i64.wrap ((i2 : Int) + 1) = ((i2 + 1 : Nat) : Int) := IntWalk.i64_in _ (by omega)
                have e7 : IntKind.i64.wrap ((j2 : Int) - 1) = ((j2 - 1 : Nat) : Int) := by rw [IntWalk.i64_in _ (by omega)]; omega
                have HFF : Hid (partLoop ltInt a (i2 + 1) (j2 - 1) (Go.Sort.swp d i2 j2) = R) := Lib.hid (by rw [← HF.out, HST.out, if_neg hgt])
                clear HF HST
                go_wp2
                have c0 := HC.out.1.cell (i := i2) (by omega)
                have c1 := HC.out.1.cell (i := j2) (by omega)
                have f0 := HC.out.1.free i2
                have f1 := HC.out.1.free j2
                obtain ⟨v9, c9⟩ := HC.out.1.cell2 i2 (j := j2) (.int .u64 d[j2]!) (by omega)
                have l2 : ((i2 : Nat) : Int) < n := by omega
                have l3 : ((j2 : Nat) : Int) < n := by omega
                have HX : Hid (OwnA (((wc.setCell ⟨g, i2, none⟩ (.int .u64 d[j2]!)).setCell ⟨g, j2, none⟩ (.int .u64 d[i2]!)).drew) B g n cap (Go.Sort.swp d i2 j2) ∧ Ks (fun x => x = g) w (((wc.setCell ⟨g, i2, none⟩ (.int .u64 d[j2]!)).setCell ⟨g, j2, none⟩ (.int .u64 d[i2]!)).drew)) :=
                  Lib.hid ⟨(HC.out.1.swp i2 j2).drew, (Ks.two HC.out.2).trans (Ks.of_below (below_one' _))⟩
                obtain ⟨x, hx⟩ : ∃ x, x = d[i2]! := ⟨_, rfl⟩
                obtain ⟨y, hy⟩ : ∃ y, y = d[j2]! := ⟨_, rfl⟩
                rw [← hx, ← hy] at HX
                rw [← hx] at c0
                rw [← hy] at c1 c9
                clear hx hy HC
                go_wp2
                go_region
                clear c0 c1 c9 f0 f1 l2 l3
                have HC := HX
                clear HX
                go_wp2
                go_roundw
                case rel => exact ⟨i2 + 1, j2 - 1, _, by omega, by omega, by omega, by go_num, by go_num, Lib.hid ⟨HC.out.1, HFF.out, HC.out.2⟩⟩
                case measure => simp [intOf]; omega
end Go.Proofs.Ytpoicagalmhfdaa.Cur
