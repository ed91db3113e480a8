/- slices.Sort at numbers of 64 digits: the row parted at equal ones. -/
import Derived.Test.YtpoicagalmhfdaaSrtF
import Derived.Deep.Cut
import Derived.Deep.CutRange
import Derived.Deep.CutBlock
namespace Go.Proofs.Ytpoicagalmhfdaa.Cur
open Go.RowKit Mem Go.Sort
set_option linter.unusedVariables false
set_option maxRecDepth 100000



theorem OwnA.cell2 {w : World} {B g n cap : Nat} {d : Array Int} (h : OwnA w B g n cap d) (i : Nat) {j : Nat} (u : Value) (hj : j < n) : ∃ v, (w.setCell ⟨g, i, none⟩ u).cell? ⟨g, j, none⟩ = some v := by
  have h1 := (World.ownsRow.stored h.2 i u).1
  have hl : j < ((uv d.toList).set i u).length := by rw [List.length_set, List.length_map, Array.length_toList]; exact h.1.symm ▸ hj
  exact ⟨_, (World.ownsRow.cellAt h1 j (by omega)).trans (List.getElem?_eq_getElem hl)⟩
theorem scanup_step (p : Int → Bool) (d : Array Int) {j k : Nat} (h : k ≤ j) : scanUp p d j k = if p d[k]! = true then scanUp p d j (k + 1) else k := by
  conv => lhs; unfold scanUp
  simp [h]
theorem scanup_done (p : Int → Bool) (d : Array Int) {j k : Nat} (h : ¬ k ≤ j) : scanUp p d j k = k := by
  unfold scanUp
  simp [h]
theorem scanup_bounds (p : Int → Bool) (d : Array Int) (j : Nat) : ∀ (f k : Nat), j + 1 - k ≤ f → k ≤ scanUp p d j k ∧ (scanUp p d j k ≤ k ∨ scanUp p d j k ≤ j + 1)
  | 0, k, hf => by rw [scanup_done p d (by omega)]; exact ⟨Nat.le_refl _, .inl (Nat.le_refl _)⟩
  | f + 1, k, hf => by
    by_cases h : k ≤ j
    · rw [scanup_step p d h]
      by_cases hp : p d[k]! = true
      · rw [if_pos hp]
        have := scanup_bounds p d j f (k + 1) (by omega)
        omega
      · rw [if_neg hp]; exact ⟨Nat.le_refl _, .inl (Nat.le_refl _)⟩
    · rw [scanup_done p d h]; exact ⟨Nat.le_refl _, .inl (Nat.le_refl _)⟩
theorem scandown_step (p : Int → Bool) (d : Array Int) {i k : Nat} (h : i ≤ k) (hi : 0 < i) : scanDown p d i k = if p d[k]! = true then scanDown p d i (k - 1) else k := by
  rcases k with _ | k
  · omega
  · conv => lhs; unfold scanDown
    simp [h]
theorem scandown_done (p : Int → Bool) (d : Array Int) {i k : Nat} (h : ¬ i ≤ k) : scanDown p d i k = k := by
  rcases k with _ | k
  · rfl
  · unfold scanDown; simp [h]
theorem scandown_le (p : Int → Bool) (d : Array Int) (i : Nat) : ∀ k, scanDown p d i k ≤ k
  | 0 => Nat.le_refl _
  | k + 1 => by
    unfold scanDown
    split
    · exact Nat.le_succ_of_le (scandown_le p d i k)
    · exact Nat.le_refl _
theorem parteq_step {a i j i2 j2 : Nat} {d : Array Int} (hi : scanUp (fun x => !ltInt d[a]! x) d j i = i2) (hj : scanDown (fun x => ltInt d[a]! x) d i2 j = j2) :
    partEqLoop ltInt a i j d = if i2 > j2 then (i2, d) else partEqLoop ltInt a (i2 + 1) (j2 - 1) (Go.Sort.swp d i2 j2) := by
  have h1 := (scanup_bounds (fun x => !ltInt d[a]! x) d j (j + 1 - i) i (Nat.le_refl _)).1
  have h2 := scandown_le (fun x => ltInt d[a]! x) d i2 j
  rw [partEqLoop]
  simp only [hi, hj]
  rw [hi] at h1
  rw [hj] at h2
  by_cases h : i2 > j2
  · rw [if_pos h, if_pos h]
  · rw [if_neg h, if_neg h, dif_pos (by omega)]

/-- What a part of the sort answers with a place. -/
def SqP (B g n cap : Nat) (r : Nat × Array Int) (w : World) (e : Ending) (w' : World) : Prop := e = .returned (.int .i64 r.1) ∧ OwnA w' B g n cap r.2 ∧ Ks (fun x => x = g) w w'
set_option maxHeartbeats 8000000 in
theorem sparteq_any (B g n cap a b pv : Nat) (d : Array Int) (w : World) (h : OwnA w B g n cap d) (hn : n ≤ 1000) (hab : a < b) (hb : b ≤ n) (hp : pv < n) :
    Calls Try.prog 89 #[.slice (some ⟨g, 0, none⟩) n cap, .int .i64 a, .int .i64 b, .int .i64 pv] w (SqP B g n cap (partitionEqual ltInt d a b pv) w) := by
  unfold partitionEqual
  obtain ⟨F, hF⟩ : ∃ F, F = partEqLoop ltInt a (a + 1) (b - 1) (Go.Sort.swp d a pv) := ⟨_, rfl⟩
  rw [← hF]
  have e0 : IntKind.i64.wrap ((a : Int) + 1) = ((a + 1 : Nat) : Int) := IntWalk.i64_in _ (by omega)
  have e1 : IntKind.i64.wrap ((b : Int) - 1) = ((b - 1 : Nat) : Int) := by rw [IntWalk.i64_in _ (by omega)]; omega
  have c0 := h.cell (i := a) (by omega)
  have c1 := h.cell (i := pv) (by omega)
  have f0 := h.free a
  have f1 := h.free pv
  obtain ⟨v9, c9⟩ := h.cell2 a (j := pv) (.int .u64 d[pv]!) (by omega)
  have la : (a : Int) < n := by omega
  have lp : (pv : Int) < n := by omega
  have HEND : Hid (OwnA (((w.setCell ⟨g, a, none⟩ (.int .u64 d[pv]!)).setCell ⟨g, pv, none⟩ (.int .u64 d[a]!)).drew) B g n cap (Go.Sort.swp d a pv) ∧ partEqLoop ltInt a (a + 1) (b - 1) (Go.Sort.swp d a pv) = F ∧ Ks (fun x => x = g) w (((w.setCell ⟨g, a, none⟩ (.int .u64 d[pv]!)).setCell ⟨g, pv, none⟩ (.int .u64 d[a]!)).drew)) :=
    Lib.hid ⟨(h.swp a pv).drew, hF.symm, (Ks.two (Ks.refl _ _)).trans (Ks.of_below (below_one' _))⟩
  obtain ⟨x, hx⟩ : ∃ x, x = d[a]! := ⟨_, rfl⟩
  obtain ⟨y, hy⟩ : ∃ y, y = d[pv]! := ⟨_, rfl⟩
  rw [← hx, ← hy] at HEND
  rw [← hx] at c0
  rw [← hy] at c1 c9
  clear hx hy h hF
  go_enter Try.func89, Try.ntmps89
  go_wp2
  go_region
  go_wp2
  go_loopw [9, 10] (fun x y wr => ∃ (i j : Nat) (d : Array Int), a < i ∧ i ≤ b ∧ j < b ∧ x = .int .i64 i ∧ y = .int .i64 j ∧ Hid (OwnA wr B g n cap d ∧ partEqLoop ltInt a i j d = F ∧ Ks (fun x => x = g) w wr)) (fun x y _ => (intOf y).toNat + 1 - (intOf x).toNat)
  case atStart => exact ⟨a + 1, b - 1, _, by omega, by omega, by omega, rfl, rfl, HEND⟩
  case round =>
    clear HEND c0 c1 c9 f0 f1 e0 e1 lp
    obtain ⟨i, j, d, ai, ib, jb, rfl, rfl, HR⟩ := hrel
    obtain ⟨i2, hi2⟩ : ∃ x, x = scanUp (fun x => !ltInt d[a]! x) d j i := ⟨_, rfl⟩
    obtain ⟨j2, hj2⟩ : ∃ x, x = scanDown (fun x => ltInt d[a]! x) d i2 j := ⟨_, rfl⟩
    have q1 := scanup_bounds (fun x => !ltInt d[a]! x) d j (j + 1 - i) i (Nat.le_refl _)
    have q2 := scandown_le (fun x => ltInt d[a]! x) d i2 j
    rw [← hi2] at q1
    rw [← hj2] at q2
    obtain ⟨q1, q3⟩ := q1
    have q4 : i2 ≤ b := by omega
    have HST := Lib.hid (parteq_step hi2.symm hj2.symm)
    have HI := Lib.hid hi2.symm
    have HJ := Lib.hid hj2.symm
    have HF := Lib.hid HR.out.2.1
    have HC := Lib.hid (And.intro HR.out.1 HR.out.2.2)
    clear HR hi2 hj2 q3
    go_upto_block 2 with fail
    go_cut [9] from 29 to 45 (fun x wx => x = .int .i64 (i2 : Nat) ∧ Hid (OwnA wx B g n cap d ∧ Ks (fun x => x = g) w wx))
    case first =>
      go_wp2
      go_loopw [9] (fun x wr => ∃ k : Nat, i ≤ k ∧ k ≤ b ∧ x = .int .i64 k ∧ Hid (OwnA wr B g n cap d ∧ scanUp (fun x => !ltInt d[a]! x) d j k = i2 ∧ Ks (fun x => x = g) w wr)) (fun x _ => 1001 - (intOf x).toNat)
      case atStart => exact ⟨i, Nat.le_refl _, ib, rfl, Lib.hid ⟨HC.out.1, HI.out, HC.out.2⟩⟩
      case round =>
        clear HC HI
        obtain ⟨k, hik, hkb, rfl, HR⟩ := hrel
        by_cases hkj : k ≤ j
        · have e3 : (k : Int) ≤ j := by omega
          have e4 : IntKind.i64.wrap ((k : Int) + 1) = ((k + 1 : Nat) : Int) := IntWalk.i64_in _ (by omega)
          have b0 : (k : Int) < n := by omega
          have b1 : k < n := by omega
          have HIN := Lib.hid (scanup_step (fun x => !ltInt d[a]! x) d hkj)
          obtain ⟨x, hx⟩ : ∃ x, x = d[a]! := ⟨_, rfl⟩
          obtain ⟨y, hy⟩ : ∃ y, y = d[k]! := ⟨_, rfl⟩
          have L : ∀ w', (fun w' => OwnA w' B g n cap d) w' → w'.cell? ⟨g, a, none⟩ = some (.int .u64 x) ∧ w'.cell? ⟨g, k, none⟩ = some (.int .u64 y) := fun w' h => by
            rw [hx, hy]; exact ⟨OwnA.cell h (by omega), OwnA.cell h (by omega)⟩
          have hS : (fun w' => OwnA w' B g n cap d) wr.drew := HR.out.1.drew
          have HX := Lib.hid hx
          have HY := Lib.hid hy
          have HF := Lib.hid HR.out.2.1
          have HK := Lib.hid (HR.out.2.2.trans (Ks.of_below (below_one' wr)))
          clear HR hx hy
          go_wp2
          refine Seq.wp_region_seq (fun w' => OwnA w' B g n cap d) (by kernel_rfl) (by kernel_rfl) hS ?_
          generalize wr.drew = w1 at *
          repeat (first | (refine Seq.Seq.skip (by rfl) ?_; (try simp only [Act.put, List.setIfInBounds_toArray, List.set_cons_zero, List.set_cons_succ])) | (refine Seq.Seq.det ?_ (by rfl) (fun w hS => ?_) ?_; rotate_left; ((try dsimp only at hS); go_simp; (try rw [if_pos (by omega)]); with_reducible rfl); (try simp only [Act.put, List.setIfInBounds_toArray, List.set_cons_zero, List.set_cons_succ])))
          refine Seq.Seq.make (by rfl) (by rfl) (fun K Q' hK => ?_)
          go_simp
          go_at_call 88
          refine (lessu_any _ _ _).mono ?_
          rintro e w' ⟨rfl, rfl⟩
          refine hK.out _ _ (hS) ?_
          clear hK K
          try simp only [Act.put, List.setIfInBounds_toArray, List.set_cons_zero, List.set_cons_succ]
          repeat (first | (refine Seq.Seq.skip (by rfl) ?_; (try simp only [Act.put, List.setIfInBounds_toArray, List.set_cons_zero, List.set_cons_succ])) | (refine Seq.Seq.det ?_ (by rfl) (fun w hS => ?_) ?_; rotate_left; ((try dsimp only at hS); go_simp; (try rw [if_pos (by omega)]); with_reducible rfl); (try simp only [Act.put, List.setIfInBounds_toArray, List.set_cons_zero, List.set_cons_succ])))
          refine Seq.Seq.nil ?_
          obtain ⟨q, hq⟩ : ∃ q, q = ltInt x y := ⟨_, rfl⟩
          rw [← hq]
          rw [HX.out, HY.out] at hq
          have HQ := Lib.hid hq
          clear L hq
          by_cases hq2 : q = false
          · subst hq2
            have HE : Hid (OwnA w1 B g n cap d ∧ scanUp (fun x => !ltInt d[a]! x) d j (k + 1) = i2 ∧ Ks (fun x => x = g) w w1) := Lib.hid ⟨hS, by
              have h9 := HF.out
              rw [HIN.out, if_pos (by simp only [← HQ.out] <;> rfl)] at h9
              exact h9, HK.out⟩
            clear hS
            go_wp2
            go_roundw
            case rel => exact ⟨k + 1, by omega, by omega, by go_num, HE⟩
            case measure => simp [intOf]; omega
          · have hq3 : q = true := by cases q <;> first | rfl | exact absurd rfl hq2
            clear hq2
            subst hq3
            have HE : Hid (k = i2 ∧ OwnA w1 B g n cap d ∧ Ks (fun x => x = g) w w1) := Lib.hid ⟨by
              have h9 := HF.out
              rw [HIN.out, if_neg (by simp only [← HQ.out] <;> decide)] at h9
              exact h9, hS, HK.out⟩
            clear hS
            go_wp2
            go_meet
            exact ⟨by rw [HE.out.1], Lib.hid HE.out.2⟩
        · have e3 : ¬ (k : Int) ≤ j := by omega
          have HE : Hid (k = i2 ∧ OwnA wr.drew B g n cap d ∧ Ks (fun x => x = g) w wr.drew) := Lib.hid ⟨by
              have h9 := HR.out.2.1
              rw [scanup_done (fun x => !ltInt d[a]! x) d hkj] at h9
              exact h9, HR.out.1.drew, HR.out.2.2.trans (Ks.of_below (below_one' wr))⟩
          clear HR
          go_wp2
          refine Seq.wp_region_seq (fun w' => True) (by kernel_rfl) (by kernel_rfl) trivial ?_
          generalize wr.drew = w1 at *
          have hS : (fun w' : World => True) w1 := trivial
          repeat (first | (refine Seq.Seq.skip (by rfl) ?_; (try simp only [Act.put, List.setIfInBounds_toArray, List.set_cons_zero, List.set_cons_succ])) | (refine Seq.Seq.det ?_ (by rfl) (fun w hS => ?_) ?_; rotate_left; ((try dsimp only at hS); go_simp; (try rw [if_pos (by omega)]); with_reducible rfl); (try simp only [Act.put, List.setIfInBounds_toArray, List.set_cons_zero, List.set_cons_succ])))
          refine Seq.Seq.nil ?_
          go_wp2
          go_meet
          exact ⟨by rw [HE.out.1], Lib.hid HE.out.2⟩
    case rest =>
      clear HC
      obtain ⟨rfl, HC⟩ := hcut
      go_upto_block 4 with fail
      go_cut [10] from 46 to 61 (fun x wx => x = .int .i64 (j2 : Nat) ∧ Hid (OwnA wx B g n cap d ∧ Ks (fun x => x = g) w wx))
      case first =>
        go_wp2
        go_loopw [10] (fun x wr => ∃ k : Nat, k ≤ j ∧ x = .int .i64 k ∧ Hid (OwnA wr B g n cap d ∧ scanDown (fun x => ltInt d[a]! x) d i2 k = j2 ∧ Ks (fun x => x = g) w wr)) (fun x _ => (intOf x).toNat)
        case atStart => exact ⟨j, Nat.le_refl _, rfl, Lib.hid ⟨HC.out.1, HJ.out, HC.out.2⟩⟩
        case round =>
          clear HC HJ
          obtain ⟨k, hkj, rfl, HR⟩ := hrel
          by_cases hik : i2 ≤ k
          · have e3 : (i2 : Int) ≤ k := by omega
            have e4 : IntKind.i64.wrap ((k : Int) - 1) = ((k - 1 : Nat) : Int) := by rw [IntWalk.i64_in _ (by omega)]; omega
            have b0 : (k : Int) < n := by omega
            have b1 : k < n := by omega
            have HIN := Lib.hid (scandown_step (fun x => ltInt d[a]! x) d hik (by omega))
            obtain ⟨x, hx⟩ : ∃ x, x = d[a]! := ⟨_, rfl⟩
            obtain ⟨y, hy⟩ : ∃ y, y = d[k]! := ⟨_, rfl⟩
            have L : ∀ w', (fun w' => OwnA w' B g n cap d) w' → w'.cell? ⟨g, a, none⟩ = some (.int .u64 x) ∧ w'.cell? ⟨g, k, none⟩ = some (.int .u64 y) := fun w' h => by
              rw [hx, hy]; exact ⟨OwnA.cell h (by omega), OwnA.cell h (by omega)⟩
            have hS : (fun w' => OwnA w' B g n cap d) wr.drew := HR.out.1.drew
            have HX := Lib.hid hx
            have HY := Lib.hid hy
            have HF := Lib.hid HR.out.2.1
            have HK := Lib.hid (HR.out.2.2.trans (Ks.of_below (below_one' wr)))
            clear HR hx hy
            go_wp2
            refine Seq.wp_region_seq (fun w' => OwnA w' B g n cap d) (by kernel_rfl) (by kernel_rfl) hS ?_
            generalize wr.drew = w1 at *
            repeat (first | (refine Seq.Seq.skip (by rfl) ?_; (try simp only [Act.put, List.setIfInBounds_toArray, List.set_cons_zero, List.set_cons_succ])) | (refine Seq.Seq.det ?_ (by rfl) (fun w hS => ?_) ?_; rotate_left; ((try dsimp only at hS); go_simp; (try rw [if_pos (by omega)]); with_reducible rfl); (try simp only [Act.put, List.setIfInBounds_toArray, List.set_cons_zero, List.set_cons_succ])))
            refine Seq.Seq.make (by rfl) (by rfl) (fun K Q' hK => ?_)
            go_simp
            go_at_call 88
            refine (lessu_any _ _ _).mono ?_
            rintro e w' ⟨rfl, rfl⟩
            refine hK.out _ _ (hS) ?_
            clear hK K
            try simp only [Act.put, List.setIfInBounds_toArray, List.set_cons_zero, List.set_cons_succ]
            repeat (first | (refine Seq.Seq.skip (by rfl) ?_; (try simp only [Act.put, List.setIfInBounds_toArray, List.set_cons_zero, List.set_cons_succ])) | (refine Seq.Seq.det ?_ (by rfl) (fun w hS => ?_) ?_; rotate_left; ((try dsimp only at hS); go_simp; (try rw [if_pos (by omega)]); with_reducible rfl); (try simp only [Act.put, List.setIfInBounds_toArray, List.set_cons_zero, List.set_cons_succ])))
            refine Seq.Seq.nil ?_
            obtain ⟨q, hq⟩ : ∃ q, q = ltInt x y := ⟨_, rfl⟩
            rw [← hq]
            rw [HX.out, HY.out] at hq
            have HQ := Lib.hid hq
            clear L hq
            by_cases hq2 : q = true
            · subst hq2
              have HE : Hid (OwnA w1 B g n cap d ∧ scanDown (fun x => ltInt d[a]! x) d i2 (k - 1) = j2 ∧ Ks (fun x => x = g) w w1) := Lib.hid ⟨hS, by
                have h9 := HF.out
                rw [HIN.out, if_pos (by simp only [← HQ.out] <;> rfl)] at h9
                exact h9, HK.out⟩
              clear hS
              go_wp2
              go_roundw
              case rel => exact ⟨k - 1, by omega, by go_num, HE⟩
              case measure => simp [intOf]; omega
            · have hq3 : q = false := by cases q <;> first | rfl | exact absurd rfl hq2
              clear hq2
              subst hq3
              have HE : Hid (k = j2 ∧ OwnA w1 B g n cap d ∧ Ks (fun x => x = g) w w1) := Lib.hid ⟨by
                have h9 := HF.out
                rw [HIN.out, if_neg (by simp only [← HQ.out] <;> decide)] at h9
                exact h9, hS, HK.out⟩
              clear hS
              go_wp2
              go_meet
              exact ⟨by rw [HE.out.1], Lib.hid HE.out.2⟩
          · have e3 : ¬ (i2 : Int) ≤ k := by omega
            have HE : Hid (k = j2 ∧ OwnA wr.drew B g n cap d ∧ Ks (fun x => x = g) w wr.drew) := Lib.hid ⟨by
                have h9 := HR.out.2.1
                rw [scandown_done (fun x => ltInt d[a]! x) d hik] at h9
                exact h9, HR.out.1.drew, HR.out.2.2.trans (Ks.of_below (below_one' wr))⟩
            clear HR
            go_wp2
            refine Seq.wp_region_seq (fun w' => True) (by kernel_rfl) (by kernel_rfl) trivial ?_
            generalize wr.drew = w1 at *
            have hS : (fun w' : World => True) w1 := trivial
            repeat (first | (refine Seq.Seq.skip (by rfl) ?_; (try simp only [Act.put, List.setIfInBounds_toArray, List.set_cons_zero, List.set_cons_succ])) | (refine Seq.Seq.det ?_ (by rfl) (fun w hS => ?_) ?_; rotate_left; ((try dsimp only at hS); go_simp; (try rw [if_pos (by omega)]); with_reducible rfl); (try simp only [Act.put, List.setIfInBounds_toArray, List.set_cons_zero, List.set_cons_succ])))
            refine Seq.Seq.nil ?_
            go_wp2
            go_meet
            exact ⟨by rw [HE.out.1], Lib.hid HE.out.2⟩
      case rest =>
        clear HC
        obtain ⟨rfl, HC⟩ := hcut
        clear HI HJ
        by_cases hgt : i2 > j2
        · have e5 : (j2 : Int) < i2 := by omega
          have HE : Hid (F = (i2, d)) := Lib.hid (by rw [← HF.out, HST.out, if_pos hgt])
          go_wp2
          go_ret
          rw [HE.out]
          exact ⟨rfl, HC.out.1, HC.out.2⟩
        · have e5 : ¬ (j2 : Int) < i2 := by omega
          have e6 : IntKind.i64.wrap ((i2 : Int) + 1) = ((i2 + 1 : Nat) : Int) := IntWalk.i64_in _ (by omega)
          have e7 : IntKind.i64.wrap ((j2 : Int) - 1) = ((j2 - 1 : Nat) : Int) := by rw [IntWalk.i64_in _ (by omega)]; omega
          have c0 := HC.out.1.cell (i := i2) (by omega)
          have c1 := HC.out.1.cell (i := j2) (by omega)
          have f0 := HC.out.1.free i2
          have f1 := HC.out.1.free j2
          obtain ⟨v9, c9⟩ := HC.out.1.cell2 i2 (j := j2) (.int .u64 d[j2]!) (by omega)
          have l2 : (i2 : Int) < n := by omega
          have l3 : (j2 : Int) < n := by omega
          have HEND : Hid (OwnA (((wc.setCell ⟨g, i2, none⟩ (.int .u64 d[j2]!)).setCell ⟨g, j2, none⟩ (.int .u64 d[i2]!)).drew) B g n cap (Go.Sort.swp d i2 j2) ∧ partEqLoop ltInt a (i2 + 1) (j2 - 1) (Go.Sort.swp d i2 j2) = F ∧ Ks (fun x => x = g) w (((wc.setCell ⟨g, i2, none⟩ (.int .u64 d[j2]!)).setCell ⟨g, j2, none⟩ (.int .u64 d[i2]!)).drew)) :=
            Lib.hid ⟨(HC.out.1.swp i2 j2).drew, by rw [← HF.out, HST.out, if_neg hgt], (Ks.two HC.out.2).trans (Ks.of_below (below_one' _))⟩
          obtain ⟨x, hx⟩ : ∃ x, x = d[i2]! := ⟨_, rfl⟩
          obtain ⟨y, hy⟩ : ∃ y, y = d[j2]! := ⟨_, rfl⟩
          rw [← hx, ← hy] at HEND
          rw [← hx] at c0
          rw [← hy] at c1 c9
          clear hx hy HC
          go_wp2
          go_region
          go_wp2
          go_roundw
          case rel => exact ⟨i2 + 1, j2 - 1, _, by omega, by omega, by omega, by go_num, by go_num, HEND⟩
          case measure => simp [intOf]; omega
end Go.Proofs.Ytpoicagalmhfdaa.Cur
