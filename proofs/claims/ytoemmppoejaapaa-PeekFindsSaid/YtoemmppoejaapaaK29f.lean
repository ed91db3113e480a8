/- As the seat's text, without what nothing here names. -/
import Derived.Test.YtoemmppoejaapaaK28f
import Derived.Deep.Cut
import Derived.Deep.CutRange
import Derived.Deep.CutBlock
import Derived.Test.YtoemmppoejaapaaShelff
import Derived.Sort.Walk7a
namespace Go.Proofs.Ytoemmppoejaapaa.Cur
open Go.RowKit Mem Go.Sort
set_option linter.unusedVariables false
set_option maxRecDepth 100000
theorem OwnA.cell2 {w : World} {B g n cap : Nat} {d : Array Int} (h : OwnA w B g n cap d) (i : Nat) {j : Nat} (u : Value) (hj : j < n) : ∃ v, (w.setCell ⟨g, i, none⟩ u).cell? ⟨g, j, none⟩ = some v := by
  have h1 := (World.ownsRow.stored h.2 i u).1
  have hl : j < ((uv d.toList).set i u).length := by rw [List.length_set, List.length_map, Array.length_toList]; exact h.1.symm ▸ hj
  exact ⟨_, (World.ownsRow.cellAt h1 j (by omega)).trans (List.getElem?_eq_getElem hl)⟩
theorem scanup_step (p : Int → Bool) (d : Array Int) {j k : Nat} (h : k ≤ j) : scanUp p d j k = if p d[k]! = true then scanUp p d j (k + 1) else k := by
  conv => lhs; unfold scanUp
  simp [h]
theorem scanup_done (p : Int → Bool) (d : Array Int) {j k : Nat} (h : ¬ k ≤ j) : scanUp p d j k = k := by
  unfold scanUp
  simp [h]
theorem scanup_bounds (p : Int → Bool) (d : Array Int) (j : Nat) : ∀ (f k : Nat), j + 1 - k ≤ f → k ≤ scanUp p d j k ∧ (scanUp p d j k ≤ k ∨ scanUp p d j k ≤ j + 1)
  | 0, k, hf => by rw [scanup_done p d (by omega)]; exact ⟨Nat.le_refl _, .inl (Nat.le_refl _)⟩
  | f + 1, k, hf => by
    by_cases h : k ≤ j
    · rw [scanup_step p d h]
      by_cases hp : p d[k]! = true
      · rw [if_pos hp]
        have := scanup_bounds p d j f (k + 1) (by omega)
        omega
      · rw [if_neg hp]; exact ⟨Nat.le_refl _, .inl (Nat.le_refl _)⟩
    · rw [scanup_done p d h]; exact ⟨Nat.le_refl _, .inl (Nat.le_refl _)⟩
theorem scandown_step (p : Int → Bool) (d : Array Int) {i k : Nat} (h : i ≤ k) (hi : 0 < i) : scanDown p d i k = if p d[k]! = true then scanDown p d i (k - 1) else k := by
  rcases k with _ | k
  · omega
  · conv => lhs; unfold scanDown
    simp [h]
theorem scandown_done (p : Int → Bool) (d : Array Int) {i k : Nat} (h : ¬ i ≤ k) : scanDown p d i k = k := by
  rcases k with _ | k
  · rfl
  · unfold scanDown; simp [h]
theorem scandown_le (p : Int → Bool) (d : Array Int) (i : Nat) : ∀ k, scanDown p d i k ≤ k
  | 0 => Nat.le_refl _
  | k + 1 => by
    unfold scanDown
    split
    · exact Nat.le_succ_of_le (scandown_le p d i k)
    · exact Nat.le_refl _
theorem parteq_step {a i j i2 j2 : Nat} {d : Array Int} (hi : scanUp (fun x => !ltInt d[a]! x) d j i = i2) (hj : scanDown (fun x => ltInt d[a]! x) d i2 j = j2) :
    partEqLoop ltInt a i j d = if i2 > j2 then (i2, d) else partEqLoop ltInt a (i2 + 1) (j2 - 1) (Go.Sort.swp d i2 j2) := by
  have h1 := (scanup_bounds (fun x => !ltInt d[a]! x) d j (j + 1 - i) i (Nat.le_refl _)).1
  have h2 := scandown_le (fun x => ltInt d[a]! x) d i2 j
  rw [partEqLoop]
  simp only [hi, hj]
  rw [hi] at h1
  rw [hj] at h2
  by_cases h : i2 > j2
  · rw [if_pos h, if_pos h]
  · rw [if_neg h, if_neg h, dif_pos (by omega)]
def SqP (B g n cap : Nat) (r : Nat × Array Int) (w : World) (e : Ending) (w' : World) : Prop := e = .returned (.int .i64 r.1) ∧ OwnA w' B g n cap r.2 ∧ Ks (fun x => x = g) w w'
set_option maxHeartbeats 8000000 in
theorem sparteq_any (B g n cap a b pv : Nat) (d : Array Int) (w : World) (h : OwnA w B g n cap d) (hn : n ≤ 5000) (hab : a < b) (hb : b ≤ n) (hp : pv < n) :
    Calls Try.prog 70 #[.slice (some ⟨g, 0, none⟩) n cap, .int .i64 a, .int .i64 b, .int .i64 pv] w (SqP B g n cap (partitionEqual ltInt d a b pv) w) := by
  unfold partitionEqual
  obtain ⟨F, hF⟩ : ∃ F, F = partEqLoop ltInt a (a + 1) (b - 1) (Go.Sort.swp d a pv) := ⟨_, rfl⟩
  rw [← hF]
  have e0 : IntKind.i64.wrap ((a : Int) + 1) = ((a + 1 : Nat) : Int) := IntWalk.i64_in _ (by omega)
  have e1 : IntKind.i64.wrap ((b : Int) - 1) = ((b - 1 : Nat) : Int) := by rw [IntWalk.i64_in _ (by omega)]; omega
  have c0 := h.cell (i := a) (by omega)
  have c1 := h.cell (i := pv) (by omega)
  have f0 := h.free a
  have f1 := h.free pv
  obtain ⟨v9, c9⟩ := h.cell2 a (j := pv) (.int .u64 d[pv]!) (by omega)
  have la : (a : Int) < n := by omega
  have lp : (pv : Int) < n := by omega
  have HEND : Hid (OwnA (((w.setCell ⟨g, a, none⟩ (.int .u64 d[pv]!)).setCell ⟨g, pv, none⟩ (.int .u64 d[a]!)).drew) B g n cap (Go.Sort.swp d a pv) ∧ partEqLoop ltInt a (a + 1) (b - 1) (Go.Sort.swp d a pv) = F ∧ Ks (fun x => x = g) w (((w.setCell ⟨g, a, none⟩ (.int .u64 d[pv]!)).setCell ⟨g, pv, none⟩ (.int .u64 d[a]!)).drew)) :=
    Lib.hid ⟨(h.swp a pv).drew, hF.symm, (Ks.two (Ks.refl _ _)).trans (Ks.of_below (below_one' _))⟩
  obtain ⟨x, hx⟩ : ∃ x, x = d[a]! := ⟨_, rfl⟩
  obtain ⟨y, hy⟩ : ∃ y, y = d[pv]! := ⟨_, rfl⟩
  rw [← hx, ← hy] at HEND
  rw [← hx] at c0
  rw [← hy] at c1 c9
  clear hx hy h hF
  go_enter Try.func70, Try.ntmps70
  go_wp2
  go_region
  go_wp2
  go_loopw [9, 10] (fun x y wr => ∃ (i j : Nat) (d : Array Int), a < i ∧ i ≤ b ∧ j < b ∧ x = .int .i64 i ∧ y = .int .i64 j ∧ Hid (OwnA wr B g n cap d ∧ partEqLoop ltInt a i j d = F ∧ Ks (fun x => x = g) w wr)) (fun x y _ => (intOf y).toNat + 1 - (intOf x).toNat)
  case atStart => exact ⟨a + 1, b - 1, _, by omega, by omega, by omega, rfl, rfl, HEND⟩
  case round =>
    clear HEND c0 c1 c9 f0 f1 e0 e1 lp
    obtain ⟨i, j, d, ai, ib, jb, rfl, rfl, HR⟩ := hrel
    obtain ⟨i2, hi2⟩ : ∃ x, x = scanUp (fun x => !ltInt d[a]! x) d j i := ⟨_, rfl⟩
    obtain ⟨j2, hj2⟩ : ∃ x, x = scanDown (fun x => ltInt d[a]! x) d i2 j := ⟨_, rfl⟩
    have q1 := scanup_bounds (fun x => !ltInt d[a]! x) d j (j + 1 - i) i (Nat.le_refl _)
    have q2 := scandown_le (fun x => ltInt d[a]! x) d i2 j
    rw [← hi2] at q1
    rw [← hj2] at q2
    obtain ⟨q1, q3⟩ := q1
    have q4 : i2 ≤ b := by omega
    have HST := Lib.hid (parteq_step hi2.symm hj2.symm)
    have HI := Lib.hid hi2.symm
    have HJ := Lib.hid hj2.symm
    have HF := Lib.hid HR.out.2.1
    have HC := Lib.hid (And.intro HR.out.1 HR.out.2.2)
    clear HR hi2 hj2 q3
    go_upto_block 2 with fail
    go_cut [9] from 29 to 45 (fun x wx => x = .int .i64 (i2 : Nat) ∧ Hid (OwnA wx B g n cap d ∧ Ks (fun x => x = g) w wx))
    case first =>
      go_wp2
      go_loopw [9] (fun x wr => ∃ k : Nat, i ≤ k ∧ k ≤ b ∧ x = .int .i64 k ∧ Hid (OwnA wr B g n cap d ∧ scanUp (fun x => !ltInt d[a]! x) d j k = i2 ∧ Ks (fun x => x = g) w wr)) (fun x _ => 5001 - (intOf x).toNat)
      case atStart => exact ⟨i, Nat.le_refl _, ib, rfl, Lib.hid ⟨HC.out.1, HI.out, HC.out.2⟩⟩
      case round =>
        clear HC HI
        obtain ⟨k, hik, hkb, rfl, HR⟩ := hrel
        by_cases hkj : k ≤ j
        · have e3 : (k : Int) ≤ j := by omega
          have e4 : IntKind.i64.wrap ((k : Int) + 1) = ((k + 1 : Nat) : Int) := IntWalk.i64_in _ (by omega)
          have b0 : (k : Int) < n := by omega
          have b1 : k < n := by omega
          have HIN := Lib.hid (scanup_step (fun x => !ltInt d[a]! x) d hkj)
          obtain ⟨x, hx⟩ : ∃ x, x = d[a]! := ⟨_, rfl⟩
          obtain ⟨y, hy⟩ : ∃ y, y = d[k]! := ⟨_, rfl⟩
          have L : ∀ w', (fun w' => OwnA w' B g n cap d) w' → w'.cell? ⟨g, a, none⟩ = some (.int .u64 x) ∧ w'.cell? ⟨g, k, none⟩ = some (.int .u64 y) := fun w' h => by
            rw [hx, hy]; exact ⟨OwnA.cell h (by omega), OwnA.cell h (by omega)⟩
          have hS : (fun w' => OwnA w' B g n cap d) wr.drew := HR.out.1.drew
          have HX := Lib.hid hx
          have HY := Lib.hid hy
          have HF := Lib.hid HR.out.2.1
          have HK := Lib.hid (HR.out.2.2.trans (Ks.of_below (below_one' wr)))
          clear HR hx hy
          go_wp2
          refine Seq.wp_region_seq (fun w' => OwnA w' B g n cap d) (by kernel_rfl) (by kernel_rfl) hS ?_
          generalize wr.drew = w1 at *
          repeat (first | (refine Seq.Seq.skip (by rfl) ?_; (try simp only [Act.put, List.setIfInBounds_toArray, List.set_cons_zero, List.set_cons_succ])) | (refine Seq.Seq.det ?_ (by rfl) (fun w hS => ?_) ?_; rotate_left; ((try dsimp only at hS); go_simp; (try rw [if_pos (by omega)]); with_reducible rfl); (try simp only [Act.put, List.setIfInBounds_toArray, List.set_cons_zero, List.set_cons_succ])))
          refine Seq.Seq.make (by rfl) (by rfl) (fun K Q' hK => ?_)
          go_simp
          go_at_call 69
          refine (lessu_any _ _ _).mono ?_
          rintro e w' ⟨rfl, rfl⟩
          refine hK.out _ _ (hS) ?_
          clear hK K
          try simp only [Act.put, List.setIfInBounds_toArray, List.set_cons_zero, List.set_cons_succ]
          repeat (first | (refine Seq.Seq.skip (by rfl) ?_; (try simp only [Act.put, List.setIfInBounds_toArray, List.set_cons_zero, List.set_cons_succ])) | (refine Seq.Seq.det ?_ (by rfl) (fun w hS => ?_) ?_; rotate_left; ((try dsimp only at hS); go_simp; (try rw [if_pos (by omega)]); with_reducible rfl); (try simp only [Act.put, List.setIfInBounds_toArray, List.set_cons_zero, List.set_cons_succ])))
          refine Seq.Seq.nil ?_
          obtain ⟨q, hq⟩ : ∃ q, q = ltInt x y := ⟨_, rfl⟩
          rw [← hq]
          rw [HX.out, HY.out] at hq
          have HQ := Lib.hid hq
          clear L hq
          by_cases hq2 : q = false
          · subst hq2
            have HE : Hid (OwnA w1 B g n cap d ∧ scanUp (fun x => !ltInt d[a]! x) d j (k + 1) = i2 ∧ Ks (fun x => x = g) w w1) := Lib.hid ⟨hS, by
              have h9 := HF.out
              rw [HIN.out, if_pos (by simp only [← HQ.out] <;> rfl)] at h9
              exact h9, HK.out⟩
            clear hS
            go_wp2
            go_roundw
            case rel => exact ⟨k + 1, by omega, by omega, by go_num, HE⟩
            case measure => simp [intOf]; omega
          · have hq3 : q = true := by cases q <;> first | rfl | exact absurd rfl hq2
            clear hq2
            subst hq3
            have HE : Hid (k = i2 ∧ OwnA w1 B g n cap d ∧ Ks (fun x => x = g) w w1) := Lib.hid ⟨by
              have h9 := HF.out
              rw [HIN.out, if_neg (by simp only [← HQ.out] <;> decide)] at h9
              exact h9, hS, HK.out⟩
            clear hS
            go_wp2
            go_meet
            exact ⟨by rw [HE.out.1], Lib.hid HE.out.2⟩
        · have e3 : ¬ (k : Int) ≤ j := by omega
          have HE : Hid (k = i2 ∧ OwnA wr.drew B g n cap d ∧ Ks (fun x => x = g) w wr.drew) := Lib.hid ⟨by
              have h9 := HR.out.2.1
              rw [scanup_done (fun x => !ltInt d[a]! x) d hkj] at h9
              exact h9, HR.out.1.drew, HR.out.2.2.trans (Ks.of_below (below_one' wr))⟩
          clear HR
          go_wp2
          refine Seq.wp_region_seq (fun w' => True) (by kernel_rfl) (by kernel_rfl) trivial ?_
          generalize wr.drew = w1 at *
          have hS : (fun w' : World => True) w1 := trivial
          repeat (first | (refine Seq.Seq.skip (by rfl) ?_; (try simp only [Act.put, List.setIfInBounds_toArray, List.set_cons_zero, List.set_cons_succ])) | (refine Seq.Seq.det ?_ (by rfl) (fun w hS => ?_) ?_; rotate_left; ((try dsimp only at hS); go_simp; (try rw [if_pos (by omega)]); with_reducible rfl); (try simp only [Act.put, List.setIfInBounds_toArray, List.set_cons_zero, List.set_cons_succ])))
          refine Seq.Seq.nil ?_
          go_wp2
          go_meet
          exact ⟨by rw [HE.out.1], Lib.hid HE.out.2⟩
    case rest =>
      clear HC
      obtain ⟨rfl, HC⟩ := hcut
      go_upto_block 4 with fail
      go_cut [10] from 46 to 61 (fun x wx => x = .int .i64 (j2 : Nat) ∧ Hid (OwnA wx B g n cap d ∧ Ks (fun x => x = g) w wx))
      case first =>
        go_wp2
        go_loopw [10] (fun x wr => ∃ k : Nat, k ≤ j ∧ x = .int .i64 k ∧ Hid (OwnA wr B g n cap d ∧ scanDown (fun x => ltInt d[a]! x) d i2 k = j2 ∧ Ks (fun x => x = g) w wr)) (fun x _ => (intOf x).toNat)
        case atStart => exact ⟨j, Nat.le_refl _, rfl, Lib.hid ⟨HC.out.1, HJ.out, HC.out.2⟩⟩
        case round =>
          clear HC HJ
          obtain ⟨k, hkj, rfl, HR⟩ := hrel
          by_cases hik : i2 ≤ k
          · have e3 : (i2 : Int) ≤ k := by omega
            have e4 : IntKind.i64.wrap ((k : Int) - 1) = ((k - 1 : Nat) : Int) := by rw [IntWalk.i64_in _ (by omega)]; omega
            have b0 : (k : Int) < n := by omega
            have b1 : k < n := by omega
            have HIN := Lib.hid (scandown_step (fun x => ltInt d[a]! x) d hik (by omega))
            obtain ⟨x, hx⟩ : ∃ x, x = d[a]! := ⟨_, rfl⟩
            obtain ⟨y, hy⟩ : ∃ y, y = d[k]! := ⟨_, rfl⟩
            have L : ∀ w', (fun w' => OwnA w' B g n cap d) w' → w'.cell? ⟨g, a, none⟩ = some (.int .u64 x) ∧ w'.cell? ⟨g, k, none⟩ = some (.int .u64 y) := fun w' h => by
              rw [hx, hy]; exact ⟨OwnA.cell h (by omega), OwnA.cell h (by omega)⟩
            have hS : (fun w' => OwnA w' B g n cap d) wr.drew := HR.out.1.drew
            have HX := Lib.hid hx
            have HY := Lib.hid hy
            have HF := Lib.hid HR.out.2.1
            have HK := Lib.hid (HR.out.2.2.trans (Ks.of_below (below_one' wr)))
            clear HR hx hy
            go_wp2
            refine Seq.wp_region_seq (fun w' => OwnA w' B g n cap d) (by kernel_rfl) (by kernel_rfl) hS ?_
            generalize wr.drew = w1 at *
            repeat (first | (refine Seq.Seq.skip (by rfl) ?_; (try simp only [Act.put, List.setIfInBounds_toArray, List.set_cons_zero, List.set_cons_succ])) | (refine Seq.Seq.det ?_ (by rfl) (fun w hS => ?_) ?_; rotate_left; ((try dsimp only at hS); go_simp; (try rw [if_pos (by omega)]); with_reducible rfl); (try simp only [Act.put, List.setIfInBounds_toArray, List.set_cons_zero, List.set_cons_succ])))
            refine Seq.Seq.make (by rfl) (by rfl) (fun K Q' hK => ?_)
            go_simp
            go_at_call 69
            refine (lessu_any _ _ _).mono ?_
            rintro e w' ⟨rfl, rfl⟩
            refine hK.out _ _ (hS) ?_
            clear hK K
            try simp only [Act.put, List.setIfInBounds_toArray, List.set_cons_zero, List.set_cons_succ]
            repeat (first | (refine Seq.Seq.skip (by rfl) ?_; (try simp only [Act.put, List.setIfInBounds_toArray, List.set_cons_zero, List.set_cons_succ])) | (refine Seq.Seq.det ?_ (by rfl) (fun w hS => ?_) ?_; rotate_left; ((try dsimp only at hS); go_simp; (try rw [if_pos (by omega)]); with_reducible rfl); (try simp only [Act.put, List.setIfInBounds_toArray, List.set_cons_zero, List.set_cons_succ])))
            refine Seq.Seq.nil ?_
            obtain ⟨q, hq⟩ : ∃ q, q = ltInt x y := ⟨_, rfl⟩
            rw [← hq]
            rw [HX.out, HY.out] at hq
            have HQ := Lib.hid hq
            clear L hq
            by_cases hq2 : q = true
            · subst hq2
              have HE : Hid (OwnA w1 B g n cap d ∧ scanDown (fun x => ltInt d[a]! x) d i2 (k - 1) = j2 ∧ Ks (fun x => x = g) w w1) := Lib.hid ⟨hS, by
                have h9 := HF.out
                rw [HIN.out, if_pos (by simp only [← HQ.out] <;> rfl)] at h9
                exact h9, HK.out⟩
              clear hS
              go_wp2
              go_roundw
              case rel => exact ⟨k - 1, by omega, by go_num, HE⟩
              case measure => simp [intOf]; omega
            · have hq3 : q = false := by cases q <;> first | rfl | exact absurd rfl hq2
              clear hq2
              subst hq3
              have HE : Hid (k = j2 ∧ OwnA w1 B g n cap d ∧ Ks (fun x => x = g) w w1) := Lib.hid ⟨by
                have h9 := HF.out
                rw [HIN.out, if_neg (by simp only [← HQ.out] <;> decide)] at h9
                exact h9, hS, HK.out⟩
              clear hS
              go_wp2
              go_meet
              exact ⟨by rw [HE.out.1], Lib.hid HE.out.2⟩
          · have e3 : ¬ (i2 : Int) ≤ k := by omega
            have HE : Hid (k = j2 ∧ OwnA wr.drew B g n cap d ∧ Ks (fun x => x = g) w wr.drew) := Lib.hid ⟨by
                have h9 := HR.out.2.1
                rw [scandown_done (fun x => ltInt d[a]! x) d hik] at h9
                exact h9, HR.out.1.drew, HR.out.2.2.trans (Ks.of_below (below_one' wr))⟩
            clear HR
            go_wp2
            refine Seq.wp_region_seq (fun w' => True) (by kernel_rfl) (by kernel_rfl) trivial ?_
            generalize wr.drew = w1 at *
            have hS : (fun w' : World => True) w1 := trivial
            repeat (first | (refine Seq.Seq.skip (by rfl) ?_; (try simp only [Act.put, List.setIfInBounds_toArray, List.set_cons_zero, List.set_cons_succ])) | (refine Seq.Seq.det ?_ (by rfl) (fun w hS => ?_) ?_; rotate_left; ((try dsimp only at hS); go_simp; (try rw [if_pos (by omega)]); with_reducible rfl); (try simp only [Act.put, List.setIfInBounds_toArray, List.set_cons_zero, List.set_cons_succ])))
            refine Seq.Seq.nil ?_
            go_wp2
            go_meet
            exact ⟨by rw [HE.out.1], Lib.hid HE.out.2⟩
      case rest =>
        clear HC
        obtain ⟨rfl, HC⟩ := hcut
        clear HI HJ
        by_cases hgt : i2 > j2
        · have e5 : (j2 : Int) < i2 := by omega
          have HE : Hid (F = (i2, d)) := Lib.hid (by rw [← HF.out, HST.out, if_pos hgt])
          go_wp2
          go_ret
          rw [HE.out]
          exact ⟨rfl, HC.out.1, HC.out.2⟩
        · have e5 : ¬ (j2 : Int) < i2 := by omega
          have e6 : IntKind.i64.wrap ((i2 : Int) + 1) = ((i2 + 1 : Nat) : Int) := IntWalk.i64_in _ (by omega)
          have e7 : IntKind.i64.wrap ((j2 : Int) - 1) = ((j2 - 1 : Nat) : Int) := by rw [IntWalk.i64_in _ (by omega)]; omega
          have c0 := HC.out.1.cell (i := i2) (by omega)
          have c1 := HC.out.1.cell (i := j2) (by omega)
          have f0 := HC.out.1.free i2
          have f1 := HC.out.1.free j2
          obtain ⟨v9, c9⟩ := HC.out.1.cell2 i2 (j := j2) (.int .u64 d[j2]!) (by omega)
          have l2 : (i2 : Int) < n := by omega
          have l3 : (j2 : Int) < n := by omega
          have HEND : Hid (OwnA (((wc.setCell ⟨g, i2, none⟩ (.int .u64 d[j2]!)).setCell ⟨g, j2, none⟩ (.int .u64 d[i2]!)).drew) B g n cap (Go.Sort.swp d i2 j2) ∧ partEqLoop ltInt a (i2 + 1) (j2 - 1) (Go.Sort.swp d i2 j2) = F ∧ Ks (fun x => x = g) w (((wc.setCell ⟨g, i2, none⟩ (.int .u64 d[j2]!)).setCell ⟨g, j2, none⟩ (.int .u64 d[i2]!)).drew)) :=
            Lib.hid ⟨(HC.out.1.swp i2 j2).drew, by rw [← HF.out, HST.out, if_neg hgt], (Ks.two HC.out.2).trans (Ks.of_below (below_one' _))⟩
          obtain ⟨x, hx⟩ : ∃ x, x = d[i2]! := ⟨_, rfl⟩
          obtain ⟨y, hy⟩ : ∃ y, y = d[j2]! := ⟨_, rfl⟩
          rw [← hx, ← hy] at HEND
          rw [← hx] at c0
          rw [← hy] at c1 c9
          clear hx hy HC
          go_wp2
          go_region
          go_wp2
          go_roundw
          case rel => exact ⟨i2 + 1, j2 - 1, _, by omega, by omega, by omega, by go_num, by go_num, HEND⟩
          case measure => simp [intOf]; omega
end Go.Proofs.Ytoemmppoejaapaa.Cur
namespace Go.Proofs.Ytoemmppoejaapaa.Cur
open Go.RowKit Mem Go.Sort
set_option linter.unusedVariables false
set_option maxRecDepth 100000
theorem part_step {a i j i2 j2 : Nat} {d : Array Int} (hi : scanUp (fun x => ltInt x d[a]!) d j i = i2) (hj : scanDown (fun x => !ltInt x d[a]!) d i2 j = j2) :
    partLoop ltInt a i j d = if i2 > j2 then (j2, d) else partLoop ltInt a (i2 + 1) (j2 - 1) (Go.Sort.swp d i2 j2) := by
  have h1 := (scanup_bounds (fun x => ltInt x d[a]!) d j (j + 1 - i) i (Nat.le_refl _)).1
  have h2 := scandown_le (fun x => !ltInt x d[a]!) d i2 j
  rw [partLoop]
  simp only [hi, hj]
  rw [hi] at h1
  rw [hj] at h2
  by_cases h : i2 > j2
  · rw [if_pos h, if_pos h]
  · rw [if_neg h, if_neg h, dif_pos (by omega)]
def StP (B g n cap : Nat) (r : Nat × Bool × Array Int) (w : World) (e : Ending) (w' : World) : Prop := e = .returned (.tuple #[.int .i64 r.1, .bool r.2.1]) ∧ OwnA w' B g n cap r.2.2 ∧ Ks (fun x => x = g) w w'
set_option maxHeartbeats 8000000 in
theorem spart_any (B g n cap a b pv : Nat) (dd : Array Int) (w : World) (h : OwnA w B g n cap dd) (hn : n ≤ 5000) (hab : a < b) (hb : b ≤ n) (hp : pv < n) :
    Calls Try.prog 71 #[.slice (some ⟨g, 0, none⟩) n cap, .int .i64 a, .int .i64 b, .int .i64 pv] w (StP B g n cap (partition ltInt dd a b pv) w) := by
  unfold partition
  have e0 : IntKind.i64.wrap ((a : Int) + 1) = ((a + 1 : Nat) : Int) := IntWalk.i64_in _ (by omega)
  have e1 : IntKind.i64.wrap ((b : Int) - 1) = ((b - 1 : Nat) : Int) := by rw [IntWalk.i64_in _ (by omega)]; omega
  have la : (a : Int) < n := by omega
  have HC : Hid (OwnA w B g n cap dd ∧ Ks (fun x => x = g) w w) := Lib.hid ⟨h, Ks.refl _ _⟩
  obtain ⟨d, hd1⟩ : ∃ x, x = Go.Sort.swp dd a pv := ⟨_, rfl⟩
  have HD := Lib.hid hd1
  rw [← hd1]
  obtain ⟨i, hi⟩ : ∃ x, x = a + 1 := ⟨_, rfl⟩
  obtain ⟨j, hj⟩ : ∃ x, x = b - 1 := ⟨_, rfl⟩
  rw [← hi] at e0 ⊢
  rw [← hj] at e1 ⊢
  dsimp only
  obtain ⟨i2, hi2⟩ : ∃ x, x = scanUp (fun x => ltInt x d[a]!) d j i := ⟨_, rfl⟩
  rw [← hi2]
  obtain ⟨j2, hj2⟩ : ∃ x, x = scanDown (fun x => !ltInt x d[a]!) d i2 j := ⟨_, rfl⟩
  rw [← hj2]
  have q1 := scanup_bounds (fun x => ltInt x d[a]!) d j (j + 1 - i) i (Nat.le_refl _)
  have q2 := scandown_le (fun x => !ltInt x d[a]!) d i2 j
  rw [← hi2] at q1
  rw [← hj2] at q2
  obtain ⟨q1, q3⟩ := q1
  have q4 : i2 ≤ b := by omega
  have ai : a < i := by omega
  have ib : i ≤ b := by omega
  have jb : j < b := by omega
  have HI := Lib.hid hi2.symm
  have HJ := Lib.hid hj2.symm
  obtain ⟨F, hF⟩ : ∃ F, F = (if i2 > j2 then (j2, true, Go.Sort.swp d j2 a) else ((partLoop ltInt a (i2 + 1) (j2 - 1) (Go.Sort.swp d i2 j2)).1, false, Go.Sort.swp (partLoop ltInt a (i2 + 1) (j2 - 1) (Go.Sort.swp d i2 j2)).2 (partLoop ltInt a (i2 + 1) (j2 - 1) (Go.Sort.swp d i2 j2)).1 a)) := ⟨_, rfl⟩
  rw [← hF]
  have HF := Lib.hid hF
  clear hF hi hj hi2 hj2 hd1 h q3
  go_enter Try.func71, Try.ntmps71
  go_wp2
  have c0 := HC.out.1.cell (i := a) (by omega)
  have c1 := HC.out.1.cell (i := pv) (by omega)
  have f0 := HC.out.1.free a
  have f1 := HC.out.1.free pv
  obtain ⟨v9, c9⟩ := HC.out.1.cell2 a (j := pv) (.int .u64 dd[pv]!) (by omega)
  have l2 : ((a : Nat) : Int) < n := by omega
  have l3 : ((pv : Nat) : Int) < n := by omega
  have HX : Hid (OwnA (((w.setCell ⟨g, a, none⟩ (.int .u64 dd[pv]!)).setCell ⟨g, pv, none⟩ (.int .u64 dd[a]!)).drew) B g n cap (Go.Sort.swp dd a pv) ∧ Ks (fun x => x = g) w (((w.setCell ⟨g, a, none⟩ (.int .u64 dd[pv]!)).setCell ⟨g, pv, none⟩ (.int .u64 dd[a]!)).drew)) :=
    Lib.hid ⟨(HC.out.1.swp a pv).drew, (Ks.two HC.out.2).trans (Ks.of_below (below_one' _))⟩
  obtain ⟨x, hx⟩ : ∃ x, x = dd[a]! := ⟨_, rfl⟩
  obtain ⟨y, hy⟩ : ∃ y, y = dd[pv]! := ⟨_, rfl⟩
  rw [← hx, ← hy] at HX
  rw [← hx] at c0
  rw [← hy] at c1 c9
  clear hx hy HC
  go_wp2
  go_region
  clear c0 c1 c9 f0 f1 l2 l3
  have HC := HX
  clear HX
  rw [← HD.out] at HC
  clear HD
  go_upto_block 0 with fail
  go_cut [10] from 30 to 45 (fun x wx => x = .int .i64 (i2 : Nat) ∧ Hid (OwnA wx B g n cap d ∧ Ks (fun x => x = g) w wx))
  case first =>
    go_wp2
    go_loopw [10] (fun x wr => ∃ k : Nat, i ≤ k ∧ k ≤ b ∧ x = .int .i64 k ∧ Hid (OwnA wr B g n cap d ∧ scanUp (fun x => ltInt x d[a]!) d j k = i2 ∧ Ks (fun x => x = g) w wr)) (fun x _ => 5001 - (intOf x).toNat)
    case atStart => exact ⟨i, Nat.le_refl _, ib, rfl, Lib.hid ⟨HC.out.1, HI.out, HC.out.2⟩⟩
    case round =>
      clear HC HI
      obtain ⟨k, hik, hkb, rfl, HR⟩ := hrel
      by_cases hkj : k ≤ j
      · have e3 : (k : Int) ≤ j := by omega
        have e4 : IntKind.i64.wrap ((k : Int) + 1) = ((k + 1 : Nat) : Int) := IntWalk.i64_in _ (by omega)
        have b0 : (k : Int) < n := by omega
        have b1 : k < n := by omega
        have HIN := Lib.hid (scanup_step (fun x => ltInt x d[a]!) d hkj)
        obtain ⟨x, hx⟩ : ∃ x, x = d[k]! := ⟨_, rfl⟩
        obtain ⟨y, hy⟩ : ∃ y, y = d[a]! := ⟨_, rfl⟩
        have L : ∀ w', (fun w' => OwnA w' B g n cap d) w' → w'.cell? ⟨g, k, none⟩ = some (.int .u64 x) ∧ w'.cell? ⟨g, a, none⟩ = some (.int .u64 y) := fun w' h => by
          rw [hx, hy]; exact ⟨OwnA.cell h (by omega), OwnA.cell h (by omega)⟩
        have hS : (fun w' => OwnA w' B g n cap d) wr.drew := HR.out.1.drew
        have HX := Lib.hid hx
        have HY := Lib.hid hy
        have HF := Lib.hid HR.out.2.1
        have HK := Lib.hid (HR.out.2.2.trans (Ks.of_below (below_one' wr)))
        clear HR hx hy
        go_wp2
        refine Seq.wp_region_seq (fun w' => OwnA w' B g n cap d) (by kernel_rfl) (by kernel_rfl) hS ?_
        generalize wr.drew = w1 at *
        repeat (first | (refine Seq.Seq.skip (by rfl) ?_; (try simp only [Act.put, List.setIfInBounds_toArray, List.set_cons_zero, List.set_cons_succ])) | (refine Seq.Seq.det ?_ (by rfl) (fun w hS => ?_) ?_; rotate_left; ((try dsimp only at hS); go_simp; (try rw [if_pos (by omega)]); with_reducible rfl); (try simp only [Act.put, List.setIfInBounds_toArray, List.set_cons_zero, List.set_cons_succ])))
        refine Seq.Seq.make (by rfl) (by rfl) (fun K Q' hK => ?_)
        go_simp
        go_at_call 69
        refine (lessu_any _ _ _).mono ?_
        rintro e w' ⟨rfl, rfl⟩
        refine hK.out _ _ (hS) ?_
        clear hK K
        try simp only [Act.put, List.setIfInBounds_toArray, List.set_cons_zero, List.set_cons_succ]
        repeat (first | (refine Seq.Seq.skip (by rfl) ?_; (try simp only [Act.put, List.setIfInBounds_toArray, List.set_cons_zero, List.set_cons_succ])) | (refine Seq.Seq.det ?_ (by rfl) (fun w hS => ?_) ?_; rotate_left; ((try dsimp only at hS); go_simp; (try rw [if_pos (by omega)]); with_reducible rfl); (try simp only [Act.put, List.setIfInBounds_toArray, List.set_cons_zero, List.set_cons_succ])))
        refine Seq.Seq.nil ?_
        obtain ⟨q, hq⟩ : ∃ q, q = ltInt x y := ⟨_, rfl⟩
        rw [← hq]
        rw [HX.out, HY.out] at hq
        have HQ := Lib.hid hq
        clear L hq
        by_cases hq2 : q = true
        · subst hq2
          have HE : Hid (OwnA w1 B g n cap d ∧ scanUp (fun x => ltInt x d[a]!) d j (k + 1) = i2 ∧ Ks (fun x => x = g) w w1) := Lib.hid ⟨hS, by
            have h9 := HF.out
            rw [HIN.out, if_pos (by simp only [← HQ.out] <;> rfl)] at h9
            exact h9, HK.out⟩
          clear hS
          go_wp2
          go_roundw
          case rel => exact ⟨k + 1, by omega, by omega, by go_num, HE⟩
          case measure => simp [intOf]; omega
        · have hq3 : q = false := by cases q <;> first | rfl | exact absurd rfl hq2
          clear hq2
          subst hq3
          have HE : Hid (k = i2 ∧ OwnA w1 B g n cap d ∧ Ks (fun x => x = g) w w1) := Lib.hid ⟨by
            have h9 := HF.out
            rw [HIN.out, if_neg (by simp only [← HQ.out] <;> decide)] at h9
            exact h9, hS, HK.out⟩
          clear hS
          go_wp2
          go_meet
          exact ⟨by rw [HE.out.1], Lib.hid HE.out.2⟩
      · have e3 : ¬ (k : Int) ≤ j := by omega
        have HE : Hid (k = i2 ∧ OwnA wr.drew B g n cap d ∧ Ks (fun x => x = g) w wr.drew) := Lib.hid ⟨by
            have h9 := HR.out.2.1
            rw [scanup_done (fun x => ltInt x d[a]!) d hkj] at h9
            exact h9, HR.out.1.drew, HR.out.2.2.trans (Ks.of_below (below_one' wr))⟩
        clear HR
        go_wp2
        refine Seq.wp_region_seq (fun w' => True) (by kernel_rfl) (by kernel_rfl) trivial ?_
        generalize wr.drew = w1 at *
        have hS : (fun w' : World => True) w1 := trivial
        repeat (first | (refine Seq.Seq.skip (by rfl) ?_; (try simp only [Act.put, List.setIfInBounds_toArray, List.set_cons_zero, List.set_cons_succ])) | (refine Seq.Seq.det ?_ (by rfl) (fun w hS => ?_) ?_; rotate_left; ((try dsimp only at hS); go_simp; (try rw [if_pos (by omega)]); with_reducible rfl); (try simp only [Act.put, List.setIfInBounds_toArray, List.set_cons_zero, List.set_cons_succ])))
        refine Seq.Seq.nil ?_
        go_wp2
        go_meet
        exact ⟨by rw [HE.out.1], Lib.hid HE.out.2⟩
  case rest =>
    clear HC
    obtain ⟨rfl, HC⟩ := hcut
    go_upto_block 2 with fail
    go_cut [11] from 46 to 62 (fun x wx => x = .int .i64 (j2 : Nat) ∧ Hid (OwnA wx B g n cap d ∧ Ks (fun x => x = g) w wx))
    case first =>
      go_wp2
      go_loopw [11] (fun x wr => ∃ k : Nat, k ≤ j ∧ x = .int .i64 k ∧ Hid (OwnA wr B g n cap d ∧ scanDown (fun x => !ltInt x d[a]!) d i2 k = j2 ∧ Ks (fun x => x = g) w wr)) (fun x _ => (intOf x).toNat)
      case atStart => exact ⟨j, Nat.le_refl _, rfl, Lib.hid ⟨HC.out.1, HJ.out, HC.out.2⟩⟩
      case round =>
        clear HC HJ
        obtain ⟨k, hkj, rfl, HR⟩ := hrel
        by_cases hik : i2 ≤ k
        · have e3 : (i2 : Int) ≤ k := by omega
          have e4 : IntKind.i64.wrap ((k : Int) - 1) = ((k - 1 : Nat) : Int) := by rw [IntWalk.i64_in _ (by omega)]; omega
          have b0 : (k : Int) < n := by omega
          have b1 : k < n := by omega
          have HIN := Lib.hid (scandown_step (fun x => !ltInt x d[a]!) d hik (by omega))
          obtain ⟨x, hx⟩ : ∃ x, x = d[k]! := ⟨_, rfl⟩
          obtain ⟨y, hy⟩ : ∃ y, y = d[a]! := ⟨_, rfl⟩
          have L : ∀ w', (fun w' => OwnA w' B g n cap d) w' → w'.cell? ⟨g, k, none⟩ = some (.int .u64 x) ∧ w'.cell? ⟨g, a, none⟩ = some (.int .u64 y) := fun w' h => by
            rw [hx, hy]; exact ⟨OwnA.cell h (by omega), OwnA.cell h (by omega)⟩
          have hS : (fun w' => OwnA w' B g n cap d) wr.drew := HR.out.1.drew
          have HX := Lib.hid hx
          have HY := Lib.hid hy
          have HF := Lib.hid HR.out.2.1
          have HK := Lib.hid (HR.out.2.2.trans (Ks.of_below (below_one' wr)))
          clear HR hx hy
          go_wp2
          refine Seq.wp_region_seq (fun w' => OwnA w' B g n cap d) (by kernel_rfl) (by kernel_rfl) hS ?_
          generalize wr.drew = w1 at *
          repeat (first | (refine Seq.Seq.skip (by rfl) ?_; (try simp only [Act.put, List.setIfInBounds_toArray, List.set_cons_zero, List.set_cons_succ])) | (refine Seq.Seq.det ?_ (by rfl) (fun w hS => ?_) ?_; rotate_left; ((try dsimp only at hS); go_simp; (try rw [if_pos (by omega)]); with_reducible rfl); (try simp only [Act.put, List.setIfInBounds_toArray, List.set_cons_zero, List.set_cons_succ])))
          refine Seq.Seq.make (by rfl) (by rfl) (fun K Q' hK => ?_)
          go_simp
          go_at_call 69
          refine (lessu_any _ _ _).mono ?_
          rintro e w' ⟨rfl, rfl⟩
          refine hK.out _ _ (hS) ?_
          clear hK K
          try simp only [Act.put, List.setIfInBounds_toArray, List.set_cons_zero, List.set_cons_succ]
          repeat (first | (refine Seq.Seq.skip (by rfl) ?_; (try simp only [Act.put, List.setIfInBounds_toArray, List.set_cons_zero, List.set_cons_succ])) | (refine Seq.Seq.det ?_ (by rfl) (fun w hS => ?_) ?_; rotate_left; ((try dsimp only at hS); go_simp; (try rw [if_pos (by omega)]); with_reducible rfl); (try simp only [Act.put, List.setIfInBounds_toArray, List.set_cons_zero, List.set_cons_succ])))
          refine Seq.Seq.nil ?_
          obtain ⟨q, hq⟩ : ∃ q, q = ltInt x y := ⟨_, rfl⟩
          rw [← hq]
          rw [HX.out, HY.out] at hq
          have HQ := Lib.hid hq
          clear L hq
          by_cases hq2 : q = false
          · subst hq2
            have HE : Hid (OwnA w1 B g n cap d ∧ scanDown (fun x => !ltInt x d[a]!) d i2 (k - 1) = j2 ∧ Ks (fun x => x = g) w w1) := Lib.hid ⟨hS, by
              have h9 := HF.out
              rw [HIN.out, if_pos (by simp only [← HQ.out] <;> rfl)] at h9
              exact h9, HK.out⟩
            clear hS
            go_wp2
            go_roundw
            case rel => exact ⟨k - 1, by omega, by go_num, HE⟩
            case measure => simp [intOf]; omega
          · have hq3 : q = true := by cases q <;> first | rfl | exact absurd rfl hq2
            clear hq2
            subst hq3
            have HE : Hid (k = j2 ∧ OwnA w1 B g n cap d ∧ Ks (fun x => x = g) w w1) := Lib.hid ⟨by
              have h9 := HF.out
              rw [HIN.out, if_neg (by simp only [← HQ.out] <;> decide)] at h9
              exact h9, hS, HK.out⟩
            clear hS
            go_wp2
            go_meet
            exact ⟨by rw [HE.out.1], Lib.hid HE.out.2⟩
        · have e3 : ¬ (i2 : Int) ≤ k := by omega
          have HE : Hid (k = j2 ∧ OwnA wr.drew B g n cap d ∧ Ks (fun x => x = g) w wr.drew) := Lib.hid ⟨by
              have h9 := HR.out.2.1
              rw [scandown_done (fun x => !ltInt x d[a]!) d hik] at h9
              exact h9, HR.out.1.drew, HR.out.2.2.trans (Ks.of_below (below_one' wr))⟩
          clear HR
          go_wp2
          refine Seq.wp_region_seq (fun w' => True) (by kernel_rfl) (by kernel_rfl) trivial ?_
          generalize wr.drew = w1 at *
          have hS : (fun w' : World => True) w1 := trivial
          repeat (first | (refine Seq.Seq.skip (by rfl) ?_; (try simp only [Act.put, List.setIfInBounds_toArray, List.set_cons_zero, List.set_cons_succ])) | (refine Seq.Seq.det ?_ (by rfl) (fun w hS => ?_) ?_; rotate_left; ((try dsimp only at hS); go_simp; (try rw [if_pos (by omega)]); with_reducible rfl); (try simp only [Act.put, List.setIfInBounds_toArray, List.set_cons_zero, List.set_cons_succ])))
          refine Seq.Seq.nil ?_
          go_wp2
          go_meet
          exact ⟨by rw [HE.out.1], Lib.hid HE.out.2⟩
    case rest =>
      clear HC
      obtain ⟨rfl, HC⟩ := hcut
      clear HI HJ
      by_cases hgt : i2 > j2
      · have e5 : (j2 : Int) < i2 := by omega
        have HE : Hid (F = (j2, true, Go.Sort.swp d j2 a)) := Lib.hid (by rw [HF.out, if_pos hgt])
        clear HF
        go_wp2
        have c0 := HC.out.1.cell (i := j2) (by omega)
        have c1 := HC.out.1.cell (i := a) (by omega)
        have f0 := HC.out.1.free j2
        have f1 := HC.out.1.free a
        obtain ⟨v9, c9⟩ := HC.out.1.cell2 j2 (j := a) (.int .u64 d[a]!) (by omega)
        have l2 : ((j2 : Nat) : Int) < n := by omega
        have l3 : ((a : Nat) : Int) < n := by omega
        have HX : Hid (OwnA (((wc.setCell ⟨g, j2, none⟩ (.int .u64 d[a]!)).setCell ⟨g, a, none⟩ (.int .u64 d[j2]!)).drew) B g n cap (Go.Sort.swp d j2 a) ∧ Ks (fun x => x = g) w (((wc.setCell ⟨g, j2, none⟩ (.int .u64 d[a]!)).setCell ⟨g, a, none⟩ (.int .u64 d[j2]!)).drew)) :=
          Lib.hid ⟨(HC.out.1.swp j2 a).drew, (Ks.two HC.out.2).trans (Ks.of_below (below_one' _))⟩
        obtain ⟨x, hx⟩ : ∃ x, x = d[j2]! := ⟨_, rfl⟩
        obtain ⟨y, hy⟩ : ∃ y, y = d[a]! := ⟨_, rfl⟩
        rw [← hx, ← hy] at HX
        rw [← hx] at c0
        rw [← hy] at c1 c9
        clear hx hy HC
        go_wp2
        go_region
        clear c0 c1 c9 f0 f1 l2 l3
        have HC := HX
        clear HX
        go_wp2
        go_ret2
        rw [HE.out]
        exact ⟨rfl, HC.out.1, HC.out.2⟩
      · have e5 : ¬ (j2 : Int) < i2 := by omega
        have e6 : IntKind.i64.wrap ((i2 : Int) + 1) = ((i2 + 1 : Nat) : Int) := IntWalk.i64_in _ (by omega)
        have e7 : IntKind.i64.wrap ((j2 : Int) - 1) = ((j2 - 1 : Nat) : Int) := by rw [IntWalk.i64_in _ (by omega)]; omega
        obtain ⟨R, hR⟩ : ∃ R, R = partLoop ltInt a (i2 + 1) (j2 - 1) (Go.Sort.swp d i2 j2) := ⟨_, rfl⟩
        rw [← hR] at HF
        have HE : Hid (F = (R.1, false, Go.Sort.swp R.2 R.1 a)) := Lib.hid (by rw [HF.out, if_neg hgt])
        have HR := Lib.hid hR.symm
        clear HF hR
        go_wp2
        have c0 := HC.out.1.cell (i := i2) (by omega)
        have c1 := HC.out.1.cell (i := j2) (by omega)
        have f0 := HC.out.1.free i2
        have f1 := HC.out.1.free j2
        obtain ⟨v9, c9⟩ := HC.out.1.cell2 i2 (j := j2) (.int .u64 d[j2]!) (by omega)
        have l2 : ((i2 : Nat) : Int) < n := by omega
        have l3 : ((j2 : Nat) : Int) < n := by omega
        have HX : Hid (OwnA (((wc.setCell ⟨g, i2, none⟩ (.int .u64 d[j2]!)).setCell ⟨g, j2, none⟩ (.int .u64 d[i2]!)).drew) B g n cap (Go.Sort.swp d i2 j2) ∧ Ks (fun x => x = g) w (((wc.setCell ⟨g, i2, none⟩ (.int .u64 d[j2]!)).setCell ⟨g, j2, none⟩ (.int .u64 d[i2]!)).drew)) :=
          Lib.hid ⟨(HC.out.1.swp i2 j2).drew, (Ks.two HC.out.2).trans (Ks.of_below (below_one' _))⟩
        obtain ⟨x, hx⟩ : ∃ x, x = d[i2]! := ⟨_, rfl⟩
        obtain ⟨y, hy⟩ : ∃ y, y = d[j2]! := ⟨_, rfl⟩
        rw [← hx, ← hy] at HX
        rw [← hx] at c0
        rw [← hy] at c1 c9
        clear hx hy HC
        go_wp2
        go_region
        clear c0 c1 c9 f0 f1 l2 l3
        have HC := HX
        clear HX
        go_wp2
        go_loopw [10, 11] (fun x y wr => ∃ (i j : Nat) (d : Array Int), a < i ∧ i ≤ b ∧ j < b ∧ x = .int .i64 i ∧ y = .int .i64 j ∧ Hid (OwnA wr B g n cap d ∧ partLoop ltInt a i j d = R ∧ Ks (fun x => x = g) w wr)) (fun x y _ => (intOf y).toNat + 1 - (intOf x).toNat)
        case atStart => exact ⟨i2 + 1, j2 - 1, _, by omega, by omega, by omega, by go_num, by go_num, Lib.hid ⟨HC.out.1, HR.out, HC.out.2⟩⟩
        case round =>
          clear HC HR e0 e1 e5 e6 e7 hgt q1 q2 q4 ai ib jb
          obtain ⟨i, j, d, ai, ib, jb, rfl, rfl, HR⟩ := hrel
          obtain ⟨i2, hi2⟩ : ∃ x, x = scanUp (fun x => ltInt x d[a]!) d j i := ⟨_, rfl⟩
          obtain ⟨j2, hj2⟩ : ∃ x, x = scanDown (fun x => !ltInt x d[a]!) d i2 j := ⟨_, rfl⟩
          have q1 := scanup_bounds (fun x => ltInt x d[a]!) d j (j + 1 - i) i (Nat.le_refl _)
          have q2 := scandown_le (fun x => !ltInt x d[a]!) d i2 j
          rw [← hi2] at q1
          rw [← hj2] at q2
          obtain ⟨q1, q3⟩ := q1
          have q4 : i2 ≤ b := by omega
          have HST := Lib.hid (part_step hi2.symm hj2.symm)
          have HI := Lib.hid hi2.symm
          have HJ := Lib.hid hj2.symm
          have HF := Lib.hid HR.out.2.1
          have HC := Lib.hid (And.intro HR.out.1 HR.out.2.2)
          clear HR hi2 hj2 q3
          go_upto_block 6 with fail
          go_cut [10] from 99 to 114 (fun x wx => x = .int .i64 (i2 : Nat) ∧ Hid (OwnA wx B g n cap d ∧ Ks (fun x => x = g) w wx))
          case first =>
            go_wp2
            go_loopw [10] (fun x wr => ∃ k : Nat, i ≤ k ∧ k ≤ b ∧ x = .int .i64 k ∧ Hid (OwnA wr B g n cap d ∧ scanUp (fun x => ltInt x d[a]!) d j k = i2 ∧ Ks (fun x => x = g) w wr)) (fun x _ => 5001 - (intOf x).toNat)
            case atStart => exact ⟨i, Nat.le_refl _, ib, rfl, Lib.hid ⟨HC.out.1, HI.out, HC.out.2⟩⟩
            case round =>
              clear HC HI
              obtain ⟨k, hik, hkb, rfl, HR⟩ := hrel
              by_cases hkj : k ≤ j
              · have e3 : (k : Int) ≤ j := by omega
                have e4 : IntKind.i64.wrap ((k : Int) + 1) = ((k + 1 : Nat) : Int) := IntWalk.i64_in _ (by omega)
                have b0 : (k : Int) < n := by omega
                have b1 : k < n := by omega
                have HIN := Lib.hid (scanup_step (fun x => ltInt x d[a]!) d hkj)
                obtain ⟨x, hx⟩ : ∃ x, x = d[k]! := ⟨_, rfl⟩
                obtain ⟨y, hy⟩ : ∃ y, y = d[a]! := ⟨_, rfl⟩
                have L : ∀ w', (fun w' => OwnA w' B g n cap d) w' → w'.cell? ⟨g, k, none⟩ = some (.int .u64 x) ∧ w'.cell? ⟨g, a, none⟩ = some (.int .u64 y) := fun w' h => by
                  rw [hx, hy]; exact ⟨OwnA.cell h (by omega), OwnA.cell h (by omega)⟩
                have hS : (fun w' => OwnA w' B g n cap d) wr.drew := HR.out.1.drew
                have HX := Lib.hid hx
                have HY := Lib.hid hy
                have HF := Lib.hid HR.out.2.1
                have HK := Lib.hid (HR.out.2.2.trans (Ks.of_below (below_one' wr)))
                clear HR hx hy
                go_wp2
                refine Seq.wp_region_seq (fun w' => OwnA w' B g n cap d) (by kernel_rfl) (by kernel_rfl) hS ?_
                generalize wr.drew = w1 at *
                repeat (first | (refine Seq.Seq.skip (by rfl) ?_; (try simp only [Act.put, List.setIfInBounds_toArray, List.set_cons_zero, List.set_cons_succ])) | (refine Seq.Seq.det ?_ (by rfl) (fun w hS => ?_) ?_; rotate_left; ((try dsimp only at hS); go_simp; (try rw [if_pos (by omega)]); with_reducible rfl); (try simp only [Act.put, List.setIfInBounds_toArray, List.set_cons_zero, List.set_cons_succ])))
                refine Seq.Seq.make (by rfl) (by rfl) (fun K Q' hK => ?_)
                go_simp
                go_at_call 69
                refine (lessu_any _ _ _).mono ?_
                rintro e w' ⟨rfl, rfl⟩
                refine hK.out _ _ (hS) ?_
                clear hK K
                try simp only [Act.put, List.setIfInBounds_toArray, List.set_cons_zero, List.set_cons_succ]
                repeat (first | (refine Seq.Seq.skip (by rfl) ?_; (try simp only [Act.put, List.setIfInBounds_toArray, List.set_cons_zero, List.set_cons_succ])) | (refine Seq.Seq.det ?_ (by rfl) (fun w hS => ?_) ?_; rotate_left; ((try dsimp only at hS); go_simp; (try rw [if_pos (by omega)]); with_reducible rfl); (try simp only [Act.put, List.setIfInBounds_toArray, List.set_cons_zero, List.set_cons_succ])))
                refine Seq.Seq.nil ?_
                obtain ⟨q, hq⟩ : ∃ q, q = ltInt x y := ⟨_, rfl⟩
                rw [← hq]
                rw [HX.out, HY.out] at hq
                have HQ := Lib.hid hq
                clear L hq
                by_cases hq2 : q = true
                · subst hq2
                  have HE : Hid (OwnA w1 B g n cap d ∧ scanUp (fun x => ltInt x d[a]!) d j (k + 1) = i2 ∧ Ks (fun x => x = g) w w1) := Lib.hid ⟨hS, by
                    have h9 := HF.out
                    rw [HIN.out, if_pos (by simp only [← HQ.out] <;> rfl)] at h9
                    exact h9, HK.out⟩
                  clear hS
                  go_wp2
                  go_roundw
                  case rel => exact ⟨k + 1, by omega, by omega, by go_num, HE⟩
                  case measure => simp [intOf]; omega
                · have hq3 : q = false := by cases q <;> first | rfl | exact absurd rfl hq2
                  clear hq2
                  subst hq3
                  have HE : Hid (k = i2 ∧ OwnA w1 B g n cap d ∧ Ks (fun x => x = g) w w1) := Lib.hid ⟨by
                    have h9 := HF.out
                    rw [HIN.out, if_neg (by simp only [← HQ.out] <;> decide)] at h9
                    exact h9, hS, HK.out⟩
                  clear hS
                  go_wp2
                  go_meet
                  exact ⟨by rw [HE.out.1], Lib.hid HE.out.2⟩
              · have e3 : ¬ (k : Int) ≤ j := by omega
                have HE : Hid (k = i2 ∧ OwnA wr.drew B g n cap d ∧ Ks (fun x => x = g) w wr.drew) := Lib.hid ⟨by
                    have h9 := HR.out.2.1
                    rw [scanup_done (fun x => ltInt x d[a]!) d hkj] at h9
                    exact h9, HR.out.1.drew, HR.out.2.2.trans (Ks.of_below (below_one' wr))⟩
                clear HR
                go_wp2
                refine Seq.wp_region_seq (fun w' => True) (by kernel_rfl) (by kernel_rfl) trivial ?_
                generalize wr.drew = w1 at *
                have hS : (fun w' : World => True) w1 := trivial
                repeat (first | (refine Seq.Seq.skip (by rfl) ?_; (try simp only [Act.put, List.setIfInBounds_toArray, List.set_cons_zero, List.set_cons_succ])) | (refine Seq.Seq.det ?_ (by rfl) (fun w hS => ?_) ?_; rotate_left; ((try dsimp only at hS); go_simp; (try rw [if_pos (by omega)]); with_reducible rfl); (try simp only [Act.put, List.setIfInBounds_toArray, List.set_cons_zero, List.set_cons_succ])))
                refine Seq.Seq.nil ?_
                go_wp2
                go_meet
                exact ⟨by rw [HE.out.1], Lib.hid HE.out.2⟩
          case rest =>
            clear HC
            obtain ⟨rfl, HC⟩ := hcut
            go_upto_block 8 with fail
            go_cut [11] from 115 to 131 (fun x wx => x = .int .i64 (j2 : Nat) ∧ Hid (OwnA wx B g n cap d ∧ Ks (fun x => x = g) w wx))
            case first =>
              go_wp2
              go_loopw [11] (fun x wr => ∃ k : Nat, k ≤ j ∧ x = .int .i64 k ∧ Hid (OwnA wr B g n cap d ∧ scanDown (fun x => !ltInt x d[a]!) d i2 k = j2 ∧ Ks (fun x => x = g) w wr)) (fun x _ => (intOf x).toNat)
              case atStart => exact ⟨j, Nat.le_refl _, rfl, Lib.hid ⟨HC.out.1, HJ.out, HC.out.2⟩⟩
              case round =>
                clear HC HJ
                obtain ⟨k, hkj, rfl, HR⟩ := hrel
                by_cases hik : i2 ≤ k
                · have e3 : (i2 : Int) ≤ k := by omega
                  have e4 : IntKind.i64.wrap ((k : Int) - 1) = ((k - 1 : Nat) : Int) := by rw [IntWalk.i64_in _ (by omega)]; omega
                  have b0 : (k : Int) < n := by omega
                  have b1 : k < n := by omega
                  have HIN := Lib.hid (scandown_step (fun x => !ltInt x d[a]!) d hik (by omega))
                  obtain ⟨x, hx⟩ : ∃ x, x = d[k]! := ⟨_, rfl⟩
                  obtain ⟨y, hy⟩ : ∃ y, y = d[a]! := ⟨_, rfl⟩
                  have L : ∀ w', (fun w' => OwnA w' B g n cap d) w' → w'.cell? ⟨g, k, none⟩ = some (.int .u64 x) ∧ w'.cell? ⟨g, a, none⟩ = some (.int .u64 y) := fun w' h => by
                    rw [hx, hy]; exact ⟨OwnA.cell h (by omega), OwnA.cell h (by omega)⟩
                  have hS : (fun w' => OwnA w' B g n cap d) wr.drew := HR.out.1.drew
                  have HX := Lib.hid hx
                  have HY := Lib.hid hy
                  have HF := Lib.hid HR.out.2.1
                  have HK := Lib.hid (HR.out.2.2.trans (Ks.of_below (below_one' wr)))
                  clear HR hx hy
                  go_wp2
                  refine Seq.wp_region_seq (fun w' => OwnA w' B g n cap d) (by kernel_rfl) (by kernel_rfl) hS ?_
                  generalize wr.drew = w1 at *
                  repeat (first | (refine Seq.Seq.skip (by rfl) ?_; (try simp only [Act.put, List.setIfInBounds_toArray, List.set_cons_zero, List.set_cons_succ])) | (refine Seq.Seq.det ?_ (by rfl) (fun w hS => ?_) ?_; rotate_left; ((try dsimp only at hS); go_simp; (try rw [if_pos (by omega)]); with_reducible rfl); (try simp only [Act.put, List.setIfInBounds_toArray, List.set_cons_zero, List.set_cons_succ])))
                  refine Seq.Seq.make (by rfl) (by rfl) (fun K Q' hK => ?_)
                  go_simp
                  go_at_call 69
                  refine (lessu_any _ _ _).mono ?_
                  rintro e w' ⟨rfl, rfl⟩
                  refine hK.out _ _ (hS) ?_
                  clear hK K
                  try simp only [Act.put, List.setIfInBounds_toArray, List.set_cons_zero, List.set_cons_succ]
                  repeat (first | (refine Seq.Seq.skip (by rfl) ?_; (try simp only [Act.put, List.setIfInBounds_toArray, List.set_cons_zero, List.set_cons_succ])) | (refine Seq.Seq.det ?_ (by rfl) (fun w hS => ?_) ?_; rotate_left; ((try dsimp only at hS); go_simp; (try rw [if_pos (by omega)]); with_reducible rfl); (try simp only [Act.put, List.setIfInBounds_toArray, List.set_cons_zero, List.set_cons_succ])))
                  refine Seq.Seq.nil ?_
                  obtain ⟨q, hq⟩ : ∃ q, q = ltInt x y := ⟨_, rfl⟩
                  rw [← hq]
                  rw [HX.out, HY.out] at hq
                  have HQ := Lib.hid hq
                  clear L hq
                  by_cases hq2 : q = false
                  · subst hq2
                    have HE : Hid (OwnA w1 B g n cap d ∧ scanDown (fun x => !ltInt x d[a]!) d i2 (k - 1) = j2 ∧ Ks (fun x => x = g) w w1) := Lib.hid ⟨hS, by
                      have h9 := HF.out
                      rw [HIN.out, if_pos (by simp only [← HQ.out] <;> rfl)] at h9
                      exact h9, HK.out⟩
                    clear hS
                    go_wp2
                    go_roundw
                    case rel => exact ⟨k - 1, by omega, by go_num, HE⟩
                    case measure => simp [intOf]; omega
                  · have hq3 : q = true := by cases q <;> first | rfl | exact absurd rfl hq2
                    clear hq2
                    subst hq3
                    have HE : Hid (k = j2 ∧ OwnA w1 B g n cap d ∧ Ks (fun x => x = g) w w1) := Lib.hid ⟨by
                      have h9 := HF.out
                      rw [HIN.out, if_neg (by simp only [← HQ.out] <;> decide)] at h9
                      exact h9, hS, HK.out⟩
                    clear hS
                    go_wp2
                    go_meet
                    exact ⟨by rw [HE.out.1], Lib.hid HE.out.2⟩
                · have e3 : ¬ (i2 : Int) ≤ k := by omega
                  have HE : Hid (k = j2 ∧ OwnA wr.drew B g n cap d ∧ Ks (fun x => x = g) w wr.drew) := Lib.hid ⟨by
                      have h9 := HR.out.2.1
                      rw [scandown_done (fun x => !ltInt x d[a]!) d hik] at h9
                      exact h9, HR.out.1.drew, HR.out.2.2.trans (Ks.of_below (below_one' wr))⟩
                  clear HR
                  go_wp2
                  refine Seq.wp_region_seq (fun w' => True) (by kernel_rfl) (by kernel_rfl) trivial ?_
                  generalize wr.drew = w1 at *
                  have hS : (fun w' : World => True) w1 := trivial
                  repeat (first | (refine Seq.Seq.skip (by rfl) ?_; (try simp only [Act.put, List.setIfInBounds_toArray, List.set_cons_zero, List.set_cons_succ])) | (refine Seq.Seq.det ?_ (by rfl) (fun w hS => ?_) ?_; rotate_left; ((try dsimp only at hS); go_simp; (try rw [if_pos (by omega)]); with_reducible rfl); (try simp only [Act.put, List.setIfInBounds_toArray, List.set_cons_zero, List.set_cons_succ])))
                  refine Seq.Seq.nil ?_
                  go_wp2
                  go_meet
                  exact ⟨by rw [HE.out.1], Lib.hid HE.out.2⟩
            case rest =>
              clear HC
              obtain ⟨rfl, HC⟩ := hcut
              clear HI HJ
              by_cases hgt : i2 > j2
              · have e5 : (j2 : Int) < i2 := by omega
                have HE2 : Hid (R = (j2, d)) := Lib.hid (by rw [← HF.out, HST.out, if_pos hgt])
                rw [HE2.out] at HE
                clear HF HST HE2
                go_wp2
                have c0 := HC.out.1.cell (i := j2) (by omega)
                have c1 := HC.out.1.cell (i := a) (by omega)
                have f0 := HC.out.1.free j2
                have f1 := HC.out.1.free a
                obtain ⟨v9, c9⟩ := HC.out.1.cell2 j2 (j := a) (.int .u64 d[a]!) (by omega)
                have l2 : ((j2 : Nat) : Int) < n := by omega
                have l3 : ((a : Nat) : Int) < n := by omega
                have HX : Hid (OwnA (((wc.setCell ⟨g, j2, none⟩ (.int .u64 d[a]!)).setCell ⟨g, a, none⟩ (.int .u64 d[j2]!)).drew) B g n cap (Go.Sort.swp d j2 a) ∧ Ks (fun x => x = g) w (((wc.setCell ⟨g, j2, none⟩ (.int .u64 d[a]!)).setCell ⟨g, a, none⟩ (.int .u64 d[j2]!)).drew)) :=
                  Lib.hid ⟨(HC.out.1.swp j2 a).drew, (Ks.two HC.out.2).trans (Ks.of_below (below_one' _))⟩
                obtain ⟨x, hx⟩ : ∃ x, x = d[j2]! := ⟨_, rfl⟩
                obtain ⟨y, hy⟩ : ∃ y, y = d[a]! := ⟨_, rfl⟩
                rw [← hx, ← hy] at HX
                rw [← hx] at c0
                rw [← hy] at c1 c9
                clear hx hy HC
                go_wp2
                go_region
                clear c0 c1 c9 f0 f1 l2 l3
                have HC := HX
                clear HX
                go_wp2
                go_ret2
                rw [HE.out]
                exact ⟨rfl, HC.out.1, HC.out.2⟩
              · have e5 : ¬ (j2 : Int) < i2 := by omega
                have e6 : IntKind.i64.wrap ((i2 : Int) + 1) = ((i2 + 1 : Nat) : Int) := IntWalk.i64_in _ (by omega)
                have e7 : IntKind.i64.wrap ((j2 : Int) - 1) = ((j2 - 1 : Nat) : Int) := by rw [IntWalk.i64_in _ (by omega)]; omega
                have HFF : Hid (partLoop ltInt a (i2 + 1) (j2 - 1) (Go.Sort.swp d i2 j2) = R) := Lib.hid (by rw [← HF.out, HST.out, if_neg hgt])
                clear HF HST
                go_wp2
                have c0 := HC.out.1.cell (i := i2) (by omega)
                have c1 := HC.out.1.cell (i := j2) (by omega)
                have f0 := HC.out.1.free i2
                have f1 := HC.out.1.free j2
                obtain ⟨v9, c9⟩ := HC.out.1.cell2 i2 (j := j2) (.int .u64 d[j2]!) (by omega)
                have l2 : ((i2 : Nat) : Int) < n := by omega
                have l3 : ((j2 : Nat) : Int) < n := by omega
                have HX : Hid (OwnA (((wc.setCell ⟨g, i2, none⟩ (.int .u64 d[j2]!)).setCell ⟨g, j2, none⟩ (.int .u64 d[i2]!)).drew) B g n cap (Go.Sort.swp d i2 j2) ∧ Ks (fun x => x = g) w (((wc.setCell ⟨g, i2, none⟩ (.int .u64 d[j2]!)).setCell ⟨g, j2, none⟩ (.int .u64 d[i2]!)).drew)) :=
                  Lib.hid ⟨(HC.out.1.swp i2 j2).drew, (Ks.two HC.out.2).trans (Ks.of_below (below_one' _))⟩
                obtain ⟨x, hx⟩ : ∃ x, x = d[i2]! := ⟨_, rfl⟩
                obtain ⟨y, hy⟩ : ∃ y, y = d[j2]! := ⟨_, rfl⟩
                rw [← hx, ← hy] at HX
                rw [← hx] at c0
                rw [← hy] at c1 c9
                clear hx hy HC
                go_wp2
                go_region
                clear c0 c1 c9 f0 f1 l2 l3
                have HC := HX
                clear HX
                go_wp2
                go_roundw
                case rel => exact ⟨i2 + 1, j2 - 1, _, by omega, by omega, by omega, by go_num, by go_num, Lib.hid ⟨HC.out.1, HFF.out, HC.out.2⟩⟩
                case measure => simp [intOf]; omega
end Go.Proofs.Ytoemmppoejaapaa.Cur
namespace Go.Proofs.Ytoemmppoejaapaa.Cur
open Go.RowKit Mem Go.Sort
set_option linter.unusedVariables false
set_option maxRecDepth 100000
theorem scs_step (d : Array Int) {b k : Nat} (h : k < b) : scanSorted ltInt d b k = if ltInt d[k]! d[k - 1]! = true then k else scanSorted ltInt d b (k + 1) := by
  conv => lhs; unfold scanSorted
  by_cases hq : ltInt d[k]! d[k - 1]! = true
  · rw [if_pos hq, if_neg (by simp [hq])]
  · rw [if_neg hq, if_pos (by simp [h, hq])]
theorem scs_done (d : Array Int) {b k : Nat} (h : ¬ k < b) : scanSorted ltInt d b k = k := by
  unfold scanSorted
  simp [h]
theorem scs_bounds (d : Array Int) (b : Nat) : ∀ (f k : Nat), b - k ≤ f → k ≤ b → k ≤ scanSorted ltInt d b k ∧ scanSorted ltInt d b k ≤ b
  | 0, k, hf, hk => by rw [scs_done d (by omega)]; omega
  | f + 1, k, hf, hk => by
    by_cases h : k < b
    · rw [scs_step d h]
      split
      · omega
      · have := scs_bounds d b f (k + 1) (by omega) (by omega)
        omega
    · rw [scs_done d h]; omega
theorem shd_step (d : Array Int) {k m : Nat} (h : k = m + 1) : shiftDown ltInt k d = if ltInt d[k]! d[m]! = true then shiftDown ltInt m (Go.Sort.swp d k m) else d := by
  subst h
  conv => lhs; unfold shiftDown
  by_cases hq : ltInt d[m + 1]! d[m]! = true
  · rw [if_pos hq, if_neg (by simp [hq])]
  · rw [if_neg hq, if_pos (by simp [hq])]
theorem shu_step (d : Array Int) {b k m : Nat} (h : k = m + 1) (hk : k < b) : shiftUp ltInt b k d = if ltInt d[k]! d[m]! = true then shiftUp ltInt b (k + 1) (Go.Sort.swp d k m) else d := by
  subst h
  conv => lhs; unfold shiftUp
  rw [if_pos hk]
  show (if (!ltInt d[m + 1]! d[m]!) = true then _ else _) = _
  by_cases hq : ltInt d[m + 1]! d[m]! = true
  · rw [if_pos hq, if_neg (by simp [hq])]; rfl
  · rw [if_neg hq, if_pos (by simp [hq])]
theorem shu_done (d : Array Int) {b k : Nat} (h : ¬ k < b) : shiftUp ltInt b k d = d := by
  unfold shiftUp
  rw [if_neg h]
theorem pin_step {a b s i i2 : Nat} {d : Array Int} (hi : scanSorted ltInt d b i = i2) :
    partialIns ltInt a b (s + 1) i d = if i2 = b then (d, true) else if b - a < 50 then (d, false) else
      partialIns ltInt a b s i2 (if b - i2 ≥ 2 then shiftUp ltInt b (i2 + 1) (if i2 - a ≥ 2 then shiftDown ltInt (i2 - 1) (Go.Sort.swp d i2 (i2 - 1)) else Go.Sort.swp d i2 (i2 - 1)) else (if i2 - a ≥ 2 then shiftDown ltInt (i2 - 1) (Go.Sort.swp d i2 (i2 - 1)) else Go.Sort.swp d i2 (i2 - 1))) := by
  subst hi
  rfl
def SbP (B g n cap : Nat) (r : Array Int × Bool) (w : World) (e : Ending) (w' : World) : Prop := e = .returned (.bool r.2) ∧ OwnA w' B g n cap r.1 ∧ Ks (fun x => x = g) w w'
set_option maxHeartbeats 8000000 in
theorem spins_any (B g n cap a b : Nat) (d : Array Int) (w : World) (h : OwnA w B g n cap d) (hn : n ≤ 5000) (hab : a < b) (hb : b ≤ n) :
    Calls Try.prog 68 #[.slice (some ⟨g, 0, none⟩) n cap, .int .i64 a, .int .i64 b] w (SbP B g n cap (partialInsertionSort ltInt d a b) w) := by
  unfold partialInsertionSort
  obtain ⟨F, hF⟩ : ∃ F, F = partialIns ltInt a b 5 (a + 1) d := ⟨_, rfl⟩
  rw [← hF]
  have H0 : Hid (OwnA w B g n cap d ∧ partialIns ltInt a b 5 (a + 1) d = F ∧ Ks (fun x => x = g) w w) := Lib.hid ⟨h, hF.symm, Ks.refl _ _⟩
  have e0 : IntKind.i64.wrap ((a : Int) + 1) = ((a + 1 : Nat) : Int) := IntWalk.i64_in _ (by omega)
  obtain ⟨p1, hp1⟩ : ∃ x, x = b - a := ⟨_, rfl⟩
  have e1 : IntKind.i64.wrap ((b : Int) - a) = (p1 : Int) := by rw [IntWalk.i64_in _ (by omega)]; omega
  have HP1 := Lib.hid hp1
  clear h hF hp1
  go_enter Try.func68, Try.ntmps68
  go_wp2
  go_loopw [7, 8] (fun x y wr => ∃ (i t s : Nat) (d : Array Int), a < i ∧ i ≤ b ∧ t + s = 5 ∧ x = .int .i64 i ∧ y = .int .i64 t ∧ Hid (OwnA wr B g n cap d ∧ partialIns ltInt a b s i d = F ∧ Ks (fun x => x = g) w wr)) (fun x y _ => 5 - (intOf y).toNat)
  case atStart => exact ⟨a + 1, 0, 5, d, by omega, by omega, rfl, by go_num, rfl, H0⟩
  case round =>
    clear H0 e0 d
    obtain ⟨i, t, s, d, ai, ib, ts, rfl, rfl, HR⟩ := hrel
    rcases s with _ | s
    · have ht : ¬ (t : Int) < 5 := by omega
      have HE : Hid (F = (d, false)) := Lib.hid HR.out.2.1.symm
      have HC := Lib.hid (And.intro HR.out.1 HR.out.2.2)
      clear ts HR
      go_wp2
      go_ret
      rw [HE.out]
      exact ⟨rfl, HC.out.1, HC.out.2⟩
    · have ht : (t : Int) < 5 := by omega
      have e2 : IntKind.i64.wrap ((t : Int) + 1) = ((t + 1 : Nat) : Int) := IntWalk.i64_in _ (by omega)
      obtain ⟨i2, hi2⟩ : ∃ x, x = scanSorted ltInt d b i := ⟨_, rfl⟩
      have q1 := scs_bounds d b (b - i) i (Nat.le_refl _) ib
      rw [← hi2] at q1
      obtain ⟨q1, q2⟩ := q1
      have HST := Lib.hid (pin_step (a := a) (s := s) hi2.symm)
      have HI := Lib.hid hi2.symm
      have HF := Lib.hid HR.out.2.1
      have HC := Lib.hid (And.intro HR.out.1 HR.out.2.2)
      clear HR hi2
      go_upto_block 2 with fail
      go_cut [7] from 17 to 34 (fun x wx => x = .int .i64 (i2 : Nat) ∧ Hid (OwnA wx B g n cap d ∧ Ks (fun x => x = g) w wx))
      case first =>
        go_wp2
        go_loopw [7] (fun x wr => ∃ k : Nat, i ≤ k ∧ k ≤ b ∧ x = .int .i64 k ∧ Hid (OwnA wr B g n cap d ∧ scanSorted ltInt d b k = i2 ∧ Ks (fun x => x = g) w wr)) (fun x _ => 5001 - (intOf x).toNat)
        case atStart => exact ⟨i, Nat.le_refl _, ib, rfl, Lib.hid ⟨HC.out.1, HI.out, HC.out.2⟩⟩
        case round =>
          clear HC HI HF HST
          obtain ⟨k, hik, hkb, rfl, HR⟩ := hrel
          by_cases hkj : k < b
          · obtain ⟨m, hm⟩ : ∃ m, m = k - 1 := ⟨_, rfl⟩
            have e3 : (k : Int) < b := by omega
            have e4 : IntKind.i64.wrap ((k : Int) + 1) = ((k + 1 : Nat) : Int) := IntWalk.i64_in _ (by omega)
            have e5 : IntKind.i64.wrap ((k : Int) - 1) = (m : Int) := by rw [IntWalk.i64_in _ (by omega)]; omega
            have b0 : (k : Int) < n := by omega
            have b1 : k < n := by omega
            have b2 : (m : Int) < n := by omega
            have b3 : m < n := by omega
            have HIN : Hid (scanSorted ltInt d b k = if ltInt d[k]! d[m]! = true then k else scanSorted ltInt d b (k + 1)) := Lib.hid (by rw [hm]; exact scs_step d hkj)
            clear hm
            obtain ⟨x, hx⟩ : ∃ x, x = d[k]! := ⟨_, rfl⟩
            obtain ⟨y, hy⟩ : ∃ y, y = d[m]! := ⟨_, rfl⟩
            have L : ∀ w', (fun w' => OwnA w' B g n cap d) w' → w'.cell? ⟨g, k, none⟩ = some (.int .u64 x) ∧ w'.cell? ⟨g, m, none⟩ = some (.int .u64 y) := fun w' h => by
              rw [hx, hy]; exact ⟨OwnA.cell h (by omega), OwnA.cell h (by omega)⟩
            have hS : (fun w' => OwnA w' B g n cap d) wr.drew := HR.out.1.drew
            have HX := Lib.hid hx
            have HY := Lib.hid hy
            have HF := Lib.hid HR.out.2.1
            have HK := Lib.hid (HR.out.2.2.trans (Ks.of_below (below_one' wr)))
            clear HR hx hy
            go_wp2
            refine Seq.wp_region_seq (fun w' => OwnA w' B g n cap d) (by kernel_rfl) (by kernel_rfl) hS ?_
            generalize wr.drew = w1 at *
            repeat (first | (refine Seq.Seq.skip (by rfl) ?_; (try simp only [Act.put, List.setIfInBounds_toArray, List.set_cons_zero, List.set_cons_succ])) | (refine Seq.Seq.det ?_ (by rfl) (fun w hS => ?_) ?_; rotate_left; ((try dsimp only at hS); go_simp; (try rw [if_pos (by omega)]); with_reducible rfl); (try simp only [Act.put, List.setIfInBounds_toArray, List.set_cons_zero, List.set_cons_succ])))
            refine Seq.Seq.make (by rfl) (by rfl) (fun K Q' hK => ?_)
            go_simp
            go_at_call 69
            refine (lessu_any _ _ _).mono ?_
            rintro e w' ⟨rfl, rfl⟩
            refine hK.out _ _ (hS) ?_
            clear hK K
            try simp only [Act.put, List.setIfInBounds_toArray, List.set_cons_zero, List.set_cons_succ]
            repeat (first | (refine Seq.Seq.skip (by rfl) ?_; (try simp only [Act.put, List.setIfInBounds_toArray, List.set_cons_zero, List.set_cons_succ])) | (refine Seq.Seq.det ?_ (by rfl) (fun w hS => ?_) ?_; rotate_left; ((try dsimp only at hS); go_simp; (try rw [if_pos (by omega)]); with_reducible rfl); (try simp only [Act.put, List.setIfInBounds_toArray, List.set_cons_zero, List.set_cons_succ])))
            refine Seq.Seq.nil ?_
            obtain ⟨q, hq⟩ : ∃ q, q = ltInt x y := ⟨_, rfl⟩
            rw [← hq]
            rw [HX.out, HY.out] at hq
            have HQ := Lib.hid hq
            clear L hq
            cases q
            · have HE : Hid (OwnA w1 B g n cap d ∧ scanSorted ltInt d b (k + 1) = i2 ∧ Ks (fun x => x = g) w w1) := Lib.hid ⟨hS, by
                have h9 := HF.out
                rw [HIN.out, ← HQ.out, if_neg (by decide)] at h9
                exact h9, HK.out⟩
              clear hS
              go_wp2
              go_roundw
              case rel => exact ⟨k + 1, by omega, by omega, by go_num, HE⟩
              case measure => simp [intOf]; omega
            · have HE : Hid (k = i2 ∧ OwnA w1 B g n cap d ∧ Ks (fun x => x = g) w w1) := Lib.hid ⟨by
                have h9 := HF.out
                rw [HIN.out, ← HQ.out, if_pos rfl] at h9
                exact h9, hS, HK.out⟩
              clear hS
              go_wp2
              go_meet
              exact ⟨by rw [HE.out.1], Lib.hid HE.out.2⟩
          · have e3 : ¬ (k : Int) < b := by omega
            have HE : Hid (k = i2 ∧ OwnA wr.drew B g n cap d ∧ Ks (fun x => x = g) w wr.drew) := Lib.hid ⟨by
                have h9 := HR.out.2.1
                rw [scs_done d hkj] at h9
                exact h9, HR.out.1.drew, HR.out.2.2.trans (Ks.of_below (below_one' wr))⟩
            clear HR
            go_wp2
            refine Seq.wp_region_seq (fun w' => True) (by kernel_rfl) (by kernel_rfl) trivial ?_
            generalize wr.drew = w1 at *
            have hS : (fun w' : World => True) w1 := trivial
            repeat (first | (refine Seq.Seq.skip (by rfl) ?_; (try simp only [Act.put, List.setIfInBounds_toArray, List.set_cons_zero, List.set_cons_succ])) | (refine Seq.Seq.det ?_ (by rfl) (fun w hS => ?_) ?_; rotate_left; ((try dsimp only at hS); go_simp; (try rw [if_pos (by omega)]); with_reducible rfl); (try simp only [Act.put, List.setIfInBounds_toArray, List.set_cons_zero, List.set_cons_succ])))
            refine Seq.Seq.nil ?_
            go_wp2
            go_meet
            exact ⟨by rw [HE.out.1], Lib.hid HE.out.2⟩
      case rest =>
        clear HC HI
        obtain ⟨rfl, HC⟩ := hcut
        by_cases hib : i2 = b
        · subst hib
          have HE : Hid (F = (d, true)) := Lib.hid (by rw [← HF.out, HST.out, if_pos rfl])
          clear HF HST
          go_wp2
          go_ret
          rw [HE.out]
          exact ⟨rfl, HC.out.1, HC.out.2⟩
        · have q3 : ((i2 : Int) == b) = false := by rw [beq_eq_false_iff_ne]; omega
          by_cases h50 : p1 < 50
          · have p50 : (p1 : Int) < 50 := by omega
            have HE : Hid (F = (d, false)) := Lib.hid (by rw [← HF.out, HST.out, if_neg hib, ← HP1.out, if_pos h50])
            clear HF HST hib h50
            go_wp2
            go_ret
            rw [HE.out]
            exact ⟨rfl, HC.out.1, HC.out.2⟩
          · have p50 : ¬ (p1 : Int) < 50 := by omega
            have q5 : i2 < b := by omega
            obtain ⟨m2, hm2⟩ : ∃ x, x = i2 - 1 := ⟨_, rfl⟩
            obtain ⟨p2, hp2⟩ : ∃ x, x = i2 - a := ⟨_, rfl⟩
            obtain ⟨p3, hp3⟩ : ∃ x, x = b - i2 := ⟨_, rfl⟩
            have e5 : IntKind.i64.wrap ((i2 : Int) - 1) = (m2 : Int) := by rw [IntWalk.i64_in _ (by omega)]; omega
            have e6 : IntKind.i64.wrap ((i2 : Int) - a) = (p2 : Int) := by rw [IntWalk.i64_in _ (by omega)]; omega
            have e7 : IntKind.i64.wrap ((b : Int) - i2) = (p3 : Int) := by rw [IntWalk.i64_in _ (by omega)]; omega
            have e8 : IntKind.i64.wrap ((i2 : Int) + 1) = ((i2 + 1 : Nat) : Int) := IntWalk.i64_in _ (by omega)
            have HF2 : Hid (partialIns ltInt a b s i2 (if p3 ≥ 2 then shiftUp ltInt b (i2 + 1) (if p2 ≥ 2 then shiftDown ltInt m2 (Go.Sort.swp d i2 m2) else Go.Sort.swp d i2 m2) else (if p2 ≥ 2 then shiftDown ltInt m2 (Go.Sort.swp d i2 m2) else Go.Sort.swp d i2 m2)) = F) := Lib.hid (by rw [hp3, hp2, hm2, ← HF.out, HST.out, if_neg hib, ← HP1.out, if_neg h50])
            have m2i : m2 < i2 := by omega
            clear HF HST hib h50 hm2 hp2 hp3
            go_wp2
            have c0 := HC.out.1.cell (i := i2) (by omega)
            have c1 := HC.out.1.cell (i := m2) (by omega)
            have f0 := HC.out.1.free i2
            have f1 := HC.out.1.free m2
            obtain ⟨v9, c9⟩ := HC.out.1.cell2 i2 (j := m2) (.int .u64 d[m2]!) (by omega)
            have l2 : ((i2 : Nat) : Int) < n := by omega
            have l3 : ((m2 : Nat) : Int) < n := by omega
            have HX : Hid (OwnA (((wc.setCell ⟨g, i2, none⟩ (.int .u64 d[m2]!)).setCell ⟨g, m2, none⟩ (.int .u64 d[i2]!)).drew) B g n cap (Go.Sort.swp d i2 m2) ∧ Ks (fun x => x = g) w (((wc.setCell ⟨g, i2, none⟩ (.int .u64 d[m2]!)).setCell ⟨g, m2, none⟩ (.int .u64 d[i2]!)).drew)) :=
              Lib.hid ⟨(HC.out.1.swp i2 m2).drew, (Ks.two HC.out.2).trans (Ks.of_below (below_one' _))⟩
            obtain ⟨x, hx⟩ : ∃ x, x = d[i2]! := ⟨_, rfl⟩
            obtain ⟨y, hy⟩ : ∃ y, y = d[m2]! := ⟨_, rfl⟩
            rw [← hx, ← hy] at HX
            rw [← hx] at c0
            rw [← hy] at c1 c9
            clear hx hy HC
            go_wp2
            go_region
            clear c0 c1 c9 f0 f1 l2 l3
            have HC := HX
            clear HX
            obtain ⟨D1, hD1⟩ : ∃ x, x = Go.Sort.swp d i2 m2 := ⟨_, rfl⟩
            rw [← hD1] at HC HF2
            clear hD1
            by_cases hu2 : p2 ≥ 2
            · have u2 : (2 : Int) ≤ p2 := by omega
              obtain ⟨D2, hD2⟩ : ∃ x, x = shiftDown ltInt m2 D1 := ⟨_, rfl⟩
              have H2 := Lib.hid hD2
              have HF := HF2
              rw [if_pos hu2, ← hD2] at HF
              clear hD2 HF2 hu2
              go_upto_block 4 with fail
              go_cut [9] from 64 to 94 (fun x wx => Hid (OwnA wx B g n cap D2 ∧ Ks (fun x => x = g) w wx))
              case first =>
                go_wp2
                go_loopw [9] (fun x wr => ∃ (k : Nat) (d : Array Int), k ≤ m2 ∧ x = .int .i64 k ∧ Hid (OwnA wr B g n cap d ∧ shiftDown ltInt k d = D2 ∧ Ks (fun x => x = g) w wr)) (fun x _ => (intOf x).toNat)
                case atStart => exact ⟨m2, D1, by omega, by go_num, Lib.hid ⟨HC.out.1, H2.out.symm, HC.out.2⟩⟩
                case round =>
                  clear HC H2 HF d
                  obtain ⟨k, d, hk1, rfl, HR⟩ := hrel
                  by_cases hk2 : 1 ≤ k
                  · obtain ⟨m, hm⟩ : ∃ m, k = m + 1 := ⟨k - 1, by omega⟩
                    have e20 : (1 : Int) ≤ k := by omega
                    have e21 : IntKind.i64.wrap ((k : Int) - 1) = (m : Int) := by rw [IntWalk.i64_in _ (by omega)]; omega
                    have b0 : (k : Int) < n := by omega
                    have b1 : (m : Int) < n := by omega
                    have hkn : k < n := by omega
                    have hmk : m < k := by omega
                    have HIN := Lib.hid (shd_step d hm)
                    clear hm
                    obtain ⟨x, hx⟩ : ∃ x, x = d[k]! := ⟨_, rfl⟩
                    obtain ⟨y, hy⟩ : ∃ y, y = d[m]! := ⟨_, rfl⟩
                    have L : ∀ w', (fun w' => OwnA w' B g n cap d) w' → w'.cell? ⟨g, k, none⟩ = some (.int .u64 x) ∧ w'.cell? ⟨g, m, none⟩ = some (.int .u64 y) := fun w' h => by
                      rw [hx, hy]; exact ⟨OwnA.cell h (by omega), OwnA.cell h (by omega)⟩
                    have hS : (fun w' => OwnA w' B g n cap d) wr.drew := HR.out.1.drew
                    have HX := Lib.hid hx
                    have HY := Lib.hid hy
                    have HF := Lib.hid HR.out.2.1
                    have HK := Lib.hid (HR.out.2.2.trans (Ks.of_below (below_one' wr)))
                    clear HR hx hy
                    go_wp2
                    refine Seq.wp_region_seq (fun w' => OwnA w' B g n cap d) (by kernel_rfl) (by kernel_rfl) hS ?_
                    generalize wr.drew = w1 at *
                    repeat (first | (refine Seq.Seq.skip (by rfl) ?_; (try simp only [Act.put, List.setIfInBounds_toArray, List.set_cons_zero, List.set_cons_succ])) | (refine Seq.Seq.det ?_ (by rfl) (fun w hS => ?_) ?_; rotate_left; ((try dsimp only at hS); go_simp; (try rw [if_pos (by omega)]); with_reducible rfl); (try simp only [Act.put, List.setIfInBounds_toArray, List.set_cons_zero, List.set_cons_succ])))
                    refine Seq.Seq.make (by rfl) (by rfl) (fun K Q' hK => ?_)
                    go_simp
                    go_at_call 69
                    refine (lessu_any _ _ _).mono ?_
                    rintro e w' ⟨rfl, rfl⟩
                    refine hK.out _ _ (hS) ?_
                    clear hK K
                    try simp only [Act.put, List.setIfInBounds_toArray, List.set_cons_zero, List.set_cons_succ]
                    repeat (first | (refine Seq.Seq.skip (by rfl) ?_; (try simp only [Act.put, List.setIfInBounds_toArray, List.set_cons_zero, List.set_cons_succ])) | (refine Seq.Seq.det ?_ (by rfl) (fun w hS => ?_) ?_; rotate_left; ((try dsimp only at hS); go_simp; (try rw [if_pos (by omega)]); with_reducible rfl); (try simp only [Act.put, List.setIfInBounds_toArray, List.set_cons_zero, List.set_cons_succ])))
                    refine Seq.Seq.nil ?_
                    obtain ⟨q, hq⟩ : ∃ q, q = ltInt x y := ⟨_, rfl⟩
                    rw [← hq]
                    rw [HX.out, HY.out] at hq
                    have HQ := Lib.hid hq
                    clear L hq
                    cases q
                    · have HE : Hid (OwnA w1 B g n cap D2 ∧ Ks (fun x => x = g) w w1) := Lib.hid ⟨by
                        have h9 := HF.out
                        rw [HIN.out, ← HQ.out, if_neg (by decide)] at h9
                        rw [← h9]; exact hS, HK.out⟩
                      clear hS
                      go_wp2
                      go_meet
                      exact HE
                    · have HFN : Hid (shiftDown ltInt m (Go.Sort.swp d k m) = D2) := Lib.hid (by
                        have h9 := HF.out
                        rw [HIN.out, ← HQ.out, if_pos rfl] at h9
                        exact h9)
                      have HC : Hid (OwnA w1 B g n cap d ∧ Ks (fun x => x = g) w w1) := Lib.hid ⟨hS, HK.out⟩
                      clear hS HIN HF HX HY HQ HK
                      go_wp2
                      have c0 := HC.out.1.cell (i := k) (by omega)
                      have c1 := HC.out.1.cell (i := m) (by omega)
                      have f0 := HC.out.1.free k
                      have f1 := HC.out.1.free m
                      obtain ⟨v9, c9⟩ := HC.out.1.cell2 k (j := m) (.int .u64 d[m]!) (by omega)
                      have l2 : ((k : Nat) : Int) < n := by omega
                      have l3 : ((m : Nat) : Int) < n := by omega
                      have HX : Hid (OwnA (((w1.setCell ⟨g, k, none⟩ (.int .u64 d[m]!)).setCell ⟨g, m, none⟩ (.int .u64 d[k]!)).drew) B g n cap (Go.Sort.swp d k m) ∧ Ks (fun x => x = g) w (((w1.setCell ⟨g, k, none⟩ (.int .u64 d[m]!)).setCell ⟨g, m, none⟩ (.int .u64 d[k]!)).drew)) :=
                        Lib.hid ⟨(HC.out.1.swp k m).drew, (Ks.two HC.out.2).trans (Ks.of_below (below_one' _))⟩
                      obtain ⟨x, hx⟩ : ∃ x, x = d[k]! := ⟨_, rfl⟩
                      obtain ⟨y, hy⟩ : ∃ y, y = d[m]! := ⟨_, rfl⟩
                      rw [← hx, ← hy] at HX
                      rw [← hx] at c0
                      rw [← hy] at c1 c9
                      clear hx hy HC
                      go_wp2
                      go_region
                      clear c0 c1 c9 f0 f1 l2 l3
                      have HC := HX
                      clear HX
                      go_wp2
                      go_roundw
                      case rel => exact ⟨m, _, by omega, by go_num, Lib.hid ⟨HC.out.1, HFN.out, HC.out.2⟩⟩
                      case measure => simp [intOf]; omega
                  · have e20 : ¬ (1 : Int) ≤ k := by omega
                    have HE : Hid (OwnA wr B g n cap D2 ∧ Ks (fun x => x = g) w wr) := Lib.hid ⟨by
                      have h9 := HR.out.2.1
                      rw [show k = 0 by omega] at h9
                      rw [← h9]; exact HR.out.1, HR.out.2.2⟩
                    clear HR
                    go_wp2
                    go_meet
                    exact HE
              case rest =>
                clear HC H2
                have HC := hcut
                clear hcut
                by_cases hu : p3 ≥ 2
                · have u0 : (2 : Int) ≤ p3 := by omega
                  obtain ⟨D3, hD3⟩ : ∃ x, x = shiftUp ltInt b (i2 + 1) D2 := ⟨_, rfl⟩
                  have H3 := Lib.hid hD3
                  have HFF : Hid (partialIns ltInt a b s i2 D3 = F) := Lib.hid (by have h9 := HF.out; rw [if_pos hu, ← hD3] at h9; exact h9)
                  clear hD3 HF
                  go_upto_block 6 with fail
                  go_wp2
                  go_loopw [10] (fun x wr => ∃ (k : Nat) (d : Array Int), 1 ≤ k ∧ k ≤ b ∧ x = .int .i64 k ∧ Hid (OwnA wr B g n cap d ∧ shiftUp ltInt b k d = D3 ∧ Ks (fun x => x = g) w wr)) (fun x _ => 5001 - (intOf x).toNat)
                  case atStart => exact ⟨i2 + 1, D2, by omega, by omega, by go_num, Lib.hid ⟨HC.out.1, H3.out.symm, HC.out.2⟩⟩
                  case round =>
                    clear HC H3 d
                    obtain ⟨k, d, hk1, hkb, rfl, HR⟩ := hrel
                    by_cases hkb2 : k < b
                    · obtain ⟨m, hm⟩ : ∃ m, k = m + 1 := ⟨k - 1, by omega⟩
                      have e20 : (k : Int) < b := by omega
                      have e21 : IntKind.i64.wrap ((k : Int) - 1) = (m : Int) := by rw [IntWalk.i64_in _ (by omega)]; omega
                      have e22 : IntKind.i64.wrap ((k : Int) + 1) = ((k + 1 : Nat) : Int) := IntWalk.i64_in _ (by omega)
                      have b0 : (k : Int) < n := by omega
                      have b1 : (m : Int) < n := by omega
                      have hkn : k < n := by omega
                      have hmk : m < k := by omega
                      have HIN := Lib.hid (shu_step d hm hkb2)
                      clear hm
                      obtain ⟨x, hx⟩ : ∃ x, x = d[k]! := ⟨_, rfl⟩
                      obtain ⟨y, hy⟩ : ∃ y, y = d[m]! := ⟨_, rfl⟩
                      have L : ∀ w', (fun w' => OwnA w' B g n cap d) w' → w'.cell? ⟨g, k, none⟩ = some (.int .u64 x) ∧ w'.cell? ⟨g, m, none⟩ = some (.int .u64 y) := fun w' h => by
                        rw [hx, hy]; exact ⟨OwnA.cell h (by omega), OwnA.cell h (by omega)⟩
                      have hS : (fun w' => OwnA w' B g n cap d) wr.drew := HR.out.1.drew
                      have HX := Lib.hid hx
                      have HY := Lib.hid hy
                      have HF := Lib.hid HR.out.2.1
                      have HK := Lib.hid (HR.out.2.2.trans (Ks.of_below (below_one' wr)))
                      clear HR hx hy
                      go_wp2
                      refine Seq.wp_region_seq (fun w' => OwnA w' B g n cap d) (by kernel_rfl) (by kernel_rfl) hS ?_
                      generalize wr.drew = w1 at *
                      repeat (first | (refine Seq.Seq.skip (by rfl) ?_; (try simp only [Act.put, List.setIfInBounds_toArray, List.set_cons_zero, List.set_cons_succ])) | (refine Seq.Seq.det ?_ (by rfl) (fun w hS => ?_) ?_; rotate_left; ((try dsimp only at hS); go_simp; (try rw [if_pos (by omega)]); with_reducible rfl); (try simp only [Act.put, List.setIfInBounds_toArray, List.set_cons_zero, List.set_cons_succ])))
                      refine Seq.Seq.make (by rfl) (by rfl) (fun K Q' hK => ?_)
                      go_simp
                      go_at_call 69
                      refine (lessu_any _ _ _).mono ?_
                      rintro e w' ⟨rfl, rfl⟩
                      refine hK.out _ _ (hS) ?_
                      clear hK K
                      try simp only [Act.put, List.setIfInBounds_toArray, List.set_cons_zero, List.set_cons_succ]
                      repeat (first | (refine Seq.Seq.skip (by rfl) ?_; (try simp only [Act.put, List.setIfInBounds_toArray, List.set_cons_zero, List.set_cons_succ])) | (refine Seq.Seq.det ?_ (by rfl) (fun w hS => ?_) ?_; rotate_left; ((try dsimp only at hS); go_simp; (try rw [if_pos (by omega)]); with_reducible rfl); (try simp only [Act.put, List.setIfInBounds_toArray, List.set_cons_zero, List.set_cons_succ])))
                      refine Seq.Seq.nil ?_
                      obtain ⟨q, hq⟩ : ∃ q, q = ltInt x y := ⟨_, rfl⟩
                      rw [← hq]
                      rw [HX.out, HY.out] at hq
                      have HQ := Lib.hid hq
                      clear L hq
                      cases q
                      · have HE : Hid (OwnA w1 B g n cap D3 ∧ Ks (fun x => x = g) w w1) := Lib.hid ⟨by
                          have h9 := HF.out
                          rw [HIN.out, ← HQ.out, if_neg (by decide)] at h9
                          rw [← h9]; exact hS, HK.out⟩
                        clear hS
                        go_wp2
                        go_roundw
                        case rel => exact ⟨i2, t + 1, s, D3, by omega, by omega, by omega, by go_num, by go_num, Lib.hid ⟨HE.out.1, HFF.out, HE.out.2⟩⟩
                        case measure => simp [intOf]; omega
                      · have HFN : Hid (shiftUp ltInt b (k + 1) (Go.Sort.swp d k m) = D3) := Lib.hid (by
                          have h9 := HF.out
                          rw [HIN.out, ← HQ.out, if_pos rfl] at h9
                          exact h9)
                        have HC : Hid (OwnA w1 B g n cap d ∧ Ks (fun x => x = g) w w1) := Lib.hid ⟨hS, HK.out⟩
                        clear hS HIN HF HX HY HQ HK
                        go_wp2
                        have c0 := HC.out.1.cell (i := k) (by omega)
                        have c1 := HC.out.1.cell (i := m) (by omega)
                        have f0 := HC.out.1.free k
                        have f1 := HC.out.1.free m
                        obtain ⟨v9, c9⟩ := HC.out.1.cell2 k (j := m) (.int .u64 d[m]!) (by omega)
                        have l2 : ((k : Nat) : Int) < n := by omega
                        have l3 : ((m : Nat) : Int) < n := by omega
                        have HX : Hid (OwnA (((w1.setCell ⟨g, k, none⟩ (.int .u64 d[m]!)).setCell ⟨g, m, none⟩ (.int .u64 d[k]!)).drew) B g n cap (Go.Sort.swp d k m) ∧ Ks (fun x => x = g) w (((w1.setCell ⟨g, k, none⟩ (.int .u64 d[m]!)).setCell ⟨g, m, none⟩ (.int .u64 d[k]!)).drew)) :=
                          Lib.hid ⟨(HC.out.1.swp k m).drew, (Ks.two HC.out.2).trans (Ks.of_below (below_one' _))⟩
                        obtain ⟨x, hx⟩ : ∃ x, x = d[k]! := ⟨_, rfl⟩
                        obtain ⟨y, hy⟩ : ∃ y, y = d[m]! := ⟨_, rfl⟩
                        rw [← hx, ← hy] at HX
                        rw [← hx] at c0
                        rw [← hy] at c1 c9
                        clear hx hy HC
                        go_wp2
                        go_region
                        clear c0 c1 c9 f0 f1 l2 l3
                        have HC := HX
                        clear HX
                        go_wp2
                        go_roundw
                        case rel => exact ⟨k + 1, _, by omega, by omega, by go_num, Lib.hid ⟨HC.out.1, HFN.out, HC.out.2⟩⟩
                        case measure => simp [intOf]; omega
                    · have e20 : ¬ (k : Int) < b := by omega
                      have HE : Hid (OwnA wr B g n cap D3 ∧ Ks (fun x => x = g) w wr) := Lib.hid ⟨by rw [← HR.out.2.1, shu_done d hkb2]; exact HR.out.1, HR.out.2.2⟩
                      clear HR
                      go_wp2
                      go_roundw
                      case rel => exact ⟨i2, t + 1, s, D3, by omega, by omega, by omega, by go_num, by go_num, Lib.hid ⟨HE.out.1, HFF.out, HE.out.2⟩⟩
                      case measure => simp [intOf]; omega
                · have u0 : ¬ (2 : Int) ≤ p3 := by omega
                  have HFF : Hid (partialIns ltInt a b s i2 D2 = F) := Lib.hid (by have h9 := HF.out; rw [if_neg hu] at h9; exact h9)
                  clear HF
                  go_wp2
                  go_roundw
                  case rel => exact ⟨i2, t + 1, s, D2, by omega, by omega, by omega, by go_num, by go_num, Lib.hid ⟨HC.out.1, HFF.out, HC.out.2⟩⟩
                  case measure => simp [intOf]; omega
            · have u2 : ¬ (2 : Int) ≤ p2 := by omega
              obtain ⟨D2, hD2⟩ : ∃ x, x = D1 := ⟨_, rfl⟩
              have HF := HF2
              rw [if_neg hu2, ← hD2] at HF
              rw [← hD2] at HC
              clear hD2 HF2 hu2 D1
              by_cases hu : p3 ≥ 2
              · have u0 : (2 : Int) ≤ p3 := by omega
                obtain ⟨D3, hD3⟩ : ∃ x, x = shiftUp ltInt b (i2 + 1) D2 := ⟨_, rfl⟩
                have H3 := Lib.hid hD3
                have HFF : Hid (partialIns ltInt a b s i2 D3 = F) := Lib.hid (by have h9 := HF.out; rw [if_pos hu, ← hD3] at h9; exact h9)
                clear hD3 HF
                go_upto_block 6 with fail
                go_wp2
                go_loopw [10] (fun x wr => ∃ (k : Nat) (d : Array Int), 1 ≤ k ∧ k ≤ b ∧ x = .int .i64 k ∧ Hid (OwnA wr B g n cap d ∧ shiftUp ltInt b k d = D3 ∧ Ks (fun x => x = g) w wr)) (fun x _ => 5001 - (intOf x).toNat)
                case atStart => exact ⟨i2 + 1, D2, by omega, by omega, by go_num, Lib.hid ⟨HC.out.1, H3.out.symm, HC.out.2⟩⟩
                case round =>
                  clear HC H3 d
                  obtain ⟨k, d, hk1, hkb, rfl, HR⟩ := hrel
                  by_cases hkb2 : k < b
                  · obtain ⟨m, hm⟩ : ∃ m, k = m + 1 := ⟨k - 1, by omega⟩
                    have e20 : (k : Int) < b := by omega
                    have e21 : IntKind.i64.wrap ((k : Int) - 1) = (m : Int) := by rw [IntWalk.i64_in _ (by omega)]; omega
                    have e22 : IntKind.i64.wrap ((k : Int) + 1) = ((k + 1 : Nat) : Int) := IntWalk.i64_in _ (by omega)
                    have b0 : (k : Int) < n := by omega
                    have b1 : (m : Int) < n := by omega
                    have hkn : k < n := by omega
                    have hmk : m < k := by omega
                    have HIN := Lib.hid (shu_step d hm hkb2)
                    clear hm
                    obtain ⟨x, hx⟩ : ∃ x, x = d[k]! := ⟨_, rfl⟩
                    obtain ⟨y, hy⟩ : ∃ y, y = d[m]! := ⟨_, rfl⟩
                    have L : ∀ w', (fun w' => OwnA w' B g n cap d) w' → w'.cell? ⟨g, k, none⟩ = some (.int .u64 x) ∧ w'.cell? ⟨g, m, none⟩ = some (.int .u64 y) := fun w' h => by
                      rw [hx, hy]; exact ⟨OwnA.cell h (by omega), OwnA.cell h (by omega)⟩
                    have hS : (fun w' => OwnA w' B g n cap d) wr.drew := HR.out.1.drew
                    have HX := Lib.hid hx
                    have HY := Lib.hid hy
                    have HF := Lib.hid HR.out.2.1
                    have HK := Lib.hid (HR.out.2.2.trans (Ks.of_below (below_one' wr)))
                    clear HR hx hy
                    go_wp2
                    refine Seq.wp_region_seq (fun w' => OwnA w' B g n cap d) (by kernel_rfl) (by kernel_rfl) hS ?_
                    generalize wr.drew = w1 at *
                    repeat (first | (refine Seq.Seq.skip (by rfl) ?_; (try simp only [Act.put, List.setIfInBounds_toArray, List.set_cons_zero, List.set_cons_succ])) | (refine Seq.Seq.det ?_ (by rfl) (fun w hS => ?_) ?_; rotate_left; ((try dsimp only at hS); go_simp; (try rw [if_pos (by omega)]); with_reducible rfl); (try simp only [Act.put, List.setIfInBounds_toArray, List.set_cons_zero, List.set_cons_succ])))
                    refine Seq.Seq.make (by rfl) (by rfl) (fun K Q' hK => ?_)
                    go_simp
                    go_at_call 69
                    refine (lessu_any _ _ _).mono ?_
                    rintro e w' ⟨rfl, rfl⟩
                    refine hK.out _ _ (hS) ?_
                    clear hK K
                    try simp only [Act.put, List.setIfInBounds_toArray, List.set_cons_zero, List.set_cons_succ]
                    repeat (first | (refine Seq.Seq.skip (by rfl) ?_; (try simp only [Act.put, List.setIfInBounds_toArray, List.set_cons_zero, List.set_cons_succ])) | (refine Seq.Seq.det ?_ (by rfl) (fun w hS => ?_) ?_; rotate_left; ((try dsimp only at hS); go_simp; (try rw [if_pos (by omega)]); with_reducible rfl); (try simp only [Act.put, List.setIfInBounds_toArray, List.set_cons_zero, List.set_cons_succ])))
                    refine Seq.Seq.nil ?_
                    obtain ⟨q, hq⟩ : ∃ q, q = ltInt x y := ⟨_, rfl⟩
                    rw [← hq]
                    rw [HX.out, HY.out] at hq
                    have HQ := Lib.hid hq
                    clear L hq
                    cases q
                    · have HE : Hid (OwnA w1 B g n cap D3 ∧ Ks (fun x => x = g) w w1) := Lib.hid ⟨by
                        have h9 := HF.out
                        rw [HIN.out, ← HQ.out, if_neg (by decide)] at h9
                        rw [← h9]; exact hS, HK.out⟩
                      clear hS
                      go_wp2
                      go_roundw
                      case rel => exact ⟨i2, t + 1, s, D3, by omega, by omega, by omega, by go_num, by go_num, Lib.hid ⟨HE.out.1, HFF.out, HE.out.2⟩⟩
                      case measure => simp [intOf]; omega
                    · have HFN : Hid (shiftUp ltInt b (k + 1) (Go.Sort.swp d k m) = D3) := Lib.hid (by
                        have h9 := HF.out
                        rw [HIN.out, ← HQ.out, if_pos rfl] at h9
                        exact h9)
                      have HC : Hid (OwnA w1 B g n cap d ∧ Ks (fun x => x = g) w w1) := Lib.hid ⟨hS, HK.out⟩
                      clear hS HIN HF HX HY HQ HK
                      go_wp2
                      have c0 := HC.out.1.cell (i := k) (by omega)
                      have c1 := HC.out.1.cell (i := m) (by omega)
                      have f0 := HC.out.1.free k
                      have f1 := HC.out.1.free m
                      obtain ⟨v9, c9⟩ := HC.out.1.cell2 k (j := m) (.int .u64 d[m]!) (by omega)
                      have l2 : ((k : Nat) : Int) < n := by omega
                      have l3 : ((m : Nat) : Int) < n := by omega
                      have HX : Hid (OwnA (((w1.setCell ⟨g, k, none⟩ (.int .u64 d[m]!)).setCell ⟨g, m, none⟩ (.int .u64 d[k]!)).drew) B g n cap (Go.Sort.swp d k m) ∧ Ks (fun x => x = g) w (((w1.setCell ⟨g, k, none⟩ (.int .u64 d[m]!)).setCell ⟨g, m, none⟩ (.int .u64 d[k]!)).drew)) :=
                        Lib.hid ⟨(HC.out.1.swp k m).drew, (Ks.two HC.out.2).trans (Ks.of_below (below_one' _))⟩
                      obtain ⟨x, hx⟩ : ∃ x, x = d[k]! := ⟨_, rfl⟩
                      obtain ⟨y, hy⟩ : ∃ y, y = d[m]! := ⟨_, rfl⟩
                      rw [← hx, ← hy] at HX
                      rw [← hx] at c0
                      rw [← hy] at c1 c9
                      clear hx hy HC
                      go_wp2
                      go_region
                      clear c0 c1 c9 f0 f1 l2 l3
                      have HC := HX
                      clear HX
                      go_wp2
                      go_roundw
                      case rel => exact ⟨k + 1, _, by omega, by omega, by go_num, Lib.hid ⟨HC.out.1, HFN.out, HC.out.2⟩⟩
                      case measure => simp [intOf]; omega
                  · have e20 : ¬ (k : Int) < b := by omega
                    have HE : Hid (OwnA wr B g n cap D3 ∧ Ks (fun x => x = g) w wr) := Lib.hid ⟨by rw [← HR.out.2.1, shu_done d hkb2]; exact HR.out.1, HR.out.2.2⟩
                    clear HR
                    go_wp2
                    go_roundw
                    case rel => exact ⟨i2, t + 1, s, D3, by omega, by omega, by omega, by go_num, by go_num, Lib.hid ⟨HE.out.1, HFF.out, HE.out.2⟩⟩
                    case measure => simp [intOf]; omega
              · have u0 : ¬ (2 : Int) ≤ p3 := by omega
                have HFF : Hid (partialIns ltInt a b s i2 D2 = F) := Lib.hid (by have h9 := HF.out; rw [if_neg hu] at h9; exact h9)
                clear HF
                go_wp2
                go_roundw
                case rel => exact ⟨i2, t + 1, s, D2, by omega, by omega, by omega, by go_num, by go_num, Lib.hid ⟨HC.out.1, HFF.out, HC.out.2⟩⟩
                case measure => simp [intOf]; omega
end Go.Proofs.Ytoemmppoejaapaa.Cur
namespace Go.Proofs.Ytoemmppoejaapaa.Cur
open Go.RowKit Mem Go.Sort
set_option linter.unusedVariables false
set_option maxRecDepth 100000
theorem slen_any (n : Nat) (hn : n ≤ 5000) (w : World) : Calls Try.prog 50 #[.int .u64 n] w fun e w' => e = .returned (.int .i64 (bitsLen n : Nat)) ∧ w = w' := by
  have hc : ∀ w, Calls Try.prog 73 #[.int .u64 n] w fun e w' => e = .returned (.int .i64 (bitsLen n : Nat)) ∧ w' = w := fun w => by
    have h := Try.bits_Len64 (n : Int) w (by omega) (by omega)
    rwa [Int.toNat_natCast, bitLen_eq _ (by omega)] at h
  have e1 : IntKind.u64.wrap (n : Int) = (n : Int) := by rw [IntKind.wrap_u64]; omega
  go_enter Try.func50, Try.ntmps50
  go_wp2_with (go_at_call 73; refine (hc _).mono ?_; rintro e w1 ⟨rfl, rfl⟩)
  go_ret
  exact ⟨rfl, rfl⟩
theorem snpow_any (n : Nat) (hn : n ≤ 5000) (w : World) : Calls Try.prog 82 #[.int .i64 n] w fun e w' => e = .returned (.int .u64 ((1 <<< bitsLen n : Nat) : Int)) ∧ w = w' := by
  have hk : bitsLen n ≤ 62 := (bitsLen_le_iff n 62).2 (by omega)
  have hp := wrap_two_pow (bitsLen n) hk
  have hL := slen_any n hn
  have e1 : IntKind.u64.wrap (n : Int) = (n : Int) := by rw [IntKind.wrap_u64]; omega
  go_enter Try.func82, Try.ntmps82
  go_wp2_with (go_at_call 50; refine (hL _).mono ?_; rintro e w1 ⟨rfl, rfl⟩)
  go_ret
  exact ⟨rfl, rfl⟩
theorem xs_up (X m Y : Nat) (hX : X < 18446744073709551616) (hY : X ^^^ (X * m % 18446744073709551616) = Y) : bits .xor .u64 (X : Int) (IntKind.u64.wrap ((X : Int) * m)) = (Y : Int) ∧ Y < 18446744073709551616 := by
  have h1 : X * m % 18446744073709551616 < 18446744073709551616 := Nat.mod_lt _ (by decide)
  have h2 : IntKind.u64.wrap ((X : Int) * m) = ((X * m % 18446744073709551616 : Nat) : Int) := by
    rw [IntKind.wrap_u64, ← Int.natCast_mul]
    generalize X * m = p
    omega
  exact ⟨by rw [h2, bits_xor_u64_nat _ _ hX h1, hY], hY ▸ Nat.xor_lt_two_pow (n := 64) hX h1⟩
theorem xs_down (X m Y : Nat) (hX : X < 18446744073709551616) (hY : X ^^^ (X / m) = Y) : bits .xor .u64 (X : Int) ((X : Int) / m) = (Y : Int) ∧ Y < 18446744073709551616 := by
  have h1 : X / m < 18446744073709551616 := Nat.lt_of_le_of_lt (Nat.div_le_self _ _) hX
  have h2 : (X : Int) / m = ((X / m : Nat) : Int) := by push_cast; rfl
  exact ⟨by rw [h2, bits_xor_u64_nat _ _ hX h1, hY], hY ▸ Nat.xor_lt_two_pow (n := 64) hX h1⟩
theorem snxt_any (rb X t : Nat) (hX : X < 18446744073709551616) (w : World) (h : Blk w rb #[.int .u64 X] t) :
    Calls Try.prog 83 #[.pointer (some ⟨rb, 0, none⟩)] w fun e w' => e = .returned (.int .u64 (xorNextN X : Nat)) ∧ w' = (w.setCell ⟨rb, 0, none⟩ (.int .u64 (xorNextN X : Nat))).drewN 3 := by
  obtain ⟨x1, h1⟩ : ∃ y, X ^^^ (X * 8192 % 18446744073709551616) = y := ⟨_, rfl⟩
  obtain ⟨x2, h2⟩ : ∃ y, x1 ^^^ (x1 / 128) = y := ⟨_, rfl⟩
  obtain ⟨x3, h3⟩ : ∃ y, x2 ^^^ (x2 * 131072 % 18446744073709551616) = y := ⟨_, rfl⟩
  have hN : xorNextN X = x3 := by simp only [xorNextN, h1, h2, h3]
  obtain ⟨p1, l1⟩ := xs_up X 8192 x1 hX h1
  obtain ⟨p2, l2⟩ := xs_down x1 128 x2 l1 h2
  obtain ⟨p3, _⟩ := xs_up x2 131072 x3 l2 h3
  have p1 : bits .xor .u64 (X : Int) (IntKind.u64.wrap ((X : Int) * 8192)) = (x1 : Int) := p1
  have p2 : bits .xor .u64 (x1 : Int) ((x1 : Int) / 128) = (x2 : Int) := p2
  have p3 : bits .xor .u64 (x2 : Int) (IntKind.u64.wrap ((x2 : Int) * 131072)) = (x3 : Int) := p3
  have same : ∀ u v, (w.setCell ⟨rb, 0, none⟩ u).setCell ⟨rb, 0, none⟩ v = w.setCell ⟨rb, 0, none⟩ v := setCell_setCell w rb 0
  have c := h.c1
  have f := h.free 0
  rw [hN]
  clear h1 h2 h3 hN h l1 l2
  go_enter Try.func83, Try.ntmps83
  go_wp2
  go_region
  go_wp2
  go_region
  go_wp2
  go_region
  go_wp2
  go_ret
  exact ⟨rfl, rfl⟩
def bpR (a L M i0 : Nat) : Nat → Nat → UInt64 × Array Int → Array Int
  | 0, _, st => st.2
  | k + 1, t, st => bpR a L M i0 k (t + 1) (breakStep a L M st (i0 + t))
theorem bpr_eq (d : Array Int) (a b L : Nat) (hL : L = b - a) (h8 : 8 ≤ L) : breakPatterns d a b = bpR a L (1 <<< bitsLen L) (a + L / 4 * 2 - 1) 3 0 (UInt64.ofNat L, d) := by
  subst hL
  unfold breakPatterns
  rw [if_pos h8]
  rfl
theorem bpr_step (a L M i0 k t : Nat) (r : UInt64) (d : Array Int) (o : Nat) (ho : (if (xorNext r).toNat &&& (M - 1) ≥ L then ((xorNext r).toNat &&& (M - 1)) - L else (xorNext r).toNat &&& (M - 1)) = o) :
    bpR a L M i0 (k + 1) t (r, d) = bpR a L M i0 k (t + 1) (xorNext r, Go.Sort.swp d (i0 + t) (a + o)) := by
  rw [bpR]
  unfold breakStep
  simp only [ho]
def BpS (B g n cap m : Nat) (a L M i0 k t : Nat) (F : Array Int) (w0 w : World) : Prop := ∃ (r : UInt64) (d : Array Int), OwnA w B g n cap d ∧ Blk w m #[.int .u64 (r.toNat : Nat)] 101 ∧ bpR a L M i0 k t (r, d) = F ∧ Ks (fun x => x = g) w0 w
end Go.Proofs.Ytoemmppoejaapaa.Cur
namespace Go.Proofs.Ytoemmppoejaapaa.Cur
open Go.RowKit Mem Go.Sort
set_option linter.unusedVariables false
set_option maxRecDepth 100000
set_option maxHeartbeats 8000000 in
theorem sbreak_any (B g n cap a b : Nat) (d : Array Int) (w : World) (h : OwnA w B g n cap d) (hn : n ≤ 5000) (hab : a ≤ b) (hb : b ≤ n) :
    Calls Try.prog 65 #[.slice (some ⟨g, 0, none⟩) n cap, .int .i64 a, .int .i64 b] w (SrP B g n cap (breakPatterns d a b) w) := by
  obtain ⟨L, hL⟩ : ∃ L, L = b - a := ⟨_, rfl⟩
  have e0 : IntKind.i64.wrap ((b : Int) - a) = (L : Int) := by rw [IntWalk.i64_in _ (by omega)]; omega
  by_cases h8 : 8 ≤ L
  · have p8 : (8 : Int) ≤ L := by omega
    rw [bpr_eq d a b L hL h8]
    obtain ⟨M, hM⟩ : ∃ M : Nat, M = 1 <<< bitsLen L := ⟨_, rfl⟩
    have hM1 : 1 ≤ M := by rw [hM, Nat.one_shiftLeft]; exact Nat.two_pow_pos _
    have hM2 : M ≤ 2 * L := by rw [hM, Nat.one_shiftLeft]; exact two_pow_bitsLen_le (by omega)
    have hNP : ∀ w, Calls Try.prog 82 #[.int .i64 (L : Int)] w fun e w' => e = .returned (.int .u64 (M : Int)) ∧ w = w' := by rw [hM]; exact fun w => snpow_any L (by omega) w
    rw [← hM]
    clear hM
    obtain ⟨i0, hi0⟩ : ∃ x, x = a + L / 4 * 2 - 1 := ⟨_, rfl⟩
    obtain ⟨F, hF⟩ : ∃ F, F = bpR a L M (a + L / 4 * 2 - 1) 3 0 (UInt64.ofNat L, d) := ⟨_, rfl⟩
    rw [← hF]
    rw [← hi0] at hF
    obtain ⟨q, hq⟩ : ∃ x, x = L / 4 := ⟨_, rfl⟩
    rw [← hq] at hi0
    obtain ⟨m1, hm1⟩ : ∃ x, x = M - 1 := ⟨_, rfl⟩
    have e1 : (L : Int).tdiv 4 = (q : Int) := by rw [Int.tdiv_eq_ediv_of_nonneg (by omega)]; omega
    have e2 : IntKind.i64.wrap (q : Int) = (q : Int) := IntWalk.i64_in _ (by omega)
    have e3 : IntKind.i64.wrap ((q : Int) * 2) = (q : Int) * 2 := IntWalk.i64_in _ (by omega)
    have e4 : IntKind.i64.wrap ((a : Int) + (q : Int) * 2) = (a : Int) + (q : Int) * 2 := IntWalk.i64_in _ (by omega)
    have e5 : IntKind.i64.wrap ((a : Int) + (q : Int) * 2 - 1) = (i0 : Int) := by rw [IntWalk.i64_in _ (by omega)]; omega
    have e6 : IntKind.i64.wrap ((a : Int) + (q : Int) * 2 + 1) = (i0 : Int) + 2 := by rw [IntWalk.i64_in _ (by omega)]; omega
    have e7 : IntKind.u64.wrap ((M : Int) - 1) = (m1 : Int) := by rw [IntKind.wrap_u64]; omega
    have e8 : IntKind.u64.wrap (L : Int) = (L : Int) := by rw [IntKind.wrap_u64]; omega
    have i1 : i0 + 2 < b := by omega
    have i2 : a ≤ i0 := by omega
    have HM : Hid (m1 = M - 1 ∧ L = b - a) := Lib.hid ⟨hm1, hL⟩
    have m2 : m1 < 2 * L := by omega
    have hab2 : a + L ≤ n := by omega
    obtain ⟨mb, hmb⟩ : ∃ x, x = w.heap.size := ⟨_, rfl⟩
    have H0 : Hid (BpS B g n cap mb a L M i0 3 0 F w (w.alloc (.cells #[.int .u64 (L : Int)] 101))) := Lib.hid ⟨UInt64.ofNat L, d, h.below (below_one w _), by
      have := Blk.new w #[.int .u64 (L : Int)] 101
      rw [hmb, show (UInt64.ofNat L).toNat = L from by simp; omega]; exact this, hF.symm, Ks.of_below (below_one w _)⟩
    have HMB := Lib.hid hmb
    clear hF hi0 hq hm1 hL h h8 hmb
    go_enter Try.func65, Try.ntmps65
    go_wp2_with (go_at_call 82; refine (hNP _).mono ?_; rintro e w1 ⟨rfl, rfl⟩)
    rw [← HMB.out]
    go_loopw [9] (fun x wr => ∃ k t s : Nat, t + s = 3 ∧ k = i0 + t ∧ x = .int .i64 k ∧ Hid (BpS B g n cap mb a L M i0 s t F w wr)) (fun x _ => 9001 - (intOf x).toNat)
    case atStart => exact ⟨i0, 0, 3, by omega, by omega, by go_num, H0⟩
    case round =>
      clear H0 hNP
      obtain ⟨k, t, s, hts, hk, rfl, HR⟩ := hrel
      rcases s with _ | s
      · have g1 : ¬ (k : Int) ≤ (i0 : Int) + 2 := by omega
        obtain ⟨r, d, r1, r2, r3, r4⟩ := HR.out
        have HE : Hid (OwnA wr B g n cap F ∧ Ks (fun x => x = g) w wr) := Lib.hid ⟨by rw [← r3]; exact r1, r4⟩
        clear HR r1 r2 r3 r4 hk hts
        go_wp2
        go_end0
        exact ⟨rfl, HE.out.1, HE.out.2⟩
      · have g1 : (k : Int) ≤ (i0 : Int) + 2 := by omega
        have g2 : IntKind.i64.wrap ((k : Int) + 1) = ((k + 1 : Nat) : Int) := IntWalk.i64_in _ (by omega)
        obtain ⟨r, d, r1, r2, r3, r4⟩ := HR.out
        clear HR
        obtain ⟨R, hR⟩ : ∃ R : Nat, R = r.toNat := ⟨_, rfl⟩
        have lR : R < 18446744073709551616 := by rw [hR]; exact r.toNat_lt
        rw [← hR] at r2
        have hNX := snxt_any mb R _ lR wr r2
        obtain ⟨R2, hR2⟩ : ∃ R2 : Nat, R2 = xorNextN R := ⟨_, rfl⟩
        rw [← hR2] at hNX
        have lR2 : R2 < 18446744073709551616 := by rw [hR2]; exact xorNextN_lt R lR
        have hX : (xorNext r).toNat = R2 := by rw [xorNext_toNat, hR2, hR]
        obtain ⟨O, hO⟩ : ∃ O : Nat, O = R2 &&& m1 := ⟨_, rfl⟩
        have lO : O ≤ m1 := by rw [hO]; exact Nat.and_le_right
        have eA : bits .and .u64 (R2 : Int) (m1 : Int) = (O : Int) := by rw [bits_and_u64_nat _ _ lR2 (by omega), hO]
        have eC : IntKind.i64.wrap (O : Int) = (O : Int) := IntWalk.i64_in _ (by omega)
        obtain ⟨wz, hw1⟩ : ∃ x, x = (wr.setCell ⟨mb, 0, none⟩ (.int .u64 (R2 : Nat))).drewN 3 := ⟨_, rfl⟩
        rw [← hw1] at hNX
        have hgm := r1.ne r2 (by decide)
        have HC : Hid (OwnA wz B g n cap d ∧ Blk wz mb #[.int .u64 ((xorNext r).toNat : Nat)] 101 ∧ Ks (fun x => x = g) w wz) := Lib.hid ⟨by
            rw [hw1]
            exact r1.keep (((Ks.setCell (S := fun x => x = mb) wr mb 0 _ rfl).trans (Ks.drewN _ _ 3)).block g r1.lt hgm), by
            rw [hw1, hX]; exact (r2.set 0 _).drewN 3, by
            rw [hw1]
            exact r4.trans' ((Ks.setCell (S := fun x => x = mb) wr mb 0 _ rfl).trans (Ks.drewN _ _ 3)) (fun i hi he => by have := HMB.out; omega)⟩
        have HST := Lib.hid (fun o ho => (bpr_step a L M i0 s t r d o ho).symm.trans r3)
        rw [hX, ← HM.out.1, ← hO] at HST
        have HK := Lib.hid hk
        have i3 : k ≤ i0 + 2 := by omega
        have i4 : i0 ≤ k := by omega
        clear hR hR2 lR lR2 hX hO hw1 hgm r1 r2 r3 r4
        by_cases hOL : L ≤ O
        · have o1 : (L : Int) ≤ O := by omega
          obtain ⟨O2, hO2⟩ : ∃ x, x = O - L := ⟨_, rfl⟩
          obtain ⟨P, hP⟩ : ∃ x, x = a + O2 := ⟨_, rfl⟩
          have o2 : IntKind.i64.wrap ((O : Int) - L) = (O2 : Int) := by rw [IntWalk.i64_in _ (by omega)]; omega
          have o3 : IntKind.i64.wrap ((a : Int) + O2) = (P : Int) := by rw [IntWalk.i64_in _ (by omega)]; omega
          have HFN : Hid (bpR a L M i0 s (t + 1) (xorNext r, Go.Sort.swp d k P) = F) := Lib.hid (by
            rw [HK.out, hP]; exact HST.out O2 (by rw [if_pos hOL, hO2]))
          have lP : P < n := by omega
          clear hP hO2 HST hk
          go_wp2_with fail
          try rw [← HMB.out]
          with_reducible refine hNX.mono ?_
          rintro e w1 ⟨rfl, rfl⟩
          have hp8 : P < n := by omega
          have e20 : (P : Int) < n := by omega
          have c0 := HC.out.1.cell (i := k) (by omega)
          have c1 := HC.out.1.cell (i := P) (by omega)
          have f0 := HC.out.1.free k
          have f1 := HC.out.1.free P
          obtain ⟨v9, c9⟩ := HC.out.1.cell2 k (j := P) (.int .u64 d[P]!) (by omega)
          have l2 : (k : Int) < n := by omega
          have hgm := HC.out.1.ne HC.out.2.1 (by decide)
          have HX : Hid (BpS B g n cap mb a L M i0 s (t + 1) F w (((w1.setCell ⟨g, k, none⟩ (.int .u64 d[P]!)).setCell ⟨g, P, none⟩ (.int .u64 d[k]!)).drew)) :=
            Lib.hid ⟨_, _, (HC.out.1.swp k P).drew, ((HC.out.2.1.far k _ (Ne.symm hgm)).far P _ (Ne.symm hgm)).drew, HFN.out, (Ks.two HC.out.2.2).trans (Ks.of_below (below_one' _))⟩
          obtain ⟨x, hx⟩ : ∃ x, x = d[k]! := ⟨_, rfl⟩
          obtain ⟨y, hy⟩ : ∃ y, y = d[P]! := ⟨_, rfl⟩
          rw [← hx, ← hy] at HX
          rw [← hx] at c0
          rw [← hy] at c1 c9
          clear hx hy HC hgm HFN
          go_wp2
          go_region
          clear c0 c1 c9 f0 f1 l2
          go_wp2
          go_roundw
          case rel => exact ⟨k + 1, t + 1, s, by omega, by have := HK.out; omega, by go_num, HX⟩
          case measure => simp [intOf]; omega
        · have o1 : ¬ (L : Int) ≤ O := by omega
          obtain ⟨P, hP⟩ : ∃ x, x = a + O := ⟨_, rfl⟩
          have o3 : IntKind.i64.wrap ((a : Int) + O) = (P : Int) := by rw [IntWalk.i64_in _ (by omega)]; omega
          have HFN : Hid (bpR a L M i0 s (t + 1) (xorNext r, Go.Sort.swp d k P) = F) := Lib.hid (by
            rw [HK.out, hP]; exact HST.out O (by rw [if_neg hOL]))
          have lP : P < n := by omega
          clear hP HST hk
          go_wp2_with fail
          try rw [← HMB.out]
          with_reducible refine hNX.mono ?_
          rintro e w1 ⟨rfl, rfl⟩
          have hp8 : P < n := by omega
          have e20 : (P : Int) < n := by omega
          have c0 := HC.out.1.cell (i := k) (by omega)
          have c1 := HC.out.1.cell (i := P) (by omega)
          have f0 := HC.out.1.free k
          have f1 := HC.out.1.free P
          obtain ⟨v9, c9⟩ := HC.out.1.cell2 k (j := P) (.int .u64 d[P]!) (by omega)
          have l2 : (k : Int) < n := by omega
          have hgm := HC.out.1.ne HC.out.2.1 (by decide)
          have HX : Hid (BpS B g n cap mb a L M i0 s (t + 1) F w (((w1.setCell ⟨g, k, none⟩ (.int .u64 d[P]!)).setCell ⟨g, P, none⟩ (.int .u64 d[k]!)).drew)) :=
            Lib.hid ⟨_, _, (HC.out.1.swp k P).drew, ((HC.out.2.1.far k _ (Ne.symm hgm)).far P _ (Ne.symm hgm)).drew, HFN.out, (Ks.two HC.out.2.2).trans (Ks.of_below (below_one' _))⟩
          obtain ⟨x, hx⟩ : ∃ x, x = d[k]! := ⟨_, rfl⟩
          obtain ⟨y, hy⟩ : ∃ y, y = d[P]! := ⟨_, rfl⟩
          rw [← hx, ← hy] at HX
          rw [← hx] at c0
          rw [← hy] at c1 c9
          clear hx hy HC hgm HFN
          go_wp2
          go_region
          clear c0 c1 c9 f0 f1 l2
          go_wp2
          go_roundw
          case rel => exact ⟨k + 1, t + 1, s, by omega, by have := HK.out; omega, by go_num, HX⟩
          case measure => simp [intOf]; omega
  · have p8 : ¬ (8 : Int) ≤ L := by omega
    have HE : Hid (OwnA w B g n cap (breakPatterns d a b)) := Lib.hid (by unfold breakPatterns; rw [if_neg (by omega)]; exact h)
    clear h hL
    go_enter Try.func65, Try.ntmps65
    go_wp2
    go_end0
    exact ⟨rfl, HE.out, Ks.refl _ _⟩
end Go.Proofs.Ytoemmppoejaapaa.Cur
