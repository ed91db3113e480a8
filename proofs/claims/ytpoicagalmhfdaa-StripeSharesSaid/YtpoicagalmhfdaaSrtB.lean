/- slices.Sort at numbers of 64 digits: the insertion sort, the heap sort. -/
import Derived.Test.YtpoicagalmhfdaaSrtA
namespace Go.Proofs.Ytpoicagalmhfdaa.Cur
open Go.RowKit Mem Go.Sort
set_option linter.unusedVariables false
set_option maxRecDepth 100000


set_option maxHeartbeats 4000000 in
theorem sinsert_any (B g n cap a b : Nat) (d : Array Int) (w : World) (h : OwnA w B g n cap d) (hn : n ≤ 1000) (hb : b ≤ n) (ha : a ≤ 1000) :
    Calls Try.prog 82 #[.slice (some ⟨g, 0, none⟩) n cap, .int .i64 a, .int .i64 b] w (SrP B g n cap (insertionSort ltInt d a b) w) := by
  unfold insertionSort
  obtain ⟨F, hF⟩ : ∃ F, F = insOuter ltInt a b (a + 1) d := ⟨_, rfl⟩
  rw [← hF]
  have H0 : Hid (OwnA w B g n cap d ∧ insOuter ltInt a b (a + 1) d = F ∧ Ks (fun x => x = g) w w) := Lib.hid ⟨h, hF.symm, Ks.refl _ _⟩
  have e0 : IntKind.i64.wrap ((a : Int) + 1) = ((a + 1 : Nat) : Int) := IntWalk.i64_in _ (by omega)
  clear h hF
  go_enter Try.func82, Try.ntmps82
  go_wp2
  go_loopw [6] (fun x wr => ∃ (i : Nat) (d : Array Int), a + 1 ≤ i ∧ i ≤ 1001 ∧ x = .int .i64 i ∧ Hid (OwnA wr B g n cap d ∧ insOuter ltInt a b i d = F ∧ Ks (fun x => x = g) w wr)) (fun x _ => 1001 - (intOf x).toNat)
  case atStart => exact ⟨a + 1, d, by omega, by omega, by go_num, H0⟩
  case round =>
    clear H0 e0
    obtain ⟨i, d, hai, hi1, rfl, HR⟩ := hrel
    by_cases hib : i < b
    · have e1 : (i : Int) < b := by omega
      have e2 : IntKind.i64.wrap ((i : Int) + 1) = ((i + 1 : Nat) : Int) := IntWalk.i64_in _ (by omega)
      obtain ⟨D, hD⟩ : ∃ D, D = insInner ltInt a i d := ⟨_, rfl⟩
      have HD : Hid (insOuter ltInt a b (i + 1) D = F) := Lib.hid (by rw [hD, ← HR.out.2.1]; conv => rhs; unfold insOuter; rw [if_pos hib])
      have H1 : Hid (OwnA wr B g n cap d ∧ insInner ltInt a i d = D ∧ Ks (fun x => x = g) w wr) := Lib.hid ⟨HR.out.1, hD.symm, HR.out.2.2⟩
      clear hD HR
      go_wp2
      go_loopw [7] (fun x wr => ∃ (j : Nat) (d : Array Int), j ≤ i ∧ x = .int .i64 j ∧ Hid (OwnA wr B g n cap d ∧ insInner ltInt a j d = D ∧ Ks (fun x => x = g) w wr)) (fun x _ => (intOf x).toNat)
      case atStart => exact ⟨i, d, by omega, rfl, H1⟩
      case round =>
        clear H1
        obtain ⟨j, d, hji, rfl, HR⟩ := hrel
        obtain ⟨ho, hF, hk⟩ := HR.out
        by_cases hja : a < j
        · obtain ⟨k, hjk⟩ : ∃ k, j = k + 1 := ⟨j - 1, by omega⟩
          have e3 : (a : Int) < j := by omega
          have e4 : IntKind.i64.wrap ((j : Int) - 1) = (k : Int) := by rw [IntWalk.i64_in _ (by omega)]; omega
          have b0 : (j : Int) < n := by omega
          have b1 : (k : Int) < n := by omega
          have hk1 : j < n := by omega
          have hkj : k < j := by omega
          have hin : insInner ltInt a j d = if ltInt d[j]! d[k]! = true then insInner ltInt a k (Go.Sort.swp d j k) else d := by
            subst hjk
            conv => lhs; unfold insInner
            simp [hja]
          clear hjk
          obtain ⟨x, hx⟩ : ∃ x, x = d[j]! := ⟨_, rfl⟩
          obtain ⟨y, hy⟩ : ∃ y, y = d[k]! := ⟨_, rfl⟩
          have L : ∀ w', (fun w' => OwnA w' B g n cap d) w' → w'.cell? ⟨g, j, none⟩ = some (.int .u64 x) ∧ w'.cell? ⟨g, k, none⟩ = some (.int .u64 y) := fun w' h => by
            rw [hx, hy]; exact ⟨OwnA.cell h (by omega), OwnA.cell h (by omega)⟩
          have hS : (fun w' => OwnA w' B g n cap d) wr.drew := ho.drew
          have HX := Lib.hid hx
          have HY := Lib.hid hy
          have HF := Lib.hid hF
          have HIN := Lib.hid hin
          have HK := Lib.hid (hk.trans (Ks.of_below (below_one' wr)))
          clear hF hk HR hx hy ho hin
          go_wp2
          refine Seq.wp_region_seq (fun w' => OwnA w' B g n cap d) (by kernel_rfl) (by kernel_rfl) hS ?_
          generalize wr.drew = w1 at *
          repeat (first | (refine Seq.Seq.skip (by rfl) ?_; (try simp only [Act.put, List.setIfInBounds_toArray, List.set_cons_zero, List.set_cons_succ])) | (refine Seq.Seq.det ?_ (by rfl) (fun w hS => ?_) ?_; rotate_left; ((try dsimp only at hS); go_simp; (try rw [if_pos (by omega)]); with_reducible rfl); (try simp only [Act.put, List.setIfInBounds_toArray, List.set_cons_zero, List.set_cons_succ])))
          refine Seq.Seq.make (by rfl) (by rfl) (fun K Q' hK => ?_)
          go_simp
          go_at_call 88
          refine (lessu_any _ _ _).mono ?_
          rintro e w' ⟨rfl, rfl⟩
          refine hK.out _ _ (hS) ?_
          clear hK K
          try simp only [Act.put, List.setIfInBounds_toArray, List.set_cons_zero, List.set_cons_succ]
          repeat (first | (refine Seq.Seq.skip (by rfl) ?_; (try simp only [Act.put, List.setIfInBounds_toArray, List.set_cons_zero, List.set_cons_succ])) | (refine Seq.Seq.det ?_ (by rfl) (fun w hS => ?_) ?_; rotate_left; ((try dsimp only at hS); go_simp; (try rw [if_pos (by omega)]); with_reducible rfl); (try simp only [Act.put, List.setIfInBounds_toArray, List.set_cons_zero, List.set_cons_succ])))
          refine Seq.Seq.nil ?_
          obtain ⟨q, hq⟩ : ∃ q, q = ltInt x y := ⟨_, rfl⟩
          rw [← hq]
          obtain ⟨c0, c1⟩ := L w1 hS
          have f0 := OwnA.free hS j
          have f1 := OwnA.free hS k
          rw [HX.out, HY.out] at hq
          have HQ := Lib.hid hq
          clear L hq
          cases q
          · have HE : Hid (OwnA w1 B g n cap D ∧ Ks (fun x => x = g) w w1) := Lib.hid ⟨by
              have h9 := HF.out
              rw [HIN.out, ← HQ.out, if_neg (by decide)] at h9
              rw [← h9]; exact hS, HK.out⟩
            clear hS c0 c1 f0 f1
            go_wp2
            go_roundw
            case rel => exact ⟨i + 1, D, by omega, by omega, by go_num, Lib.hid ⟨HE.out.1, HD.out, HE.out.2⟩⟩
            case measure => simp [intOf]; omega
          · have HEND : Hid (OwnA ((w1.setCell ⟨g, j, none⟩ (.int .u64 y)).setCell ⟨g, k, none⟩ (.int .u64 x)).drew B g n cap (Go.Sort.swp d j k) ∧ insInner ltInt a k (Go.Sort.swp d j k) = D ∧ Ks (fun x => x = g) w ((w1.setCell ⟨g, j, none⟩ (.int .u64 y)).setCell ⟨g, k, none⟩ (.int .u64 x)).drew) :=
              Lib.hid ⟨by rw [HX.out, HY.out]; exact (OwnA.swp hS j k).drew, by
                have h9 := HF.out
                rw [HIN.out, ← HQ.out, if_pos rfl] at h9
                exact h9, (Ks.two HK.out).trans (Ks.of_below (below_one' _))⟩
            clear hS
            go_wp2
            go_region
            go_wp2
            go_roundw
            case rel => exact ⟨k, _, by omega, by go_num, HEND⟩
            case measure => simp [intOf]; omega
        · have e3 : ¬ (a : Int) < j := by omega
          have hin : insInner ltInt a j d = d := by
            rcases j with _ | k
            · rfl
            · unfold insInner; simp [show ¬ a < k + 1 by omega]
          have HE : Hid (OwnA wr B g n cap D ∧ Ks (fun x => x = g) w wr) := Lib.hid ⟨by rw [← hF, hin]; exact ho, hk⟩
          clear ho hF hk HR hin
          go_wp2
          refine Seq.wp_region_seq (fun w' => True) (by kernel_rfl) (by kernel_rfl) trivial ?_
          have HE2 : Hid (OwnA wr.drew B g n cap D ∧ Ks (fun x => x = g) w wr.drew) := Lib.hid ⟨HE.out.1.drew, HE.out.2.trans (Ks.of_below (below_one' wr))⟩
          clear HE
          generalize wr.drew = w1 at *
          have hS : (fun w' : World => True) w1 := trivial
          repeat (first | (refine Seq.Seq.skip (by rfl) ?_; (try simp only [Act.put, List.setIfInBounds_toArray, List.set_cons_zero, List.set_cons_succ])) | (refine Seq.Seq.det ?_ (by rfl) (fun w hS => ?_) ?_; rotate_left; ((try dsimp only at hS); go_simp; (try rw [if_pos (by omega)]); with_reducible rfl); (try simp only [Act.put, List.setIfInBounds_toArray, List.set_cons_zero, List.set_cons_succ])))
          refine Seq.Seq.nil ?_
          go_wp2
          go_roundw
          case rel => exact ⟨i + 1, D, by omega, by omega, by go_num, Lib.hid ⟨HE2.out.1, HD.out, HE2.out.2⟩⟩
          case measure => simp [intOf]; omega
    · have e1 : ¬ (i : Int) < b := by omega
      have HE : Hid (OwnA wr B g n cap F ∧ Ks (fun x => x = g) w wr) := Lib.hid ⟨by rw [← HR.out.2.1]; unfold insOuter; rw [if_neg hib]; exact HR.out.1, HR.out.2.2⟩
      clear HR
      go_wp2
      go_end0
      exact ⟨rfl, HE.out.1, HE.out.2⟩
end Go.Proofs.Ytpoicagalmhfdaa.Cur
