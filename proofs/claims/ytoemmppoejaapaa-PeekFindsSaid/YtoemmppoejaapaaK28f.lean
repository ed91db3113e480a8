/- As the seat's text, without what nothing here names. -/
import Derived.Test.YtoemmppoejaapaaK1f
import Derived.Sort.Defs
import Derived.BigRegion
import Derived.BigQuiet
import Derived.Deep.QuietTactic
namespace Go.Proofs.Ytoemmppoejaapaa.Cur
open Go.RowKit Mem Go.Sort
set_option linter.unusedVariables false
set_option maxRecDepth 100000
theorem isnans_any (x : Int) (w : World) : Calls Try.prog 86 #[.int .u64 x] w fun e w' => e = .returned (.bool false) ∧ w = w' := by
  go_enter Try.func86, Try.ntmps86
  go_wp2
  go_ret
  exact ⟨rfl, rfl⟩
theorem lessu_any (x y : Int) (w : World) : Calls Try.prog 69 #[.int .u64 x, .int .u64 y] w fun e w' => e = .returned (.bool (ltInt x y)) ∧ w = w' := by
  unfold ltInt
  go_enter Try.func69, Try.ntmps69
  go_wp2_with fail
  refine (isnans_any _ _).mono ?_
  rintro e w' ⟨rfl, rfl⟩
  go_wp2
  go_ret
  exact ⟨rfl, rfl⟩
def OwnA (w : World) (B g n cap : Nat) (d : Array Int) : Prop := d.size = n ∧ w.ownsRow B 22 1 (.slice (some ⟨g, 0, none⟩) n cap) n (uv d.toList)
theorem OwnA.cell {w : World} {B g n cap : Nat} {d : Array Int} (h : OwnA w B g n cap d) {i : Nat} (hi : i < n) : w.cell? ⟨g, i, none⟩ = some (.int .u64 d[i]!) := by
  have hd : i < d.size := by rw [h.1]; exact hi
  refine (World.ownsRow.cellAt h.2 i (by omega)).trans ?_
  rw [List.getElem?_map, Array.getElem?_toList, Array.getElem?_eq_getElem hd, getElem!_pos d i hd]; rfl
theorem OwnA.free {w : World} {B g n cap : Nat} {d : Array Int} (h : OwnA w B g n cap d) (i : Nat) : w.frozen? ⟨g, i, none⟩ = false := World.ownsRow.frozenAt h.2 i
theorem OwnA.keep {w w' : World} {B g n cap : Nat} {d : Array Int} (h : OwnA w B g n cap d) (hk : w'.heap[g]? = w.heap[g]?) : OwnA w' B g n cap d := ⟨h.1, own_block h.2 fun k hk' => by
  injection hk' with e
  have e2 : g = k := e
  subst e2
  exact hk⟩
theorem OwnA.drew {w : World} {B g n cap : Nat} {d : Array Int} (h : OwnA w B g n cap d) : OwnA w.drew B g n cap d := h
theorem OwnA.lt {w : World} {B g n cap : Nat} {d : Array Int} (h : OwnA w B g n cap d) : g < w.heap.size := (World.ownsRow.lt h.2 g rfl).2
theorem OwnA.below {w w' : World} {B g n cap : Nat} {d : Array Int} (h : OwnA w B g n cap d) (hb : Below w.heap.size w w') : OwnA w' B g n cap d := h.keep (hb.block g h.lt)
theorem swp_size (d : Array Int) (i j : Nat) : (swp d i j).size = d.size := by unfold swp; simp
theorem OwnA.swp {w : World} {B g n cap : Nat} {d : Array Int} (h : OwnA w B g n cap d) (i j : Nat) : OwnA ((w.setCell ⟨g, i, none⟩ (.int .u64 d[j]!)).setCell ⟨g, j, none⟩ (.int .u64 d[i]!)) B g n cap (Go.Sort.swp d i j) := by
  refine ⟨by rw [swp_size]; exact h.1, ?_⟩
  have h1 := (World.ownsRow.stored (World.ownsRow.stored h.2 i (.int .u64 d[j]!)).1 j (.int .u64 d[i]!)).1
  have e : uv (Go.Sort.swp d i j).toList = ((uv d.toList).set i (.int .u64 d[j]!)).set j (.int .u64 d[i]!) := by
    unfold Go.Sort.swp
    rw [Array.toList_setIfInBounds, Array.toList_setIfInBounds]
    show List.map _ _ = _
    rw [List.map_set, List.map_set]
  rw [e]
  exact h1
def SrP (B g n cap : Nat) (d : Array Int) (w : World) (e : Ending) (w' : World) : Prop := e = .returned (.tuple #[]) ∧ OwnA w' B g n cap d ∧ Ks (fun x => x = g) w w'
theorem Ks.two {w0 w : World} {g i j : Nat} {u v : Value} (h : Ks (fun x => x = g) w0 w) : Ks (fun x => x = g) w0 ((w.setCell ⟨g, i, none⟩ u).setCell ⟨g, j, none⟩ v) := (h.trans (Ks.setCell _ _ _ _ rfl)).trans (Ks.setCell _ _ _ _ rfl)
set_option maxHeartbeats 2000000 in
theorem sreverse_any (B g n cap a b : Nat) (d : Array Int) (w : World) (h : OwnA w B g n cap d) (hn : n ≤ 5000) (hab : a < b) (hb : b ≤ n) :
    Calls Try.prog 67 #[.slice (some ⟨g, 0, none⟩) n cap, .int .i64 a, .int .i64 b] w (SrP B g n cap (reverseRange d a b) w) := by
  unfold reverseRange
  obtain ⟨F, hF⟩ : ∃ F, F = reverseLoop a (b - 1) d := ⟨_, rfl⟩
  rw [← hF]
  have H0 : Hid (OwnA w B g n cap d ∧ reverseLoop a (b - 1) d = F ∧ Ks (fun x => x = g) w w) := Lib.hid ⟨h, hF.symm, Ks.refl _ _⟩
  have e0 : IntKind.i64.wrap ((b : Int) - 1) = ((b - 1 : Nat) : Int) := by rw [IntWalk.i64_in _ (by omega)]; omega
  clear h hF
  go_enter Try.func67, Try.ntmps67
  go_wp2
  go_loopw [6, 7] (fun x y wr => ∃ (i j : Nat) (d : Array Int), i ≤ b ∧ j < b ∧ a ≤ i ∧ x = .int .i64 i ∧ y = .int .i64 j ∧ Hid (OwnA wr B g n cap d ∧ reverseLoop i j d = F ∧ Ks (fun x => x = g) w wr)) (fun x y _ => (intOf y).toNat + 1 - (intOf x).toNat)
  case atStart => exact ⟨a, b - 1, d, by omega, by omega, by omega, rfl, rfl, H0⟩
  case round =>
    clear H0
    obtain ⟨i, j, d, hib, hjb, hai, rfl, rfl, HR⟩ := hrel
    obtain ⟨ho, hF, hk⟩ := HR.out
    by_cases hij : i < j
    · have e1 : (i : Int) < j := by omega
      have c0 := ho.cell (i := i) (by omega)
      have c1 := ho.cell (i := j) (by omega)
      have f0 := ho.free i
      have f1 := ho.free j
      have b0 : (i : Int) < n := by omega
      have b1 : (j : Int) < n := by omega
      have e2 : IntKind.i64.wrap ((i : Int) + 1) = ((i + 1 : Nat) : Int) := IntWalk.i64_in _ (by omega)
      have e3 : IntKind.i64.wrap ((j : Int) - 1) = ((j - 1 : Nat) : Int) := by rw [IntWalk.i64_in _ (by omega)]; omega
      have HEND : Hid (OwnA (((wr.setCell ⟨g, i, none⟩ (.int .u64 d[j]!)).setCell ⟨g, j, none⟩ (.int .u64 d[i]!)).drew) B g n cap (Go.Sort.swp d i j) ∧ reverseLoop (i + 1) (j - 1) (Go.Sort.swp d i j) = F ∧ Ks (fun x => x = g) w (((wr.setCell ⟨g, i, none⟩ (.int .u64 d[j]!)).setCell ⟨g, j, none⟩ (.int .u64 d[i]!)).drew)) :=
        Lib.hid ⟨(ho.swp i j).drew, by rw [← hF]; conv => rhs; unfold reverseLoop; rw [if_pos hij], (Ks.two hk).trans (Ks.of_below (below_one' _))⟩
      obtain ⟨x, hx⟩ : ∃ x, x = d[i]! := ⟨_, rfl⟩
      obtain ⟨y, hy⟩ : ∃ y, y = d[j]! := ⟨_, rfl⟩
      rw [← hx, ← hy] at HEND
      rw [← hx] at c0
      rw [← hy] at c1
      clear hx hy ho hF hk HR
      go_wp2
      go_region
      go_wp2
      go_roundw
      case rel => exact ⟨i + 1, j - 1, _, by omega, by omega, by omega, by go_num, by go_num, HEND⟩
      case measure => simp [intOf]; omega
    · have HEND : Hid (OwnA wr B g n cap F ∧ Ks (fun x => x = g) w wr) := Lib.hid ⟨by rw [← hF]; unfold reverseLoop; rw [if_neg hij]; exact ho, hk⟩
      have e1 : ¬ (i : Int) < j := by omega
      clear ho hF hk HR
      go_wp2
      go_end0
      exact ⟨rfl, HEND.out.1, HEND.out.2⟩
end Go.Proofs.Ytoemmppoejaapaa.Cur
namespace Go.Proofs.Ytoemmppoejaapaa.Cur
open Go.RowKit Mem Go.Sort
set_option linter.unusedVariables false
set_option maxRecDepth 100000
set_option maxHeartbeats 4000000 in
theorem sinsert_any (B g n cap a b : Nat) (d : Array Int) (w : World) (h : OwnA w B g n cap d) (hn : n ≤ 5000) (hb : b ≤ n) (ha : a ≤ 5000) :
    Calls Try.prog 63 #[.slice (some ⟨g, 0, none⟩) n cap, .int .i64 a, .int .i64 b] w (SrP B g n cap (insertionSort ltInt d a b) w) := by
  unfold insertionSort
  obtain ⟨F, hF⟩ : ∃ F, F = insOuter ltInt a b (a + 1) d := ⟨_, rfl⟩
  rw [← hF]
  have H0 : Hid (OwnA w B g n cap d ∧ insOuter ltInt a b (a + 1) d = F ∧ Ks (fun x => x = g) w w) := Lib.hid ⟨h, hF.symm, Ks.refl _ _⟩
  have e0 : IntKind.i64.wrap ((a : Int) + 1) = ((a + 1 : Nat) : Int) := IntWalk.i64_in _ (by omega)
  clear h hF
  go_enter Try.func63, Try.ntmps63
  go_wp2
  go_loopw [6] (fun x wr => ∃ (i : Nat) (d : Array Int), a + 1 ≤ i ∧ i ≤ 5001 ∧ x = .int .i64 i ∧ Hid (OwnA wr B g n cap d ∧ insOuter ltInt a b i d = F ∧ Ks (fun x => x = g) w wr)) (fun x _ => 5001 - (intOf x).toNat)
  case atStart => exact ⟨a + 1, d, by omega, by omega, by go_num, H0⟩
  case round =>
    clear H0 e0
    obtain ⟨i, d, hai, hi1, rfl, HR⟩ := hrel
    by_cases hib : i < b
    · have e1 : (i : Int) < b := by omega
      have e2 : IntKind.i64.wrap ((i : Int) + 1) = ((i + 1 : Nat) : Int) := IntWalk.i64_in _ (by omega)
      obtain ⟨D, hD⟩ : ∃ D, D = insInner ltInt a i d := ⟨_, rfl⟩
      have HD : Hid (insOuter ltInt a b (i + 1) D = F) := Lib.hid (by rw [hD, ← HR.out.2.1]; conv => rhs; unfold insOuter; rw [if_pos hib])
      have H1 : Hid (OwnA wr B g n cap d ∧ insInner ltInt a i d = D ∧ Ks (fun x => x = g) w wr) := Lib.hid ⟨HR.out.1, hD.symm, HR.out.2.2⟩
      clear hD HR
      go_wp2
      go_loopw [7] (fun x wr => ∃ (j : Nat) (d : Array Int), j ≤ i ∧ x = .int .i64 j ∧ Hid (OwnA wr B g n cap d ∧ insInner ltInt a j d = D ∧ Ks (fun x => x = g) w wr)) (fun x _ => (intOf x).toNat)
      case atStart => exact ⟨i, d, by omega, rfl, H1⟩
      case round =>
        clear H1
        obtain ⟨j, d, hji, rfl, HR⟩ := hrel
        obtain ⟨ho, hF, hk⟩ := HR.out
        by_cases hja : a < j
        · obtain ⟨k, hjk⟩ : ∃ k, j = k + 1 := ⟨j - 1, by omega⟩
          have e3 : (a : Int) < j := by omega
          have e4 : IntKind.i64.wrap ((j : Int) - 1) = (k : Int) := by rw [IntWalk.i64_in _ (by omega)]; omega
          have b0 : (j : Int) < n := by omega
          have b1 : (k : Int) < n := by omega
          have hk1 : j < n := by omega
          have hkj : k < j := by omega
          have hin : insInner ltInt a j d = if ltInt d[j]! d[k]! = true then insInner ltInt a k (Go.Sort.swp d j k) else d := by
            subst hjk
            conv => lhs; unfold insInner
            simp [hja]
          clear hjk
          obtain ⟨x, hx⟩ : ∃ x, x = d[j]! := ⟨_, rfl⟩
          obtain ⟨y, hy⟩ : ∃ y, y = d[k]! := ⟨_, rfl⟩
          have L : ∀ w', (fun w' => OwnA w' B g n cap d) w' → w'.cell? ⟨g, j, none⟩ = some (.int .u64 x) ∧ w'.cell? ⟨g, k, none⟩ = some (.int .u64 y) := fun w' h => by
            rw [hx, hy]; exact ⟨OwnA.cell h (by omega), OwnA.cell h (by omega)⟩
          have hS : (fun w' => OwnA w' B g n cap d) wr.drew := ho.drew
          have HX := Lib.hid hx
          have HY := Lib.hid hy
          have HF := Lib.hid hF
          have HIN := Lib.hid hin
          have HK := Lib.hid (hk.trans (Ks.of_below (below_one' wr)))
          clear hF hk HR hx hy ho hin
          go_wp2
          refine Seq.wp_region_seq (fun w' => OwnA w' B g n cap d) (by kernel_rfl) (by kernel_rfl) hS ?_
          generalize wr.drew = w1 at *
          repeat (first | (refine Seq.Seq.skip (by rfl) ?_; (try simp only [Act.put, List.setIfInBounds_toArray, List.set_cons_zero, List.set_cons_succ])) | (refine Seq.Seq.det ?_ (by rfl) (fun w hS => ?_) ?_; rotate_left; ((try dsimp only at hS); go_simp; (try rw [if_pos (by omega)]); with_reducible rfl); (try simp only [Act.put, List.setIfInBounds_toArray, List.set_cons_zero, List.set_cons_succ])))
          refine Seq.Seq.make (by rfl) (by rfl) (fun K Q' hK => ?_)
          go_simp
          go_at_call 69
          refine (lessu_any _ _ _).mono ?_
          rintro e w' ⟨rfl, rfl⟩
          refine hK.out _ _ (hS) ?_
          clear hK K
          try simp only [Act.put, List.setIfInBounds_toArray, List.set_cons_zero, List.set_cons_succ]
          repeat (first | (refine Seq.Seq.skip (by rfl) ?_; (try simp only [Act.put, List.setIfInBounds_toArray, List.set_cons_zero, List.set_cons_succ])) | (refine Seq.Seq.det ?_ (by rfl) (fun w hS => ?_) ?_; rotate_left; ((try dsimp only at hS); go_simp; (try rw [if_pos (by omega)]); with_reducible rfl); (try simp only [Act.put, List.setIfInBounds_toArray, List.set_cons_zero, List.set_cons_succ])))
          refine Seq.Seq.nil ?_
          obtain ⟨q, hq⟩ : ∃ q, q = ltInt x y := ⟨_, rfl⟩
          rw [← hq]
          obtain ⟨c0, c1⟩ := L w1 hS
          have f0 := OwnA.free hS j
          have f1 := OwnA.free hS k
          rw [HX.out, HY.out] at hq
          have HQ := Lib.hid hq
          clear L hq
          cases q
          · have HE : Hid (OwnA w1 B g n cap D ∧ Ks (fun x => x = g) w w1) := Lib.hid ⟨by
              have h9 := HF.out
              rw [HIN.out, ← HQ.out, if_neg (by decide)] at h9
              rw [← h9]; exact hS, HK.out⟩
            clear hS c0 c1 f0 f1
            go_wp2
            go_roundw
            case rel => exact ⟨i + 1, D, by omega, by omega, by go_num, Lib.hid ⟨HE.out.1, HD.out, HE.out.2⟩⟩
            case measure => simp [intOf]; omega
          · have HEND : Hid (OwnA ((w1.setCell ⟨g, j, none⟩ (.int .u64 y)).setCell ⟨g, k, none⟩ (.int .u64 x)).drew B g n cap (Go.Sort.swp d j k) ∧ insInner ltInt a k (Go.Sort.swp d j k) = D ∧ Ks (fun x => x = g) w ((w1.setCell ⟨g, j, none⟩ (.int .u64 y)).setCell ⟨g, k, none⟩ (.int .u64 x)).drew) :=
              Lib.hid ⟨by rw [HX.out, HY.out]; exact (OwnA.swp hS j k).drew, by
                have h9 := HF.out
                rw [HIN.out, ← HQ.out, if_pos rfl] at h9
                exact h9, (Ks.two HK.out).trans (Ks.of_below (below_one' _))⟩
            clear hS
            go_wp2
            go_region
            go_wp2
            go_roundw
            case rel => exact ⟨k, _, by omega, by go_num, HEND⟩
            case measure => simp [intOf]; omega
        · have e3 : ¬ (a : Int) < j := by omega
          have hin : insInner ltInt a j d = d := by
            rcases j with _ | k
            · rfl
            · unfold insInner; simp [show ¬ a < k + 1 by omega]
          have HE : Hid (OwnA wr B g n cap D ∧ Ks (fun x => x = g) w wr) := Lib.hid ⟨by rw [← hF, hin]; exact ho, hk⟩
          clear ho hF hk HR hin
          go_wp2
          refine Seq.wp_region_seq (fun w' => True) (by kernel_rfl) (by kernel_rfl) trivial ?_
          have HE2 : Hid (OwnA wr.drew B g n cap D ∧ Ks (fun x => x = g) w wr.drew) := Lib.hid ⟨HE.out.1.drew, HE.out.2.trans (Ks.of_below (below_one' wr))⟩
          clear HE
          generalize wr.drew = w1 at *
          have hS : (fun w' : World => True) w1 := trivial
          repeat (first | (refine Seq.Seq.skip (by rfl) ?_; (try simp only [Act.put, List.setIfInBounds_toArray, List.set_cons_zero, List.set_cons_succ])) | (refine Seq.Seq.det ?_ (by rfl) (fun w hS => ?_) ?_; rotate_left; ((try dsimp only at hS); go_simp; (try rw [if_pos (by omega)]); with_reducible rfl); (try simp only [Act.put, List.setIfInBounds_toArray, List.set_cons_zero, List.set_cons_succ])))
          refine Seq.Seq.nil ?_
          go_wp2
          go_roundw
          case rel => exact ⟨i + 1, D, by omega, by omega, by go_num, Lib.hid ⟨HE2.out.1, HD.out, HE2.out.2⟩⟩
          case measure => simp [intOf]; omega
    · have e1 : ¬ (i : Int) < b := by omega
      have HE : Hid (OwnA wr B g n cap F ∧ Ks (fun x => x = g) w wr) := Lib.hid ⟨by rw [← HR.out.2.1]; unfold insOuter; rw [if_neg hib]; exact HR.out.1, HR.out.2.2⟩
      clear HR
      go_wp2
      go_end0
      exact ⟨rfl, HE.out.1, HE.out.2⟩
end Go.Proofs.Ytoemmppoejaapaa.Cur
namespace Go.Proofs.Ytoemmppoejaapaa.Cur
open Go.RowKit Mem Go.Sort
set_option linter.unusedVariables false
set_option maxRecDepth 100000
theorem sd_done {hi first r : Nat} {d : Array Int} (h : 2 * r + 1 ≥ hi) : siftDown ltInt hi first r d = d := by rw [siftDown, dif_pos h]
theorem sd_step {hi first r c : Nat} {d : Array Int} (h : 2 * r + 1 < hi) (hc : c = if 2 * r + 2 < hi ∧ ltInt d[first + (2 * r + 1)]! d[first + (2 * r + 1) + 1]! = true then 2 * r + 2 else 2 * r + 1) :
    siftDown ltInt hi first r d = if ltInt d[first + r]! d[first + c]! = true then siftDown ltInt hi first c (Go.Sort.swp d (first + r) (first + c)) else d := by
  subst hc
  rw [siftDown, dif_neg (by omega)]
  by_cases h2 : 2 * r + 2 < hi ∧ ltInt d[first + (2 * r + 1)]! d[first + (2 * r + 1) + 1]! = true
  · rw [if_pos (by simp only [Bool.and_eq_true, decide_eq_true_eq]; exact h2), if_pos h2]
    by_cases h3 : ltInt d[first + r]! d[first + (2 * r + 2)]! = true
    · rw [if_neg (by simp [h3]), dif_pos h2.1, if_pos h3]
    · rw [if_pos (by simpa using h3), if_neg h3]
  · rw [if_neg (by simp only [Bool.and_eq_true, decide_eq_true_eq]; exact h2), if_neg h2]
    by_cases h3 : ltInt d[first + r]! d[first + (2 * r + 1)]! = true
    · rw [if_neg (by simp [h3]), if_pos h3]
    · rw [if_pos (by simpa using h3), if_neg h3]
set_option maxHeartbeats 4000000 in
theorem ssift_any (B g n cap hi first r0 : Nat) (d : Array Int) (w : World) (h : OwnA w B g n cap d) (hn : n ≤ 5000) (hb : first + hi ≤ n) (hr : r0 ≤ 5000) :
    Calls Try.prog 81 #[.slice (some ⟨g, 0, none⟩) n cap, .int .i64 r0, .int .i64 hi, .int .i64 first] w (SrP B g n cap (siftDown ltInt hi first r0 d) w) := by
  obtain ⟨F, hF⟩ : ∃ F, F = siftDown ltInt hi first r0 d := ⟨_, rfl⟩
  rw [← hF]
  have H0 : Hid (OwnA w B g n cap d ∧ siftDown ltInt hi first r0 d = F ∧ Ks (fun x => x = g) w w) := Lib.hid ⟨h, hF.symm, Ks.refl _ _⟩
  clear h hF
  go_enter Try.func81, Try.ntmps81
  go_wp2
  go_loopw [8] (fun x wr => ∃ (r : Nat) (d : Array Int), r ≤ 5000 ∧ x = .int .i64 r ∧ Hid (OwnA wr B g n cap d ∧ siftDown ltInt hi first r d = F ∧ Ks (fun x => x = g) w wr)) (fun x _ => 5000 - (intOf x).toNat)
  case atStart => exact ⟨r0, d, hr, rfl, H0⟩
  case round =>
    clear H0
    obtain ⟨r, d, hr1, rfl, HR⟩ := hrel
    obtain ⟨ho, hF, hk⟩ := HR.out
    obtain ⟨c1, hc1⟩ : ∃ c, c = 2 * r + 1 := ⟨_, rfl⟩
    have e1 : IntKind.i64.wrap (2 * (r : Int)) = 2 * (r : Int) := IntWalk.i64_in _ (by omega)
    have e2 : IntKind.i64.wrap (2 * (r : Int) + 1) = (c1 : Int) := by rw [IntWalk.i64_in _ (by omega)]; omega
    by_cases hch : hi ≤ c1
    · have e3 : (hi : Int) ≤ c1 := by omega
      have HE : Hid (OwnA wr B g n cap F ∧ Ks (fun x => x = g) w wr) := Lib.hid ⟨by rw [← hF, sd_done (by omega)]; exact ho, hk⟩
      clear ho hF hk HR hc1
      go_wp2
      refine bodyPost_ret (v := .tuple #[]) (results_none rfl _ _ _) rfl ?_
      exact ⟨rfl, HE.out.1, HE.out.2⟩
    · have e3 : ¬ (hi : Int) ≤ c1 := by omega
      have HSTEP := Lib.hid (fun c hc => sd_step (hi := hi) (first := first) (r := r) (c := c) (d := d) (by omega) hc)
      obtain ⟨c2, hc2⟩ : ∃ c, c = c1 + 1 := ⟨_, rfl⟩
      obtain ⟨p0, hp0⟩ : ∃ c, c = first + r := ⟨_, rfl⟩
      obtain ⟨p1, hp1⟩ : ∃ c, c = first + c1 := ⟨_, rfl⟩
      obtain ⟨p2, hp2⟩ : ∃ c, c = p1 + 1 := ⟨_, rfl⟩
      have e4 : IntKind.i64.wrap ((c1 : Int) + 1) = (c2 : Int) := by rw [IntWalk.i64_in _ (by omega)]; omega
      have e5 : IntKind.i64.wrap ((first : Int) + r) = (p0 : Int) := by rw [IntWalk.i64_in _ (by omega)]; omega
      have e6 : IntKind.i64.wrap ((first : Int) + c1) = (p1 : Int) := by rw [IntWalk.i64_in _ (by omega)]; omega
      have e7 : IntKind.i64.wrap ((p1 : Int) + 1) = (p2 : Int) := by rw [IntWalk.i64_in _ (by omega)]; omega
      have e8 : IntKind.i64.wrap ((first : Int) + c2) = (p2 : Int) := by rw [IntWalk.i64_in _ (by omega)]; omega
      have l0 : (p0 : Int) < n := by omega
      have l1 : (p1 : Int) < n := by omega
      have m0 : p0 < n := by omega
      have m1 : p1 < n := by omega
      have m01 : p0 < p1 := by omega
      have m12 : p1 < p2 := by omega
      have k1 : c1 ≤ 5000 := by omega
      have k2 : c2 ≤ 5000 := by omega
      have r1 : r < c1 := by omega
      have r2 : c1 < c2 := by omega
      have HP0 : Hid (first + r = p0) := Lib.hid hp0.symm
      have HS : Hid (c1 = 2 * r + 1 ∧ c2 = 2 * r + 2 ∧ p1 = first + (2 * r + 1) ∧ p2 = first + (2 * r + 1) + 1 ∧ p2 = first + c2 ∧ p1 = first + c1) := Lib.hid ⟨hc1, by omega, by omega, by omega, by omega, by omega⟩
      have HF := Lib.hid hF
      have hS : (fun w' => OwnA w' B g n cap d) wr.drew := ho.drew
      have HK := Lib.hid (hk.trans (Ks.of_below (below_one' wr)))
      by_cases hc2h : c2 < hi
      · have e9 : (c2 : Int) < hi := by omega
        have l2 : (p2 : Int) < n := by omega
        have m2 : p2 < n := by omega
        have L : ∀ w', (fun w' => OwnA w' B g n cap d) w' → w'.cell? ⟨g, p1, none⟩ = some (.int .u64 d[p1]!) ∧ w'.cell? ⟨g, p2, none⟩ = some (.int .u64 d[p2]!) := fun w' h => ⟨OwnA.cell h m1, OwnA.cell h m2⟩
        clear hc1 hc2 hp0 hp1 hp2 ho hF hk HR hch
        go_wp2
        refine Seq.wp_region_seq (fun w' => OwnA w' B g n cap d) (by kernel_rfl) (by kernel_rfl) hS ?_
        generalize wr.drew = w1 at *
        repeat (first | (refine Seq.Seq.skip (by rfl) ?_; (try simp only [Act.put, List.setIfInBounds_toArray, List.set_cons_zero, List.set_cons_succ])) | (refine Seq.Seq.det ?_ (by rfl) (fun w hS => ?_) ?_; rotate_left; ((try dsimp only at hS); go_simp; (try rw [if_pos (by omega)]); with_reducible rfl); (try simp only [Act.put, List.setIfInBounds_toArray, List.set_cons_zero, List.set_cons_succ])))
        refine Seq.Seq.make (by rfl) (by rfl) (fun K Q' hK => ?_)
        go_simp
        go_at_call 69
        refine (lessu_any _ _ _).mono ?_
        rintro e w' ⟨rfl, rfl⟩
        refine hK.out _ _ (hS) ?_
        clear hK K
        try simp only [Act.put, List.setIfInBounds_toArray, List.set_cons_zero, List.set_cons_succ]
        repeat (first | (refine Seq.Seq.skip (by rfl) ?_; (try simp only [Act.put, List.setIfInBounds_toArray, List.set_cons_zero, List.set_cons_succ])) | (refine Seq.Seq.det ?_ (by rfl) (fun w hS => ?_) ?_; rotate_left; ((try dsimp only at hS); go_simp; (try rw [if_pos (by omega)]); with_reducible rfl); (try simp only [Act.put, List.setIfInBounds_toArray, List.set_cons_zero, List.set_cons_succ])))
        refine Seq.Seq.nil ?_
        clear L
        obtain ⟨q, hq⟩ : ∃ q, q = ltInt d[p1]! d[p2]! := ⟨_, rfl⟩
        rw [← hq]
        have HQ := Lib.hid hq
        clear hq
        cases q
        · have HCC : Hid (c1 = if 2 * r + 2 < hi ∧ ltInt d[first + (2 * r + 1)]! d[first + (2 * r + 1) + 1]! = true then 2 * r + 2 else 2 * r + 1) := Lib.hid (by
            rw [← HS.out.2.2.1, ← show p2 = p1 + 1 by have := HS.out; omega, ← HQ.out, if_neg (by simp)]; exact HS.out.1)
          have HPC : Hid (first + c1 = p1) := Lib.hid HS.out.2.2.2.2.2.symm
          have L2 : ∀ w', (fun w' => OwnA w' B g n cap d) w' → w'.cell? ⟨g, p0, none⟩ = some (.int .u64 d[p0]!) ∧ w'.cell? ⟨g, p1, none⟩ = some (.int .u64 d[p1]!) := fun w' h => ⟨OwnA.cell h (by omega), OwnA.cell h (by omega)⟩
          have hS2 : (fun w' => OwnA w' B g n cap d) w1.drew := OwnA.drew hS
          have HK2 := Lib.hid (HK.out.trans (Ks.of_below (below_one' w1)))
          clear hS
          go_wp2
          refine Seq.wp_region_seq (fun w' => OwnA w' B g n cap d) (by kernel_rfl) (by kernel_rfl) hS2 ?_
          generalize w1.drew = w2 at *
          obtain ⟨x, hx⟩ : ∃ x, x = d[p0]! := ⟨_, rfl⟩
          obtain ⟨y, hy⟩ : ∃ y, y = d[p1]! := ⟨_, rfl⟩
          rw [← hx, ← hy] at L2
          have HX := Lib.hid hx
          have HY := Lib.hid hy
          clear hx hy
          repeat (first | (refine Seq.Seq.skip (by rfl) ?_; (try simp only [Act.put, List.setIfInBounds_toArray, List.set_cons_zero, List.set_cons_succ])) | (refine Seq.Seq.det ?_ (by rfl) (fun w hS => ?_) ?_; rotate_left; ((try dsimp only at hS); go_simp; (try rw [if_pos (by omega)]); with_reducible rfl); (try simp only [Act.put, List.setIfInBounds_toArray, List.set_cons_zero, List.set_cons_succ])))
          refine Seq.Seq.make (by rfl) (by rfl) (fun K Q' hK => ?_)
          go_simp
          go_at_call 69
          refine (lessu_any _ _ _).mono ?_
          rintro e w' ⟨rfl, rfl⟩
          refine hK.out _ _ (hS2) ?_
          clear hK K
          try simp only [Act.put, List.setIfInBounds_toArray, List.set_cons_zero, List.set_cons_succ]
          repeat (first | (refine Seq.Seq.skip (by rfl) ?_; (try simp only [Act.put, List.setIfInBounds_toArray, List.set_cons_zero, List.set_cons_succ])) | (refine Seq.Seq.det ?_ (by rfl) (fun w hS => ?_) ?_; rotate_left; ((try dsimp only at hS); go_simp; (try rw [if_pos (by omega)]); with_reducible rfl); (try simp only [Act.put, List.setIfInBounds_toArray, List.set_cons_zero, List.set_cons_succ])))
          refine Seq.Seq.nil ?_
          obtain ⟨cc0, cc1⟩ := L2 w2 hS2
          have f0 := OwnA.free hS2 p0
          have f1 := OwnA.free hS2 p1
          obtain ⟨t, ht⟩ : ∃ t, t = ltInt x y := ⟨_, rfl⟩
          rw [← ht]
          rw [HX.out, HY.out] at ht
          have HT := Lib.hid ht
          clear ht L2
          have HST := HSTEP.out c1 HCC.out
          cases t
          · have HE : Hid (OwnA w2 B g n cap F ∧ Ks (fun x => x = g) w w2) := Lib.hid ⟨by rw [← HF.out, HST, HP0.out, HPC.out, ← HT.out, if_neg (by decide)]; exact hS2, HK2.out⟩
            clear hS2 cc0 cc1 f0 f1 HST
            go_wp2
            refine bodyPost_ret (v := .tuple #[]) (results_none rfl _ _ _) rfl ?_
            exact ⟨rfl, HE.out.1, HE.out.2⟩
          · have HEND : Hid (OwnA ((w2.setCell ⟨g, p0, none⟩ (.int .u64 y)).setCell ⟨g, p1, none⟩ (.int .u64 x)).drew B g n cap (Go.Sort.swp d p0 p1) ∧ siftDown ltInt hi first c1 (Go.Sort.swp d p0 p1) = F ∧ Ks (fun x => x = g) w ((w2.setCell ⟨g, p0, none⟩ (.int .u64 y)).setCell ⟨g, p1, none⟩ (.int .u64 x)).drew) :=
              Lib.hid ⟨by rw [HX.out, HY.out]; exact (OwnA.swp hS2 p0 p1).drew, by rw [← HF.out, HST, HP0.out, HPC.out, ← HT.out, if_pos rfl], (Ks.two HK2.out).trans (Ks.of_below (below_one' _))⟩
            clear hS2 HST
            go_wp2
            go_region
            go_wp2
            go_roundw
            case rel => exact ⟨c1, _, by omega, by go_num, HEND⟩
            case measure => simp [intOf]; omega
        · have HCC : Hid (c2 = if 2 * r + 2 < hi ∧ ltInt d[first + (2 * r + 1)]! d[first + (2 * r + 1) + 1]! = true then 2 * r + 2 else 2 * r + 1) := Lib.hid (by
            rw [← HS.out.2.2.1, ← show p2 = p1 + 1 by have := HS.out; omega, ← HQ.out, if_pos ⟨by have := HS.out; omega, rfl⟩]; exact HS.out.2.1)
          have HPC : Hid (first + c2 = p2) := Lib.hid HS.out.2.2.2.2.1.symm
          have m02 : p0 < p2 := by omega
          have L2 : ∀ w', (fun w' => OwnA w' B g n cap d) w' → w'.cell? ⟨g, p0, none⟩ = some (.int .u64 d[p0]!) ∧ w'.cell? ⟨g, p2, none⟩ = some (.int .u64 d[p2]!) := fun w' h => ⟨OwnA.cell h (by omega), OwnA.cell h (by omega)⟩
          have hS2 : (fun w' => OwnA w' B g n cap d) w1.drew := OwnA.drew hS
          have HK2 := Lib.hid (HK.out.trans (Ks.of_below (below_one' w1)))
          clear hS
          go_wp2
          refine Seq.wp_region_seq (fun w' => OwnA w' B g n cap d) (by kernel_rfl) (by kernel_rfl) hS2 ?_
          generalize w1.drew = w2 at *
          obtain ⟨x, hx⟩ : ∃ x, x = d[p0]! := ⟨_, rfl⟩
          obtain ⟨y, hy⟩ : ∃ y, y = d[p2]! := ⟨_, rfl⟩
          rw [← hx, ← hy] at L2
          have HX := Lib.hid hx
          have HY := Lib.hid hy
          clear hx hy
          repeat (first | (refine Seq.Seq.skip (by rfl) ?_; (try simp only [Act.put, List.setIfInBounds_toArray, List.set_cons_zero, List.set_cons_succ])) | (refine Seq.Seq.det ?_ (by rfl) (fun w hS => ?_) ?_; rotate_left; ((try dsimp only at hS); go_simp; (try rw [if_pos (by omega)]); with_reducible rfl); (try simp only [Act.put, List.setIfInBounds_toArray, List.set_cons_zero, List.set_cons_succ])))
          refine Seq.Seq.make (by rfl) (by rfl) (fun K Q' hK => ?_)
          go_simp
          go_at_call 69
          refine (lessu_any _ _ _).mono ?_
          rintro e w' ⟨rfl, rfl⟩
          refine hK.out _ _ (hS2) ?_
          clear hK K
          try simp only [Act.put, List.setIfInBounds_toArray, List.set_cons_zero, List.set_cons_succ]
          repeat (first | (refine Seq.Seq.skip (by rfl) ?_; (try simp only [Act.put, List.setIfInBounds_toArray, List.set_cons_zero, List.set_cons_succ])) | (refine Seq.Seq.det ?_ (by rfl) (fun w hS => ?_) ?_; rotate_left; ((try dsimp only at hS); go_simp; (try rw [if_pos (by omega)]); with_reducible rfl); (try simp only [Act.put, List.setIfInBounds_toArray, List.set_cons_zero, List.set_cons_succ])))
          refine Seq.Seq.nil ?_
          obtain ⟨cc0, cc1⟩ := L2 w2 hS2
          have f0 := OwnA.free hS2 p0
          have f1 := OwnA.free hS2 p2
          obtain ⟨t, ht⟩ : ∃ t, t = ltInt x y := ⟨_, rfl⟩
          rw [← ht]
          rw [HX.out, HY.out] at ht
          have HT := Lib.hid ht
          clear ht L2
          have HST := HSTEP.out c2 HCC.out
          cases t
          · have HE : Hid (OwnA w2 B g n cap F ∧ Ks (fun x => x = g) w w2) := Lib.hid ⟨by rw [← HF.out, HST, HP0.out, HPC.out, ← HT.out, if_neg (by decide)]; exact hS2, HK2.out⟩
            clear hS2 cc0 cc1 f0 f1 HST
            go_wp2
            refine bodyPost_ret (v := .tuple #[]) (results_none rfl _ _ _) rfl ?_
            exact ⟨rfl, HE.out.1, HE.out.2⟩
          · have HEND : Hid (OwnA ((w2.setCell ⟨g, p0, none⟩ (.int .u64 y)).setCell ⟨g, p2, none⟩ (.int .u64 x)).drew B g n cap (Go.Sort.swp d p0 p2) ∧ siftDown ltInt hi first c2 (Go.Sort.swp d p0 p2) = F ∧ Ks (fun x => x = g) w ((w2.setCell ⟨g, p0, none⟩ (.int .u64 y)).setCell ⟨g, p2, none⟩ (.int .u64 x)).drew) :=
              Lib.hid ⟨by rw [HX.out, HY.out]; exact (OwnA.swp hS2 p0 p2).drew, by rw [← HF.out, HST, HP0.out, HPC.out, ← HT.out, if_pos rfl], (Ks.two HK2.out).trans (Ks.of_below (below_one' _))⟩
            clear hS2 HST
            go_wp2
            go_region
            go_wp2
            go_roundw
            case rel => exact ⟨c2, _, by omega, by go_num, HEND⟩
            case measure => simp [intOf]; omega
      · have e9 : ¬ (c2 : Int) < hi := by omega
        clear hc1 hc2 hp0 hp1 hp2 ho hF hk HR hch
        go_wp2
        refine Seq.wp_region_seq (fun w' => OwnA w' B g n cap d) (by kernel_rfl) (by kernel_rfl) hS ?_
        generalize wr.drew = w1 at *
        repeat (first | (refine Seq.Seq.skip (by rfl) ?_; (try simp only [Act.put, List.setIfInBounds_toArray, List.set_cons_zero, List.set_cons_succ])) | (refine Seq.Seq.det ?_ (by rfl) (fun w hS => ?_) ?_; rotate_left; ((try dsimp only at hS); go_simp; (try rw [if_pos (by omega)]); with_reducible rfl); (try simp only [Act.put, List.setIfInBounds_toArray, List.set_cons_zero, List.set_cons_succ])))
        refine Seq.Seq.nil ?_
        have HCC : Hid (c1 = if 2 * r + 2 < hi ∧ ltInt d[first + (2 * r + 1)]! d[first + (2 * r + 1) + 1]! = true then 2 * r + 2 else 2 * r + 1) := Lib.hid (by
          rw [if_neg (fun h => by have := HS.out; omega)]; exact HS.out.1)
        have HPC : Hid (first + c1 = p1) := Lib.hid HS.out.2.2.2.2.2.symm
        have L2 : ∀ w', (fun w' => OwnA w' B g n cap d) w' → w'.cell? ⟨g, p0, none⟩ = some (.int .u64 d[p0]!) ∧ w'.cell? ⟨g, p1, none⟩ = some (.int .u64 d[p1]!) := fun w' h => ⟨OwnA.cell h (by omega), OwnA.cell h (by omega)⟩
        have hS2 : (fun w' => OwnA w' B g n cap d) w1.drew := OwnA.drew hS
        have HK2 := Lib.hid (HK.out.trans (Ks.of_below (below_one' w1)))
        clear hS
        go_wp2
        refine Seq.wp_region_seq (fun w' => OwnA w' B g n cap d) (by kernel_rfl) (by kernel_rfl) hS2 ?_
        generalize w1.drew = w2 at *
        obtain ⟨x, hx⟩ : ∃ x, x = d[p0]! := ⟨_, rfl⟩
        obtain ⟨y, hy⟩ : ∃ y, y = d[p1]! := ⟨_, rfl⟩
        rw [← hx, ← hy] at L2
        have HX := Lib.hid hx
        have HY := Lib.hid hy
        clear hx hy
        repeat (first | (refine Seq.Seq.skip (by rfl) ?_; (try simp only [Act.put, List.setIfInBounds_toArray, List.set_cons_zero, List.set_cons_succ])) | (refine Seq.Seq.det ?_ (by rfl) (fun w hS => ?_) ?_; rotate_left; ((try dsimp only at hS); go_simp; (try rw [if_pos (by omega)]); with_reducible rfl); (try simp only [Act.put, List.setIfInBounds_toArray, List.set_cons_zero, List.set_cons_succ])))
        refine Seq.Seq.make (by rfl) (by rfl) (fun K Q' hK => ?_)
        go_simp
        go_at_call 69
        refine (lessu_any _ _ _).mono ?_
        rintro e w' ⟨rfl, rfl⟩
        refine hK.out _ _ (hS2) ?_
        clear hK K
        try simp only [Act.put, List.setIfInBounds_toArray, List.set_cons_zero, List.set_cons_succ]
        repeat (first | (refine Seq.Seq.skip (by rfl) ?_; (try simp only [Act.put, List.setIfInBounds_toArray, List.set_cons_zero, List.set_cons_succ])) | (refine Seq.Seq.det ?_ (by rfl) (fun w hS => ?_) ?_; rotate_left; ((try dsimp only at hS); go_simp; (try rw [if_pos (by omega)]); with_reducible rfl); (try simp only [Act.put, List.setIfInBounds_toArray, List.set_cons_zero, List.set_cons_succ])))
        refine Seq.Seq.nil ?_
        obtain ⟨cc0, cc1⟩ := L2 w2 hS2
        have f0 := OwnA.free hS2 p0
        have f1 := OwnA.free hS2 p1
        obtain ⟨t, ht⟩ : ∃ t, t = ltInt x y := ⟨_, rfl⟩
        rw [← ht]
        rw [HX.out, HY.out] at ht
        have HT := Lib.hid ht
        clear ht L2
        have HST := HSTEP.out c1 HCC.out
        cases t
        · have HE : Hid (OwnA w2 B g n cap F ∧ Ks (fun x => x = g) w w2) := Lib.hid ⟨by rw [← HF.out, HST, HP0.out, HPC.out, ← HT.out, if_neg (by decide)]; exact hS2, HK2.out⟩
          clear hS2 cc0 cc1 f0 f1 HST
          go_wp2
          refine bodyPost_ret (v := .tuple #[]) (results_none rfl _ _ _) rfl ?_
          exact ⟨rfl, HE.out.1, HE.out.2⟩
        · have HEND : Hid (OwnA ((w2.setCell ⟨g, p0, none⟩ (.int .u64 y)).setCell ⟨g, p1, none⟩ (.int .u64 x)).drew B g n cap (Go.Sort.swp d p0 p1) ∧ siftDown ltInt hi first c1 (Go.Sort.swp d p0 p1) = F ∧ Ks (fun x => x = g) w ((w2.setCell ⟨g, p0, none⟩ (.int .u64 y)).setCell ⟨g, p1, none⟩ (.int .u64 x)).drew) :=
            Lib.hid ⟨by rw [HX.out, HY.out]; exact (OwnA.swp hS2 p0 p1).drew, by rw [← HF.out, HST, HP0.out, HPC.out, ← HT.out, if_pos rfl], (Ks.two HK2.out).trans (Ks.of_below (below_one' _))⟩
          clear hS2 HST
          go_wp2
          go_region
          go_wp2
          go_roundw
          case rel => exact ⟨c1, _, by omega, by go_num, HEND⟩
          case measure => simp [intOf]; omega
end Go.Proofs.Ytoemmppoejaapaa.Cur
namespace Go.Proofs.Ytoemmppoejaapaa.Cur
open Go.RowKit Mem Go.Sort
set_option linter.unusedVariables false
set_option maxRecDepth 100000
set_option maxHeartbeats 4000000 in
theorem sheap_any (B g n cap a b : Nat) (d : Array Int) (w : World) (h : OwnA w B g n cap d) (hn : n ≤ 5000) (hab : a < b) (hb : b ≤ n) :
    Calls Try.prog 64 #[.slice (some ⟨g, 0, none⟩) n cap, .int .i64 a, .int .i64 b] w (SrP B g n cap (heapSort ltInt d a b) w) := by
  unfold heapSort
  obtain ⟨hi, hhi⟩ : ∃ hi, hi = b - a := ⟨_, rfl⟩
  rw [← hhi]
  obtain ⟨F, hF⟩ : ∃ F, F = heapPop ltInt a hi (heapBuild ltInt hi a ((hi - 1) / 2 + 1) d) := ⟨_, rfl⟩
  rw [← hF]
  obtain ⟨D, hD⟩ : ∃ D, D = heapBuild ltInt hi a ((hi - 1) / 2 + 1) d := ⟨_, rfl⟩
  rw [← hD] at hF
  have HF := Lib.hid hF
  have H0 : Hid (OwnA w B g n cap d ∧ heapBuild ltInt hi a ((hi - 1) / 2 + 1) d = D ∧ Ks (fun x => x = g) w w) := Lib.hid ⟨h, hD.symm, Ks.refl _ _⟩
  have e1 : IntKind.i64.wrap ((b : Int) - a) = (hi : Int) := by rw [IntWalk.i64_in _ (by omega)]; omega
  have e2 : IntKind.i64.wrap ((hi : Int) - 1) = (hi : Int) - 1 := IntWalk.i64_in _ (by omega)
  have hh1 : 1 ≤ hi := by omega
  have hh2 : a + hi ≤ n := by omega
  have hh3 : hi ≤ 5000 := by omega
  obtain ⟨m, hm⟩ : ∃ m, m = (hi - 1) / 2 := ⟨_, rfl⟩
  rw [← hm] at H0
  have e3 : ((hi : Int) - 1).tdiv 2 = (m : Int) := by rw [Int.tdiv_eq_ediv_of_nonneg (by omega)]; omega
  have hm1 : m ≤ hi := by omega
  have e4 : IntKind.i64.wrap (m : Int) = (m : Int) := IntWalk.i64_in _ (by omega)
  clear h hD hF hhi hm
  go_enter Try.func64, Try.ntmps64
  go_wp2
  go_loopw [9] (fun x wr => ∃ (k : Nat) (d : Array Int), k ≤ hi + 1 ∧ x = .int .i64 ((k : Int) - 1) ∧ Hid (OwnA wr B g n cap d ∧ heapBuild ltInt hi a k d = D ∧ Ks (fun x => x = g) w wr)) (fun x _ => (intOf x + 1).toNat)
  case atStart => exact ⟨m + 1, d, by omega, by first | rfl | (congr 1; omega) | go_num, H0⟩
  case round =>
    clear H0
    obtain ⟨k, d, hk, rfl, HR⟩ := hrel
    rcases k with _ | k
    · rw [show (((0 : Nat) : Int) - 1) = (-1 : Int) from rfl]
      have HE : Hid (OwnA wr B g n cap D ∧ Ks (fun x => x = g) w wr) := Lib.hid ⟨by rw [← HR.out.2.1]; exact HR.out.1, HR.out.2.2⟩
      clear HR hk
      have H1 : Hid (OwnA wr B g n cap D ∧ heapPop ltInt a hi D = F ∧ Ks (fun x => x = g) w wr) := Lib.hid ⟨HE.out.1, HF.out.symm, HE.out.2⟩
      clear HE
      go_wp2
      go_loopw [10] (fun x wr => ∃ (k : Nat) (d : Array Int), k ≤ hi ∧ x = .int .i64 ((k : Int) - 1) ∧ Hid (OwnA wr B g n cap d ∧ heapPop ltInt a k d = F ∧ Ks (fun x => x = g) w wr)) (fun x _ => (intOf x + 1).toNat)
      case atStart => exact ⟨hi, D, by omega, rfl, H1⟩
      case round =>
        clear H1
        obtain ⟨k, d, hk, rfl, HR⟩ := hrel
        rcases k with _ | k
        · have HE : Hid (OwnA wr B g n cap F ∧ Ks (fun x => x = g) w wr) := Lib.hid ⟨by rw [← HR.out.2.1]; exact HR.out.1, HR.out.2.2⟩
          clear HR hk
          go_wp2
          go_end0
          exact ⟨rfl, HE.out.1, HE.out.2⟩
        · have e5 : IntKind.i64.wrap ((k : Int) - 1) = (k : Int) - 1 := IntWalk.i64_in _ (by omega)
          have e6 : (((k + 1 : Nat) : Int) - 1) = (k : Int) := by omega
          rw [e6]
          obtain ⟨ho, hF, hks⟩ := HR.out
          have hk0 : (0 : Int) ≤ k := by omega
          obtain ⟨q, hq⟩ : ∃ q, q = a + k := ⟨_, rfl⟩
          have e7 : IntKind.i64.wrap ((a : Int) + k) = (q : Int) := by rw [IntWalk.i64_in _ (by omega)]; omega
          have l0 : (a : Int) < n := by omega
          have l1 : (q : Int) < n := by omega
          have mq : a + k ≤ n := by omega
          have hF2 : heapPop ltInt a (k + 1) d = heapPop ltInt a k (siftDown ltInt k a 0 (Go.Sort.swp d a q)) := by rw [hq]; rfl
          rw [hF2] at hF
          have HFB := Lib.hid hF
          have hsw := (ho.swp a q).drew
          have HKS := Lib.hid ((Ks.two (i := a) (j := q) (u := .int .u64 d[q]!) (v := .int .u64 d[a]!) hks).trans (Ks.of_below (below_one' _)))
          have c0 := ho.cell (i := a) (by omega)
          have c1 := ho.cell (i := q) (by omega)
          have f0 := ho.free a
          have f1 := ho.free q
          have hkk : k ≤ 5000 := by omega
          have hsf := ssift_any B g n cap k a 0 (Go.Sort.swp d a q) _ hsw hn mq (by omega)
          obtain ⟨x, hx⟩ : ∃ x, x = d[a]! := ⟨_, rfl⟩
          obtain ⟨y, hy⟩ : ∃ y, y = d[q]! := ⟨_, rfl⟩
          rw [← hx] at c0 hsf HKS
          rw [← hy] at c1 hsf HKS
          by_cases hk1 : 0 < k
          · have maq : a < q := by omega
            clear HR ho hF hF2 hks e6 hsw hq hx hy
            go_wp2
            go_region
            go_wp2_with fail
            refine hsf.mono ?_
            rintro e w2 ⟨rfl, ho2, hk2⟩
            have HEND : Hid (OwnA w2 B g n cap (siftDown ltInt k a 0 (Go.Sort.swp d a q)) ∧ heapPop ltInt a k (siftDown ltInt k a 0 (Go.Sort.swp d a q)) = F ∧ Ks (fun x => x = g) w w2) := Lib.hid ⟨ho2, HFB.out, HKS.out.trans hk2⟩
            clear hsf ho2 hk2
            go_wp2
            go_roundw
            case rel => exact ⟨k, _, by omega, rfl, HEND⟩
            case measure => first | (simp [intOf]; done) | (simp [intOf]; omega)
          · have hk00 : k = 0 := by omega
            have HQ : Hid (q = a) := Lib.hid (by omega)
            subst hk00
            rw [HQ.out] at c1 f1 HFB hsf HKS e7
            have hxy : y = x := by rw [hx, hy, HQ.out]
            rw [hxy] at hsf HKS
            clear HR ho hF hF2 hks e6 hsw hq hx hy c1 f1 l1 hk1 hxy HQ
            have e8 : IntKind.i64.wrap ((a : Int) + ((0 : Nat) : Int)) = (a : Int) := by rw [IntWalk.i64_in _ (by omega)]; omega
            go_wp2
            go_region
            go_wp2_with fail
            refine hsf.mono ?_
            rintro e w2 ⟨rfl, ho2, hk2⟩
            have HEND : Hid (OwnA w2 B g n cap (siftDown ltInt 0 a 0 (Go.Sort.swp d a a)) ∧ heapPop ltInt a 0 (siftDown ltInt 0 a 0 (Go.Sort.swp d a a)) = F ∧ Ks (fun x => x = g) w w2) := Lib.hid ⟨ho2, HFB.out, HKS.out.trans hk2⟩
            clear hsf ho2 hk2
            go_wp2
            go_roundw
            case rel => exact ⟨0, _, by omega, rfl, HEND⟩
            case measure => first | (simp [intOf]; done) | (simp [intOf]; omega)
    · have e5 : IntKind.i64.wrap ((k : Int) - 1) = (k : Int) - 1 := IntWalk.i64_in _ (by omega)
      have e6 : (((k + 1 : Nat) : Int) - 1) = (k : Int) := by omega
      rw [e6]
      obtain ⟨ho, hF, hks⟩ := HR.out
      have hk0 : (0 : Int) ≤ k := by omega
      have hsf := ssift_any B g n cap hi a k d wr ho hn hh2 (by omega)
      have HFB := Lib.hid hF
      have HKS := Lib.hid hks
      clear HR ho hF hks e6
      go_wp2_with fail
      refine hsf.mono ?_
      rintro e w2 ⟨rfl, ho2, hk2⟩
      have HEND : Hid (OwnA w2 B g n cap (siftDown ltInt hi a k d) ∧ heapBuild ltInt hi a k (siftDown ltInt hi a k d) = D ∧ Ks (fun x => x = g) w w2) := Lib.hid ⟨ho2, HFB.out, HKS.out.trans hk2⟩
      clear hsf ho2 hk2
      go_wp2
      go_roundw
      case rel => exact ⟨k, _, by omega, rfl, HEND⟩
      case measure => first | (simp [intOf]; done) | (simp [intOf]; omega)
end Go.Proofs.Ytoemmppoejaapaa.Cur
namespace Go.Proofs.Ytoemmppoejaapaa.Cur
open Go.RowKit Mem Go.Sort
set_option linter.unusedVariables false
set_option maxRecDepth 100000
def SwS (B g n cap : Nat) (d : Array Int) (sb s : Nat) (w : World) : Prop := OwnA w B g n cap d ∧ Blk w sb #[.int .i64 (s : Int)] 3
theorem SwS.drew {B g n cap : Nat} {d : Array Int} {sb s : Nat} {w : World} (h : SwS B g n cap d sb s w) : SwS B g n cap d sb s w.drew := h
theorem OwnA.ne {w : World} {B g n cap : Nat} {d : Array Int} (h : OwnA w B g n cap d) {b : Nat} {c : Array Value} {t : Nat} (hb : Blk w b c t) (ht : t ≠ 22) : g ≠ b := fun e => by
  subst e
  rcases h.2.2 with ⟨e, _⟩ | ⟨g', _, cur, e, _, hh, _⟩
  · cases e
  · injection e with e
    injection e with e
    injection e with e
    subst e
    have h2 : some (Obj.cells cur 22 (0, 0)) = some (Obj.cells c t (0, 0)) := (show w.heap[g]? = _ from hh).symm.trans hb
    injection h2 with h2
    injection h2 with _ h2 _
    exact ht h2.symm
def O2P (B g n cap : Nat) (d : Array Int) (sb s : Nat) (v : Value) (w : World) (e : Ending) (w' : World) : Prop := e = .returned v ∧ SwS B g n cap d sb s w' ∧ Ks (fun x => x = sb) w w'
set_option maxHeartbeats 2000000 in
theorem sorder_any (B g n cap a b sb s : Nat) (d : Array Int) (w : World) (h : SwS B g n cap d sb s w) (hn : n ≤ 5000) (ha : a < n) (hb : b < n) (hs : s ≤ 100) :
    Calls Try.prog 90 #[.slice (some ⟨g, 0, none⟩) n cap, .int .i64 a, .int .i64 b, .pointer (some ⟨sb, 0, none⟩)] w (O2P B g n cap d sb (order2 ltInt d a b s).2.2 (.tuple #[.int .i64 (order2 ltInt d a b s).1, .int .i64 (order2 ltInt d a b s).2.1]) w) := by
  have l0 : (a : Int) < n := by omega
  have l1 : (b : Int) < n := by omega
  have e1 : IntKind.i64.wrap ((s : Int) + 1) = ((s + 1 : Nat) : Int) := IntWalk.i64_in _ (by omega)
  have L : ∀ w', SwS B g n cap d sb s w' → w'.cell? ⟨g, b, none⟩ = some (.int .u64 d[b]!) ∧ w'.cell? ⟨g, a, none⟩ = some (.int .u64 d[a]!) := fun w' h => ⟨h.1.cell hb, h.1.cell ha⟩
  have hO : order2 ltInt d a b s = if ltInt d[b]! d[a]! = true then (b, a, s + 1) else (a, b, s) := rfl
  rw [hO]
  obtain ⟨x, hx⟩ : ∃ x, x = d[b]! := ⟨_, rfl⟩
  obtain ⟨y, hy⟩ : ∃ y, y = d[a]! := ⟨_, rfl⟩
  rw [← hx, ← hy] at L ⊢
  clear hx hy hO
  have hS := h.drew
  have HK := Lib.hid (Ks.of_below (S := fun x => x = sb) (below_one' w))
  clear h
  by_cases hq : ltInt x y = true
  · rw [if_pos hq]
    go_enter Try.func90, Try.ntmps90
    go_wp2
    refine Seq.wp_region_seq (SwS B g n cap d sb s) (by kernel_rfl) (by kernel_rfl) hS ?_
    generalize w.drew = w1 at *
    repeat (first | (refine Seq.Seq.skip (by rfl) ?_; (try simp only [Act.put, List.setIfInBounds_toArray, List.set_cons_zero, List.set_cons_succ])) | (refine Seq.Seq.det ?_ (by rfl) (fun w hS => ?_) ?_; rotate_left; ((try dsimp only at hS); go_simp; (try rw [if_pos (by omega)]); with_reducible rfl); (try simp only [Act.put, List.setIfInBounds_toArray, List.set_cons_zero, List.set_cons_succ])))
    refine Seq.Seq.make (by rfl) (by rfl) (fun K Q' hK => ?_)
    go_simp
    go_at_call 69
    refine (lessu_any _ _ _).mono ?_
    rintro e w' ⟨rfl, rfl⟩
    rw [hq]
    refine hK.out _ _ (hS) ?_
    clear hK K
    try simp only [Act.put, List.setIfInBounds_toArray, List.set_cons_zero, List.set_cons_succ]
    repeat (first | (refine Seq.Seq.skip (by rfl) ?_; (try simp only [Act.put, List.setIfInBounds_toArray, List.set_cons_zero, List.set_cons_succ])) | (refine Seq.Seq.det ?_ (by rfl) (fun w hS => ?_) ?_; rotate_left; ((try dsimp only at hS); go_simp; (try rw [if_pos (by omega)]); with_reducible rfl); (try simp only [Act.put, List.setIfInBounds_toArray, List.set_cons_zero, List.set_cons_succ])))
    refine Seq.Seq.nil ?_
    have q0 := hS.2.c1
    have q1 := hS.2.free 0
    have HE : Hid (SwS B g n cap d sb (s + 1) (w1.setCell ⟨sb, 0, none⟩ (.int .i64 ((s + 1 : Nat) : Int))) ∧ Ks (fun x => x = sb) w (w1.setCell ⟨sb, 0, none⟩ (.int .i64 ((s + 1 : Nat) : Int)))) :=
      Lib.hid ⟨⟨hS.1.keep (Below.heap_setCell _ _ _ _ (fun e => hS.1.ne hS.2 (by decide) e)), hS.2.set 0 _⟩, HK.out.trans (Ks.setCell _ _ _ _ rfl)⟩
    clear L hS hq
    go_wp2
    go_ret2
    exact ⟨rfl, HE.out.1, HE.out.2⟩
  · have hq' : ltInt x y = false := by simpa using hq
    rw [if_neg hq]
    clear hq
    go_enter Try.func90, Try.ntmps90
    go_wp2
    refine Seq.wp_region_seq (SwS B g n cap d sb s) (by kernel_rfl) (by kernel_rfl) hS ?_
    generalize w.drew = w1 at *
    repeat (first | (refine Seq.Seq.skip (by rfl) ?_; (try simp only [Act.put, List.setIfInBounds_toArray, List.set_cons_zero, List.set_cons_succ])) | (refine Seq.Seq.det ?_ (by rfl) (fun w hS => ?_) ?_; rotate_left; ((try dsimp only at hS); go_simp; (try rw [if_pos (by omega)]); with_reducible rfl); (try simp only [Act.put, List.setIfInBounds_toArray, List.set_cons_zero, List.set_cons_succ])))
    refine Seq.Seq.make (by rfl) (by rfl) (fun K Q' hK => ?_)
    go_simp
    go_at_call 69
    refine (lessu_any _ _ _).mono ?_
    rintro e w' ⟨rfl, rfl⟩
    rw [hq']
    refine hK.out _ _ (hS) ?_
    clear hK K
    try simp only [Act.put, List.setIfInBounds_toArray, List.set_cons_zero, List.set_cons_succ]
    repeat (first | (refine Seq.Seq.skip (by rfl) ?_; (try simp only [Act.put, List.setIfInBounds_toArray, List.set_cons_zero, List.set_cons_succ])) | (refine Seq.Seq.det ?_ (by rfl) (fun w hS => ?_) ?_; rotate_left; ((try dsimp only at hS); go_simp; (try rw [if_pos (by omega)]); with_reducible rfl); (try simp only [Act.put, List.setIfInBounds_toArray, List.set_cons_zero, List.set_cons_succ])))
    refine Seq.Seq.nil ?_
    have HE := Lib.hid hS
    clear L hS hq'
    go_wp2
    go_ret2
    exact ⟨rfl, HE.out, HK.out⟩
theorem order2_bd {d : Array Int} {a b s : Nat} {n : Nat} (ha : a < n) (hb : b < n) : (order2 ltInt d a b s).1 < n ∧ (order2 ltInt d a b s).2.1 < n ∧ (order2 ltInt d a b s).2.2 ≤ s + 1 := by
  unfold order2
  split
  · exact ⟨hb, ha, by simp⟩
  · exact ⟨ha, hb, by simp⟩
set_option maxHeartbeats 2000000 in
theorem smedian_any (B g n cap a b c sb s : Nat) (d : Array Int) (w : World) (h : SwS B g n cap d sb s w) (hn : n ≤ 5000) (ha : a < n) (hb : b < n) (hc : c < n) (hs : s ≤ 90) :
    Calls Try.prog 85 #[.slice (some ⟨g, 0, none⟩) n cap, .int .i64 a, .int .i64 b, .int .i64 c, .pointer (some ⟨sb, 0, none⟩)] w (fun e w' => O2P B g n cap d sb (median ltInt d a b c s).2 (.int .i64 (median ltInt d a b c s).1) w e w' ∧ (median ltInt d a b c s).1 < n ∧ (median ltInt d a b c s).2 ≤ s + 3) := by
  have hM : median ltInt d a b c s = ((order2 ltInt d (order2 ltInt d a b s).1 (order2 ltInt d (order2 ltInt d a b s).2.1 c (order2 ltInt d a b s).2.2).1 (order2 ltInt d (order2 ltInt d a b s).2.1 c (order2 ltInt d a b s).2.2).2.2).2.1, (order2 ltInt d (order2 ltInt d a b s).1 (order2 ltInt d (order2 ltInt d a b s).2.1 c (order2 ltInt d a b s).2.2).1 (order2 ltInt d (order2 ltInt d a b s).2.1 c (order2 ltInt d a b s).2.2).2.2).2.2) := rfl
  rw [hM]
  clear hM
  have c1 := sorder_any B g n cap a b sb s d w h hn ha hb (by omega)
  obtain ⟨b1, b2, b3⟩ := order2_bd (d := d) (s := s) ha hb
  generalize order2 ltInt d a b s = r1 at *
  obtain ⟨x1, y1, s1⟩ := r1
  dsimp only at *
  have c2 := fun w' h => sorder_any B g n cap y1 c sb s1 d w' h hn b2 hc (by omega)
  obtain ⟨b4, b5, b6⟩ := order2_bd (d := d) (s := s1) b2 hc
  generalize order2 ltInt d y1 c s1 = r2 at *
  obtain ⟨x2, y2, s2⟩ := r2
  dsimp only at *
  have c3 := fun w' h => sorder_any B g n cap x1 x2 sb s2 d w' h hn b1 b4 (by omega)
  obtain ⟨b7, b8, b9⟩ := order2_bd (d := d) (s := s2) b1 b4
  generalize order2 ltInt d x1 x2 s2 = r3 at *
  obtain ⟨x3, y3, s3⟩ := r3
  dsimp only at *
  have C2 := Lib.hid c2
  have C3 := Lib.hid c3
  clear c2 c3 h
  go_enter Try.func85, Try.ntmps85
  go_wp2_with fail
  refine c1.mono ?_
  rintro e w1 ⟨rfl, h1, k1⟩
  clear c1
  go_wp2_with fail
  refine (C2.out w1 h1).mono ?_
  rintro e w2 ⟨rfl, h2, k2⟩
  clear C2 h1
  go_wp2_with fail
  refine (C3.out w2 h2).mono ?_
  rintro e w3 ⟨rfl, h3, k3⟩
  have HE := Lib.hid (show SwS B g n cap d sb s3 w3 ∧ Ks (fun x => x = sb) w w3 from ⟨h3, (k1.trans k2).trans k3⟩)
  clear C3 h2 h3 k1 k2 k3
  go_wp2
  go_ret
  exact ⟨⟨rfl, HE.out.1, HE.out.2⟩, by omega, by omega⟩
set_option maxHeartbeats 1000000 in
theorem smedadj_any (B g n cap a sb s : Nat) (d : Array Int) (w : World) (h : SwS B g n cap d sb s w) (hn : n ≤ 5000) (ha : a + 1 < n) (ha1 : 1 ≤ a) (hs : s ≤ 90) :
    Calls Try.prog 84 #[.slice (some ⟨g, 0, none⟩) n cap, .int .i64 a, .pointer (some ⟨sb, 0, none⟩)] w (fun e w' => O2P B g n cap d sb (medianAdjacent ltInt d a s).2 (.int .i64 (medianAdjacent ltInt d a s).1) w e w' ∧ (medianAdjacent ltInt d a s).1 < n ∧ (medianAdjacent ltInt d a s).2 ≤ s + 3) := by
  unfold medianAdjacent
  have c1 := smedian_any B g n cap (a - 1) a (a + 1) sb s d w h hn (by omega) (by omega) ha hs
  obtain ⟨r, hr⟩ : ∃ r, r = median ltInt d (a - 1) a (a + 1) s := ⟨_, rfl⟩
  rw [← hr] at c1 ⊢
  have e1 : IntKind.i64.wrap ((a : Int) - 1) = ((a - 1 : Nat) : Int) := by rw [IntWalk.i64_in _ (by omega)]; omega
  have e2 : IntKind.i64.wrap ((a : Int) + 1) = ((a + 1 : Nat) : Int) := IntWalk.i64_in _ (by omega)
  obtain ⟨p, hp⟩ : ∃ p, p = a - 1 := ⟨_, rfl⟩
  obtain ⟨q, hq⟩ : ∃ q, q = a + 1 := ⟨_, rfl⟩
  rw [← hp] at e1 c1
  rw [← hq] at e2 c1
  clear h hr hp hq
  go_enter Try.func84, Try.ntmps84
  go_wp2_with fail
  refine c1.mono ?_
  rintro e w1 ⟨⟨rfl, h1, k1⟩, m1, m2⟩
  clear c1
  go_wp2
  go_ret
  exact ⟨⟨rfl, h1, k1⟩, m1, m2⟩
end Go.Proofs.Ytoemmppoejaapaa.Cur
namespace Go.Proofs.Ytoemmppoejaapaa.Cur
open Go.RowKit Mem Go.Sort
set_option linter.unusedVariables false
set_option maxRecDepth 100000
def hintv : Hint → Int
  | .unknown => 0
  | .increasing => 1
  | .decreasing => 2
def hints (s : Nat) : Hint := if s = 0 then .increasing else if s = 12 then .decreasing else .unknown
def CpvP (B g n cap : Nat) (d : Array Int) (r : Nat × Hint) (w : World) (e : Ending) (w' : World) : Prop := e = .returned (.tuple #[.int .i64 r.1, .int .i64 (hintv r.2)]) ∧ OwnA w' B g n cap d ∧ Below w.heap.size w w' ∧ r.1 < n
set_option maxHeartbeats 4000000 in
theorem spivot_any (B g n cap a b : Nat) (d : Array Int) (w : World) (h : OwnA w B g n cap d) (hn : n ≤ 5000) (hab : a + 8 ≤ b) (hb : b ≤ n) :
    Calls Try.prog 66 #[.slice (some ⟨g, 0, none⟩) n cap, .int .i64 a, .int .i64 b] w (CpvP B g n cap d (choosePivot ltInt d a b) w) := by
  obtain ⟨l, hl⟩ : ∃ l, l = b - a := ⟨_, rfl⟩
  obtain ⟨q, hq⟩ : ∃ q, q = l / 4 := ⟨_, rfl⟩
  obtain ⟨i, hi⟩ : ∃ i, i = a + q := ⟨_, rfl⟩
  obtain ⟨j, hj⟩ : ∃ j, j = a + q * 2 := ⟨_, rfl⟩
  obtain ⟨k, hk⟩ : ∃ k, k = a + q * 3 := ⟨_, rfl⟩
  have hC : choosePivot ltInt d a b = ((if l ≥ 50 then median ltInt d (medianAdjacent ltInt d i 0).1 (medianAdjacent ltInt d j (medianAdjacent ltInt d i 0).2).1 (medianAdjacent ltInt d k (medianAdjacent ltInt d j (medianAdjacent ltInt d i 0).2).2).1 (medianAdjacent ltInt d k (medianAdjacent ltInt d j (medianAdjacent ltInt d i 0).2).2).2 else median ltInt d i j k 0).1,
      hints (if l ≥ 50 then median ltInt d (medianAdjacent ltInt d i 0).1 (medianAdjacent ltInt d j (medianAdjacent ltInt d i 0).2).1 (medianAdjacent ltInt d k (medianAdjacent ltInt d j (medianAdjacent ltInt d i 0).2).2).1 (medianAdjacent ltInt d k (medianAdjacent ltInt d j (medianAdjacent ltInt d i 0).2).2).2 else median ltInt d i j k 0).2) := by
    unfold choosePivot hints
    simp only [← hl, ← hq, Nat.mul_one, ← hi, ← hj, ← hk]
    rw [if_pos (by omega)]
  rw [hC]
  clear hC
  have e1 : IntKind.i64.wrap ((b : Int) - a) = (l : Int) := by rw [IntWalk.i64_in _ (by omega)]; omega
  have e2 : (l : Int).tdiv 4 = (q : Int) := by rw [Int.tdiv_eq_ediv_of_nonneg (by omega)]; omega
  have e3 : IntKind.i64.wrap (q : Int) = (q : Int) := IntWalk.i64_in _ (by omega)
  have e4 : IntKind.i64.wrap ((q : Int) * 2) = (q : Int) * 2 := IntWalk.i64_in _ (by omega)
  have e5 : IntKind.i64.wrap ((q : Int) * 3) = (q : Int) * 3 := IntWalk.i64_in _ (by omega)
  have e6 : IntKind.i64.wrap ((a : Int) + q) = (i : Int) := by rw [IntWalk.i64_in _ (by omega)]; omega
  have e7 : IntKind.i64.wrap ((a : Int) + (q : Int) * 2) = (j : Int) := by rw [IntWalk.i64_in _ (by omega)]; omega
  have e8 : IntKind.i64.wrap ((a : Int) + (q : Int) * 3) = (k : Int) := by rw [IntWalk.i64_in _ (by omega)]; omega
  have hi1 : 1 ≤ i ∧ i + 1 < n := by omega
  have hj1 : 1 ≤ j ∧ j + 1 < n := by omega
  have hk1 : 1 ≤ k ∧ k + 1 < n := by omega
  have l8 : (8 : Int) ≤ l := by omega
  have h0 : SwS B g n cap d w.heap.size 0 (w.alloc (.cells #[.int .i64 0] 3)) := ⟨h.below (below_one w _), Blk.new w #[.int .i64 0] 3⟩
  clear h hq hi hj hk
  by_cases h50 : l ≥ 50
  · rw [if_pos h50]
    have l50 : (50 : Int) ≤ l := by omega
    have c1 := smedadj_any B g n cap i w.heap.size 0 d _ h0 hn hi1.2 hi1.1 (by omega)
    generalize medianAdjacent ltInt d i 0 = r1 at *
    obtain ⟨x1, s1⟩ := r1
    dsimp only at *
    have C2 := Lib.hid (fun w' h hs => smedadj_any B g n cap j w.heap.size s1 d w' h hn hj1.2 hj1.1 hs)
    generalize medianAdjacent ltInt d j s1 = r2 at *
    obtain ⟨x2, s2⟩ := r2
    dsimp only at *
    have C3 := Lib.hid (fun w' h hs => smedadj_any B g n cap k w.heap.size s2 d w' h hn hk1.2 hk1.1 hs)
    generalize medianAdjacent ltInt d k s2 = r3 at *
    obtain ⟨x3, s3'⟩ := r3
    dsimp only at *
    have C4 := Lib.hid (fun w' h h1 h2 h3 hs => smedian_any B g n cap x1 x2 x3 w.heap.size s3' d w' h hn h1 h2 h3 hs)
    obtain ⟨r, hr⟩ : ∃ r, r = median ltInt d x1 x2 x3 s3' := ⟨_, rfl⟩
    rw [← hr] at C4 ⊢
    obtain ⟨pv, s3⟩ := r
    dsimp only at *
    clear hr h50 hl h0
    go_enter Try.func66, Try.ntmps66
    go_wp2_with fail
    refine c1.mono ?_
    rintro e w1 ⟨⟨rfl, h1, k1⟩, m1, t1⟩
    clear c1
    go_wp2_with fail
    refine (C2.out w1 h1 (by omega)).mono ?_
    rintro e w2 ⟨⟨rfl, h2, k2⟩, m2, t2⟩
    clear C2 h1
    go_wp2_with fail
    refine (C3.out w2 h2 (by omega)).mono ?_
    rintro e w3 ⟨⟨rfl, h3, k3⟩, m3, t3⟩
    clear C3 h2
    go_wp2_with fail
    refine (C4.out w3 h3 m1 m2 m3 (by omega)).mono ?_
    rintro e w4 ⟨⟨rfl, h4, k4⟩, m4, t4⟩
    have HK := Lib.hid (((k1.trans k2).trans k3).trans k4)
    have HP := Lib.hid m4
    clear C4 h3 k1 k2 k3 k4 m1 m2 m3 m4
    have h3 := h4
    clear h4
    have H3 := Lib.hid h3
    have hbw := Lib.hid (Ks.below (below_one w (.cells #[.int .i64 0] 3)) (Nat.le_refl _) HK.out (fun x hx => by have e : x = w.heap.size := hx; omega))
    have s0 := h3.2.c1
    have hpv := HP.out
    clear h3 HK
    rcases Nat.eq_zero_or_pos s3 with hs0 | hs0
    · subst hs0
      have hh : hints 0 = .increasing := rfl
      rw [hh]
      clear hh
      go_wp2
      go_ret2
      exact ⟨rfl, H3.out.1, hbw.out, hpv⟩
    · by_cases hs12 : s3 = 12
      · subst hs12
        have hh : hints 12 = .decreasing := rfl
        rw [hh]
        clear hh
        go_wp2
        go_ret2
        exact ⟨rfl, H3.out.1, hbw.out, hpv⟩
      · have q0 : ((s3 : Int) == 0) = false := by rw [beq_eq_false_iff_ne]; omega
        have q1 : ((s3 : Int) == 12) = false := by rw [beq_eq_false_iff_ne]; omega
        have hh : hints s3 = .unknown := by unfold hints; rw [if_neg (by omega), if_neg hs12]
        have hH := Lib.hid hh
        clear hh hs12 hs0
        go_wp2
        go_ret2
        refine ⟨?_, H3.out.1, hbw.out, hpv⟩
        show _ = Ending.returned (.tuple #[.int .i64 pv, .int .i64 (hintv (hints s3))])
        rw [hH.out]
        rfl
  · rw [if_neg h50]
    have l50 : ¬ (50 : Int) ≤ l := by omega
    have c1 := smedian_any B g n cap i j k w.heap.size 0 d _ h0 hn (by omega) (by omega) (by omega) (by omega)
    obtain ⟨r, hr⟩ : ∃ r, r = median ltInt d i j k 0 := ⟨_, rfl⟩
    rw [← hr] at c1 ⊢
    obtain ⟨pv, s3⟩ := r
    dsimp only at *
    clear hr h50 hl h0
    go_enter Try.func66, Try.ntmps66
    go_wp2_with fail
    refine c1.mono ?_
    rintro e w4 ⟨⟨rfl, h3, k4⟩, m4, t4⟩
    have HK := Lib.hid k4
    have HP := Lib.hid m4
    clear c1 k4 m4
    have H3 := Lib.hid h3
    have hbw := Lib.hid (Ks.below (below_one w (.cells #[.int .i64 0] 3)) (Nat.le_refl _) HK.out (fun x hx => by have e : x = w.heap.size := hx; omega))
    have s0 := h3.2.c1
    have hpv := HP.out
    clear h3 HK
    rcases Nat.eq_zero_or_pos s3 with hs0 | hs0
    · subst hs0
      have hh : hints 0 = .increasing := rfl
      rw [hh]
      clear hh
      go_wp2
      go_ret2
      exact ⟨rfl, H3.out.1, hbw.out, hpv⟩
    · by_cases hs12 : s3 = 12
      · subst hs12
        have hh : hints 12 = .decreasing := rfl
        rw [hh]
        clear hh
        go_wp2
        go_ret2
        exact ⟨rfl, H3.out.1, hbw.out, hpv⟩
      · have q0 : ((s3 : Int) == 0) = false := by rw [beq_eq_false_iff_ne]; omega
        have q1 : ((s3 : Int) == 12) = false := by rw [beq_eq_false_iff_ne]; omega
        have hh : hints s3 = .unknown := by unfold hints; rw [if_neg (by omega), if_neg hs12]
        have hH := Lib.hid hh
        clear hh hs12 hs0
        go_wp2
        go_ret2
        refine ⟨?_, H3.out.1, hbw.out, hpv⟩
        show _ = Ending.returned (.tuple #[.int .i64 pv, .int .i64 (hintv (hints s3))])
        rw [hH.out]
        rfl
end Go.Proofs.Ytoemmppoejaapaa.Cur
