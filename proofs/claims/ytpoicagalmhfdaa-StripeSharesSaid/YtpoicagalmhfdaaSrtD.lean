/- slices.Sort at numbers of 64 digits: the heap sort, whole. -/
import Derived.Test.YtpoicagalmhfdaaSrtC
namespace Go.Proofs.Ytpoicagalmhfdaa.Cur
open Go.RowKit Mem Go.Sort
set_option linter.unusedVariables false
set_option maxRecDepth 100000


theorem SrP.get {B g n cap : Nat} {d : Array Int} {w w' : World} {e : Ending} (h : SrP B g n cap d w e w') : e = .returned (.tuple #[]) ∧ OwnA w' B g n cap d ∧ Ks (fun x => x = g) w w' := h
set_option maxHeartbeats 4000000 in
theorem sheap_any (B g n cap a b : Nat) (d : Array Int) (w : World) (h : OwnA w B g n cap d) (hn : n ≤ 1000) (hab : a < b) (hb : b ≤ n) :
    Calls Try.prog 83 #[.slice (some ⟨g, 0, none⟩) n cap, .int .i64 a, .int .i64 b] w (SrP B g n cap (heapSort ltInt d a b) w) := by
  unfold heapSort
  obtain ⟨hi, hhi⟩ : ∃ hi, hi = b - a := ⟨_, rfl⟩
  rw [← hhi]
  obtain ⟨F, hF⟩ : ∃ F, F = heapPop ltInt a hi (heapBuild ltInt hi a ((hi - 1) / 2 + 1) d) := ⟨_, rfl⟩
  rw [← hF]
  obtain ⟨D, hD⟩ : ∃ D, D = heapBuild ltInt hi a ((hi - 1) / 2 + 1) d := ⟨_, rfl⟩
  rw [← hD] at hF
  have HF := Lib.hid hF
  have H0 : Hid (OwnA w B g n cap d ∧ heapBuild ltInt hi a ((hi - 1) / 2 + 1) d = D ∧ Ks (fun x => x = g) w w) := Lib.hid ⟨h, hD.symm, Ks.refl _ _⟩
  have e1 : IntKind.i64.wrap ((b : Int) - a) = (hi : Int) := by rw [IntWalk.i64_in _ (by omega)]; omega
  have e2 : IntKind.i64.wrap ((hi : Int) - 1) = (hi : Int) - 1 := IntWalk.i64_in _ (by omega)
  have hh1 : 1 ≤ hi := by omega
  have hh2 : a + hi ≤ n := by omega
  have hh3 : hi ≤ 1000 := by omega
  obtain ⟨m, hm⟩ : ∃ m, m = (hi - 1) / 2 := ⟨_, rfl⟩
  rw [← hm] at H0
  have e3 : ((hi : Int) - 1).tdiv 2 = (m : Int) := by rw [Int.tdiv_eq_ediv_of_nonneg (by omega)]; omega
  have hm1 : m ≤ hi := by omega
  have e4 : IntKind.i64.wrap (m : Int) = (m : Int) := IntWalk.i64_in _ (by omega)
  clear h hD hF hhi hm
  go_enter Try.func83, Try.ntmps83
  go_wp2
  go_loopw [9] (fun x wr => ∃ (k : Nat) (d : Array Int), k ≤ hi + 1 ∧ x = .int .i64 ((k : Int) - 1) ∧ Hid (OwnA wr B g n cap d ∧ heapBuild ltInt hi a k d = D ∧ Ks (fun x => x = g) w wr)) (fun x _ => (intOf x + 1).toNat)
  case atStart => exact ⟨m + 1, d, by omega, by first | rfl | (congr 1; omega) | go_num, H0⟩
  case round =>
    clear H0
    obtain ⟨k, d, hk, rfl, HR⟩ := hrel
    rcases k with _ | k
    · rw [show (((0 : Nat) : Int) - 1) = (-1 : Int) from rfl]
      have HE : Hid (OwnA wr B g n cap D ∧ Ks (fun x => x = g) w wr) := Lib.hid ⟨by rw [← HR.out.2.1]; exact HR.out.1, HR.out.2.2⟩
      clear HR hk
      have H1 : Hid (OwnA wr B g n cap D ∧ heapPop ltInt a hi D = F ∧ Ks (fun x => x = g) w wr) := Lib.hid ⟨HE.out.1, HF.out.symm, HE.out.2⟩
      clear HE
      go_wp2
      go_loopw [10] (fun x wr => ∃ (k : Nat) (d : Array Int), k ≤ hi ∧ x = .int .i64 ((k : Int) - 1) ∧ Hid (OwnA wr B g n cap d ∧ heapPop ltInt a k d = F ∧ Ks (fun x => x = g) w wr)) (fun x _ => (intOf x + 1).toNat)
      case atStart => exact ⟨hi, D, by omega, rfl, H1⟩
      case round =>
        clear H1
        obtain ⟨k, d, hk, rfl, HR⟩ := hrel
        rcases k with _ | k
        · have HE : Hid (OwnA wr B g n cap F ∧ Ks (fun x => x = g) w wr) := Lib.hid ⟨by rw [← HR.out.2.1]; exact HR.out.1, HR.out.2.2⟩
          clear HR hk
          go_wp2
          go_end0
          exact ⟨rfl, HE.out.1, HE.out.2⟩
        · have e5 : IntKind.i64.wrap ((k : Int) - 1) = (k : Int) - 1 := IntWalk.i64_in _ (by omega)
          have e6 : (((k + 1 : Nat) : Int) - 1) = (k : Int) := by omega
          rw [e6]
          obtain ⟨ho, hF, hks⟩ := HR.out
          have hk0 : (0 : Int) ≤ k := by omega
          obtain ⟨q, hq⟩ : ∃ q, q = a + k := ⟨_, rfl⟩
          have e7 : IntKind.i64.wrap ((a : Int) + k) = (q : Int) := by rw [IntWalk.i64_in _ (by omega)]; omega
          have l0 : (a : Int) < n := by omega
          have l1 : (q : Int) < n := by omega
          have mq : a + k ≤ n := by omega
          have hF2 : heapPop ltInt a (k + 1) d = heapPop ltInt a k (siftDown ltInt k a 0 (Go.Sort.swp d a q)) := by rw [hq]; rfl
          rw [hF2] at hF
          have HFB := Lib.hid hF
          have hsw := (ho.swp a q).drew
          have HKS := Lib.hid ((Ks.two (i := a) (j := q) (u := .int .u64 d[q]!) (v := .int .u64 d[a]!) hks).trans (Ks.of_below (below_one' _)))
          have c0 := ho.cell (i := a) (by omega)
          have c1 := ho.cell (i := q) (by omega)
          have f0 := ho.free a
          have f1 := ho.free q
          have hkk : k ≤ 1000 := by omega
          have hsf := ssift_any B g n cap k a 0 (Go.Sort.swp d a q) _ hsw hn mq (by omega)
          obtain ⟨x, hx⟩ : ∃ x, x = d[a]! := ⟨_, rfl⟩
          obtain ⟨y, hy⟩ : ∃ y, y = d[q]! := ⟨_, rfl⟩
          rw [← hx] at c0 hsf HKS
          rw [← hy] at c1 hsf HKS
          by_cases hk1 : 0 < k
          · have maq : a < q := by omega
            clear HR ho hF hF2 hks e6 hsw hq hx hy
            go_wp2
            go_region
            go_wp2_with fail
            refine hsf.mono ?_
            rintro e w2 ⟨rfl, ho2, hk2⟩
            have HEND : Hid (OwnA w2 B g n cap (siftDown ltInt k a 0 (Go.Sort.swp d a q)) ∧ heapPop ltInt a k (siftDown ltInt k a 0 (Go.Sort.swp d a q)) = F ∧ Ks (fun x => x = g) w w2) := Lib.hid ⟨ho2, HFB.out, HKS.out.trans hk2⟩
            clear hsf ho2 hk2
            go_wp2
            go_roundw
            case rel => exact ⟨k, _, by omega, rfl, HEND⟩
            case measure => first | (simp [intOf]; done) | (simp [intOf]; omega)
          · have hk00 : k = 0 := by omega
            have HQ : Hid (q = a) := Lib.hid (by omega)
            subst hk00
            rw [HQ.out] at c1 f1 HFB hsf HKS e7
            have hxy : y = x := by rw [hx, hy, HQ.out]
            rw [hxy] at hsf HKS
            clear HR ho hF hF2 hks e6 hsw hq hx hy c1 f1 l1 hk1 hxy HQ
            have e8 : IntKind.i64.wrap ((a : Int) + ((0 : Nat) : Int)) = (a : Int) := by rw [IntWalk.i64_in _ (by omega)]; omega
            go_wp2
            go_region
            go_wp2_with fail
            refine hsf.mono ?_
            rintro e w2 ⟨rfl, ho2, hk2⟩
            have HEND : Hid (OwnA w2 B g n cap (siftDown ltInt 0 a 0 (Go.Sort.swp d a a)) ∧ heapPop ltInt a 0 (siftDown ltInt 0 a 0 (Go.Sort.swp d a a)) = F ∧ Ks (fun x => x = g) w w2) := Lib.hid ⟨ho2, HFB.out, HKS.out.trans hk2⟩
            clear hsf ho2 hk2
            go_wp2
            go_roundw
            case rel => exact ⟨0, _, by omega, rfl, HEND⟩
            case measure => first | (simp [intOf]; done) | (simp [intOf]; omega)
    · have e5 : IntKind.i64.wrap ((k : Int) - 1) = (k : Int) - 1 := IntWalk.i64_in _ (by omega)
      have e6 : (((k + 1 : Nat) : Int) - 1) = (k : Int) := by omega
      rw [e6]
      obtain ⟨ho, hF, hks⟩ := HR.out
      have hk0 : (0 : Int) ≤ k := by omega
      have hsf := ssift_any B g n cap hi a k d wr ho hn hh2 (by omega)
      have HFB := Lib.hid hF
      have HKS := Lib.hid hks
      clear HR ho hF hks e6
      go_wp2_with fail
      refine hsf.mono ?_
      rintro e w2 ⟨rfl, ho2, hk2⟩
      have HEND : Hid (OwnA w2 B g n cap (siftDown ltInt hi a k d) ∧ heapBuild ltInt hi a k (siftDown ltInt hi a k d) = D ∧ Ks (fun x => x = g) w w2) := Lib.hid ⟨ho2, HFB.out, HKS.out.trans hk2⟩
      clear hsf ho2 hk2
      go_wp2
      go_roundw
      case rel => exact ⟨k, _, by omega, rfl, HEND⟩
      case measure => first | (simp [intOf]; done) | (simp [intOf]; omega)
end Go.Proofs.Ytpoicagalmhfdaa.Cur
