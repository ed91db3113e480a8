/- A node in the place of another one: the closure. -/
import Derived.Test.YtghlediibhnloaaSwpF
namespace Go.Proofs.Ytghlediibhnloaa.Cur
open Go.RowKit Mem
set_option linter.unusedVariables false
set_option maxRecDepth 100000


/-- The first k stripes are changed. -/
def lk (o d : Int) (L : List Stp) (k : Nat) : List Stp := L.mapIdx fun i s => if i < k then swst o d s else s
theorem lk_len (o d : Int) (L : List Stp) (k : Nat) : (lk o d L k).length = L.length := by unfold lk; simp
theorem lk_at {o d : Int} {L : List Stp} {k i : Nat} (hi : i < L.length) : (lk o d L k).getD i stp0 = if i < k then swst o d (L.getD i stp0) else L.getD i stp0 := by
  unfold lk
  rw [List.getD_eq_getElem?_getD, List.getElem?_mapIdx, List.getD_eq_getElem?_getD, List.getElem?_eq_getElem hi]; rfl
theorem lk_zero (o d : Int) (L : List Stp) : lk o d L 0 = L := by
  unfold lk
  apply List.ext_getElem (by simp)
  intro i h1 h2
  simp
theorem lk_all (o d : Int) (L : List Stp) : lk o d L L.length = swp o d L := by
  unfold lk swp
  apply List.ext_getElem (by simp)
  intro i h1 h2
  simp at h1
  simp [h1]
theorem lk_succ {o d : Int} {L : List Stp} {k : Nat} (hk : k < L.length) : lk o d L (k + 1) = (lk o d L k).set k (swst o d ((lk o d L k).getD k stp0)) := by
  have e : (lk o d L k).getD k stp0 = L.getD k stp0 := by rw [lk_at hk, if_neg (by omega)]
  rw [e]
  unfold lk
  apply List.ext_getElem (by simp)
  intro i h1 h2
  have hi : i < L.length := by simpa using h1
  rw [List.getElem_set, List.getElem_mapIdx, List.getElem_mapIdx]
  by_cases hik : k = i
  · subst hik
    rw [if_pos rfl, if_pos (by omega), List.getD_eq_getElem?_getD, List.getElem?_eq_getElem hi]; rfl
  · rw [if_neg hik]
    by_cases h : i < k
    · rw [if_pos h, if_pos (by omega)]
    · rw [if_neg h, if_neg (by omega)]
theorem sws_len (o d : Int) (S : List (List Int)) : (sws o d S).length = S.length := by unfold sws; simp
theorem lk_slen (o d : Int) (L : List Stp) (k : Nat) : slen (lk o d L k) = slen L := by
  funext i
  show ((lk o d L k).getD i stp0).2.2.length = (L.getD i stp0).2.2.length
  by_cases hi : i < L.length
  · rw [lk_at hi]
    by_cases h : i < k
    · rw [if_pos h]; show (sws o d (L.getD i stp0).2.2).length = _; rw [sws_len]
    · rw [if_neg h]
  · rw [List.getD_eq_getElem?_getD, List.getElem?_eq_none (by rw [lk_len]; omega), List.getD_eq_getElem?_getD, List.getElem?_eq_none (by omega)]
def ScS (Q c1 c2 : Nat) (e : Int) (v : Value) (o d : Int) (w : World) : Prop := Blk w Q #[.int .u64 e, v] 25 ∧ Blk w c1 #[.int .u64 o] 22 ∧ Blk w c2 #[.int .u64 d] 22
theorem ScS.below {Q c1 c2 : Nat} {e : Int} {v : Value} {o d : Int} {w w' : World} (h : ScS Q c1 c2 e v o d w) (hb : Below w.heap.size w w') : ScS Q c1 c2 e v o d w' := ⟨h.1.below hb, h.2.1.below hb, h.2.2.below hb⟩
set_option maxHeartbeats 2000000 in
theorem swapc_any (W Q c1 c2 : Nat) (e : Int) (v : Value) (L : List Stp) (a : Nat → Nat) (b : Nat → Nat → Nat) (o d : Int) (w : World) (hS : ScS Q c1 c2 e v o d w) (hD : StpD w W v L a b) (hA : Apt L.length (slen L) a b) (hok : ∀ i, i < L.length → stok (L.getD i stp0) = true) (hL : 1 ≤ L.length) (hL2 : L.length ≤ 1000)
    (hQ : W ≤ Q) (hc1 : c1 < W) (hc2 : c2 < W) (hd : 0 ≤ d ∧ d < 18446744073709551616) :
    Calls Try.prog 69 #[.pointer (some ⟨Q, 0, none⟩), .pointer (some ⟨c1, 0, none⟩), .pointer (some ⟨c2, 0, none⟩)] w (ChPost W Q e (swp o d L) w) := by
  obtain ⟨g, cap, rfl, hcap, hgW, hgl, _⟩ := hD.form (by omega)
  obtain ⟨n, hn⟩ : ∃ n, n = L.length := ⟨_, rfl⟩
  rw [← hn] at hS hD hcap hL hL2
  have HN := Lib.hid hn
  have HA := Lib.hid hA
  have HOK := Lib.hid hok
  have H0 : Hid (ScS Q c1 c2 e (.slice (some ⟨g, 0, none⟩) n cap) o d w ∧ StpD w W (.slice (some ⟨g, 0, none⟩) n cap) (lk o d L 0) a b ∧ Ks (fun x => W ≤ x) w w) := Lib.hid ⟨hS, by rw [lk_zero]; exact hD, Ks.refl _ _⟩
  obtain ⟨q0, q1⟩ := hS.1.c2
  clear hD hA hok hn
  go_enter Try.func69, Try.ntmps69
  go_wp2
  clear q0 q1 hS
  go_loopw [10] (fun i wr => ∃ k : Nat, k ≤ n ∧ i = .int .i64 k ∧ Hid (ScS Q c1 c2 e (.slice (some ⟨g, 0, none⟩) n cap) o d wr ∧ StpD wr W (.slice (some ⟨g, 0, none⟩) n cap) (lk o d L k) a b ∧ Ks (fun x => W ≤ x) w wr)) (fun i _ => n - (intOf i).toNat)
  case atStart => exact ⟨0, by omega, rfl, H0⟩
  case round =>
    clear H0
    obtain ⟨k, hk, rfl, HR⟩ := hrel
    obtain ⟨hS, hD, hKs⟩ := HR.out
    clear HR
    by_cases hlt : k < n
    · have e2 : (k : Int) < n := by omega
      have e3 : IntKind.i64.wrap ((k : Int) + 1) = ((k + 1 : Nat) : Int) := IntWalk.i64_in _ (by omega)
      have hkL : k < L.length := by rw [← HN.out]; exact hlt
      have hSD := hS.below (below_one' wr)
      have hDD := hD.below (below_one' wr)
      have hlts := hDD.lts (i := k) (by rw [lk_len]; exact hkL)
      obtain ⟨g', cap', hv, _, _, hgl2, _⟩ := hDD.form (by rw [lk_len]; omega)
      injection hv with hv1 hv2 hv3
      clear hv2 hv3
      injection hv1 with hv1
      injection hv1 with hv1
      subst hv1
      have hlk : (lk o d L k).getD k stp0 = L.getD k stp0 := by rw [lk_at hkL, if_neg (by omega)]
      have hrep := replace_any W g n cap (lk o d L k) a b k o d wr.drew hDD (by rw [lk_len, lk_slen]; exact HA.out) (by rw [lk_len]; exact hkL) (by rw [hlk]; exact HOK.out k hkL) hd hgl2
      unfold RplPost at hrep
      rw [← lk_succ hkL] at hrep
      have HREP := Lib.hid hrep
      have HLTS := Lib.hid hlts
      have HKS := Lib.hid (hKs.trans (Ks.of_below (below_one' wr)))
      have L1 : ∀ w', ScS Q c1 c2 e (.slice (some ⟨g, 0, none⟩) n cap) o d w' → w'.cell? ⟨Q, 1, none⟩ = some (.slice (some ⟨g, 0, none⟩) n cap) ∧ w'.cell? ⟨c1, 0, none⟩ = some (.int .u64 o) ∧ w'.cell? ⟨c2, 0, none⟩ = some (.int .u64 d) := fun w' h => ⟨h.1.c2.2, h.2.1.c1, h.2.2.c1⟩
      clear hS hD hKs hDD hrep hlts hlk
      go_wp2
      refine Seq.wp_region_last (ScS Q c1 c2 e (.slice (some ⟨g, 0, none⟩) n cap) o d) (by kernel_rfl) (by kernel_rfl) (by kernel_rfl) hSD ?_
      generalize wr.drew = wd at *
      repeat (first | (refine Seq.SeqE.skip (by rfl) ?_; (try simp only [Act.put, List.setIfInBounds_toArray, List.set_cons_zero, List.set_cons_succ])) | (refine Seq.SeqE.det ?_ (by rfl) (fun w hS => ?_) ?_; rotate_left; ((try dsimp only at hS); go_simp; (try rw [if_pos (by omega)]); with_reducible rfl); (try simp only [Act.put, List.setIfInBounds_toArray, List.set_cons_zero, List.set_cons_succ])))
      refine Seq.SeqE.last (by rfl) (by rfl) (fun K Q' hK => ?_)
      go_simp
      go_at_call 70
      refine HREP.out.mono ?_
      rintro en w5 ⟨rfl, hD5, hK5⟩
      have hnb : ∀ x T c, Blk wd x c T → (x < W ∨ T ≠ 22) → w5.heap[x]? = wd.heap[x]? := fun x T c hx hT => hK5.block x hx.lt fun ⟨l, hl, e⟩ => by
        obtain ⟨h1, h2, cb, h3⟩ := HLTS.out.2 l hl
        rcases hT with hT | hT
        · omega
        · exact blk_ne hx h3 hT e
      have HEND : Hid (ScS Q c1 c2 e (.slice (some ⟨g, 0, none⟩) n cap) o d w5 ∧ StpD w5 W (.slice (some ⟨g, 0, none⟩) n cap) (lk o d L (k + 1)) a b ∧ Ks (fun x => W ≤ x) w w5) := Lib.hid ⟨⟨(hnb _ _ _ hSD.1 (.inr (by decide))).trans hSD.1, (hnb _ _ _ hSD.2.1 (.inl hc1)).trans hSD.2.1, (hnb _ _ _ hSD.2.2 (.inl hc2)).trans hSD.2.2⟩, hD5, HKS.out.trans' hK5 (fun x _ ⟨l, hl, e⟩ => by
        obtain ⟨h1, _⟩ := HLTS.out.2 l hl
        show W ≤ x
        rw [e]; exact h1)⟩
      clear hD5 hK5 hnb
      refine hK.out _ _ ?_
      clear hK K
      try simp only [Act.put, List.setIfInBounds_toArray, List.set_cons_zero, List.set_cons_succ]
      clear L1 hSD
      go_wp2
      go_roundw
      case rel => exact ⟨k + 1, by omega, by go_num, HEND⟩
      case measure => simp [intOf]; omega
    · obtain rfl : k = n := by omega
      have HEND := Lib.hid (show Blk wr Q #[.int .u64 e, .slice (some ⟨g, 0, none⟩) k cap] 25 ∧ OwnPq wr W Q (.slice (some ⟨g, 0, none⟩) k cap) (swp o d L) by
        rw [HN.out, lk_all, ← HN.out] at hD
        exact ⟨hS.1, hD.own (by rw [swp_len, ← HN.out]; omega) hS.1⟩)
      have HKS := Lib.hid hKs
      clear hS hD hKs
      go_wp2
      go_end0
      exact ⟨_, rfl, HKS.out, HEND.out.1, HEND.out.2⟩
end Go.Proofs.Ytghlediibhnloaa.Cur
