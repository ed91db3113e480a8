/- Projections that grow: the next one, and Grow. -/
import Derived.Test.YtghlediibhnloaaPrjN
import Derived.Test.YtghlediibhnloaaPrjB
namespace Go.Proofs.Ytghlediibhnloaa.Cur
open Go.RowKit Mem
set_option linter.unusedVariables false
set_option maxRecDepth 100000


theorem endv_no {e : Int} {G : List Stp} (h : nxk e = false) : endv e G = (18, prj0) := by unfold endv; rw [h]; rfl
theorem endv_bad {e : Int} {G : List Stp} (h : nxk e = true) (h2 : prok (e + 1, G) = false) : endv e G = (3, prj0) := by unfold endv; rw [h, h2]; rfl
theorem endv_ok {e : Int} {G : List Stp} (h : nxk e = true) (h2 : prok (e + 1, G) = true) : endv e G = (0, (e + 1, G)) := by unfold endv; rw [h, h2]; rfl
theorem OwnPq.of {w : World} {W : Nat} {v : Value} {L : List Stp} (h : OwnQ StE 60 w W (fun k => W ≤ k ∧ v.ownBlock ≠ some k) v L) : OwnPq w W w.heap.size v L := by
  have hlt : ∀ g, v.ownBlock = some g → g < w.heap.size := by
    obtain ⟨cs, h1, h2, h3⟩ := h
    exact fun g hg => (World.ownsRow.lt h2 g hg).2
  refine ⟨h.mono (fun b hb hl => ⟨hb.1, by omega, hb.2⟩) (fun g hg hh => hh.2.2 hg), fun e => by have := hlt _ e; omega⟩
theorem OwnPq.pts {w : World} {W Q : Nat} {v : Value} {L : List Stp} (h : OwnPq w W Q v L) : ∃ A c, v = .slice A L.length c ∧ L.length ≤ c ∧ (A = none → c = 0) ∧ Pts w (fun k => W ≤ k) A L.length L := by
  have hge := h.ge
  obtain ⟨A, c, e, h1, h2, h3⟩ := OwnQ.slice h.1
  exact ⟨A, c, e, h1, h2, rfl, h3.mono fun b hb _ => by
    rcases hb with hb | hb
    · exact hb.1
    · exact (hge b hb).1⟩
theorem plen.up {M N : Nat} {L : List Stp} (h : plen M L) (hM : M ≤ N) : plen N L := fun s hs => ⟨Nat.le_trans (h s hs).1 hM, fun l hl => Nat.le_trans ((h s hs).2 l hl) hM⟩
theorem grown_plen {M : Nat} {L : List Stp} {t : Int} {S : List (List Int)} (h : plen M L) (h1 : S.length ≤ M) (h2 : ∀ l ∈ S, l.length ≤ M) : plen M (grown L t S) := by
  intro s hs
  unfold grown at hs
  rcases List.mem_append.1 hs with hs | hs
  · rcases List.mem_or_eq_of_mem_set hs with hs | rfl
    · exact h s hs
    · exact h.at_ _
  · rw [List.mem_singleton] at hs; subst hs; exact ⟨h1, h2⟩
theorem grown_len (L : List Stp) (t : Int) (S : List (List Int)) : (grown L t S).length = L.length + 1 := by unfold grown; simp

set_option maxHeartbeats 4000000 in
theorem renewg_any (e : Int) (A : Option Addr) (n m : Nat) (L G : List Stp) (c1 c2 c3 : Nat) (w : World) (hz : Pts w (fun b => b < w.heap.size) A n L) (hm : n ≤ m) (hnil : A = none → m = 0) (hn : n ≤ 1000) (hlen : plen 1000 L) (e0 : 0 ≤ e) (e1 : e < 18446744073709551616)
    (hG : plen 1000 G) (hGn : G.length ≤ 2000)
    (hcon : ∀ (W Q : Nat) (v : Value) (w1 : World), w.heap.size ≤ W → W ≤ Q → Below w.heap.size w w1 → Blk w1 Q #[.int .u64 (e + 1), v] 25 → OwnPq w1 W Q v L → Calls Try.prog 64 #[.pointer (some ⟨Q, 0, none⟩), .pointer (some ⟨c1, 0, none⟩), .pointer (some ⟨c2, 0, none⟩), .pointer (some ⟨c3, 0, none⟩)] w1 (ChPost W Q (e + 1) G w1)) :
    Calls Try.prog 63 #[pragg e A n m, .func (.func 64) #[] #[.pointer (some ⟨c1, 0, none⟩), .pointer (some ⟨c2, 0, none⟩), .pointer (some ⟨c3, 0, none⟩)]] w (PePost (fun k => w.heap.size ≤ k) (endv e G) w) := by
  have hX := (Blk.new w (prc e A n m) 25).alloc (.cells (prc 0 none 0 0) 25)
  have hY := Blk.new (w.alloc (.cells (prc e A n m) 25)) (prc 0 none 0 0) 25
  rw [show (w.alloc (.cells (prc e A n m) 25)).heap.size = w.heap.size + 1 by simp] at hY
  have hb := below_two w (.cells (prc e A n m) 25) (.cells (prc 0 none 0 0) 25)
  have hw0 : ((w.alloc (.cells (prc e A n m) 25)).alloc (.cells (prc 0 none 0 0) 25)).heap.size = w.heap.size + 2 := by simp
  have HZ := Lib.hid hz
  have HCON := Lib.hid hcon
  have HG := Lib.hid hG
  have HLEN := Lib.hid hlen
  obtain ⟨x0, x1⟩ := hX.c2
  obtain ⟨R, hR⟩ : ∃ R, R = endv e G := ⟨_, rfl⟩
  rw [← hR]
  have HR := Lib.hid hR
  clear hz hcon hG hlen hR
  go_enter Try.func63, Try.ntmps63
  go_wp2_with fail
  generalize (w.alloc (.cells (prc e A n m) 25)).alloc (.cells (prc 0 none 0 0) 25) = w0 at *
  refine (enext_any e e0 e1 _).mono ?_
  rintro en w' ⟨rfl, rfl⟩
  by_cases hnx : nxk e = true
  case neg =>
    have hnx' : nxk e = false := by simpa using hnx
    clear hnx
    have HV := Lib.hid (endv_no (G := G) hnx')
    rw [hnx']
    obtain ⟨y0, y1⟩ := hY.c2
    obtain ⟨f0, f1⟩ := hY.f2
    go_wp2
    refine bodyPost_ret (v := .tuple #[pragg 0 none 0 0, .int .i64 18]) (by simp [results, Try.results63, go_sem, y0, y1]) rfl ?_
    rw [HR.out, HV.out]
    refine PePost.zero ?_
    iterate 2 (refine Below.setCell ?_ (by simp) _)
    exact hb
  have hv : nxv e = e + 1 := by unfold nxv; rw [hnx]; rfl
  have hE : e + 1 < 18446744073709551616 := by
    have := of_decide_eq_true hnx
    omega
  rw [hv, hnx]
  have HNX := Lib.hid hnx
  obtain ⟨E, hEE⟩ : ∃ E, E = e + 1 := ⟨_, rfl⟩
  rw [← hEE] at HCON hE ⊢
  have HEE := Lib.hid hEE
  have hE0 : 0 ≤ E := by omega
  clear hv hnx hEE
  go_wp2_with fail
  with_reducible refine (prcopyo_any e A n m L w0 ((HZ.out.below hb).mono fun b hb9 _ => by have h9 : b < w.heap.size := hb9; omega) hm hnil (by omega) (HLEN.out.up (by omega))).mono ?_
  rintro en w1 ⟨v, rfl, hb1, ho1⟩
  have ho2 := OwnPq.of ho1
  obtain ⟨Av, cv, hvv, _, _, _⟩ := ho2.pts
  subst hvv
  generalize L.length = nv at *
  have hsz1 := hb1.size
  have hA := below_one w1 (.cells #[.int .u64 e, .slice Av nv cv] 25)
  have hQ := Blk.new w1 #[.int .u64 e, .slice Av nv cv] 25
  have hX2 := (hX.below hb1).below hA
  have hY2 := (hY.below hb1).below hA
  have hb2 := hb.trans (hb1.mono hb.size)
  replace hb2 := hb2.trans (hA.mono hb2.size)
  have ho3 := ho2.below hA
  have hl2 : (w1.alloc (.cells #[.int .u64 e, .slice Av nv cv] 25)).heap.size = w1.heap.size + 1 := by simp
  clear hX hY hb1 ho1 ho2 hA x0 x1
  go_upto_region 5 with (fail)
  generalize w1.alloc (.cells #[.int .u64 e, .slice Av nv cv] 25) = w2 at *
  generalize w1.heap.size = Q at *
  have hQ3 := hQ.set 0 (.int .u64 E)
  have hX3 := hX2.far (g := Q) 0 (.int .u64 E) (by omega)
  have hY3 := hY2.far (g := Q) 0 (.int .u64 E) (by omega)
  have hb3 := Below.setCell hb2 (p := ⟨Q, 0, none⟩) (by show w.heap.size ≤ Q; omega) (.int .u64 E)
  have ho4 := ho3.keep (w' := w2.setCell ⟨Q, 0, none⟩ (.int .u64 E)) (fun b _ hb9 _ => Below.heap_setCell _ _ _ _ (fun e => hb9 e))
  obtain ⟨q0, q1⟩ := hQ.c2
  have q2 := hQ.free 0
  go_upto_region 6 with (fail)
  clear q0 q1 q2 hQ hX2 hY2 hb2 ho3
  generalize w2.setCell ⟨Q, 0, none⟩ (.int .u64 E) = w3 at *
  have hQ4 : Blk w3 Q #[.int .u64 E, .slice Av nv cv] 25 := hQ3
  have hc := HCON.out w0.heap.size Q (.slice Av nv cv) w3 (by omega) (by omega) hb3 hQ4 ho4
  clear HCON hQ3
  go_wp2_with fail
  with_reducible refine hc.mono ?_
  rintro en w4 ⟨v', rfl, hk4, hq4, ho5⟩
  have hX4 := hX3.ks hk4 (by omega)
  have hY4 := hY3.ks hk4 (by omega)
  have hb4 := Ks.below hb3 (Nat.le_refl _) hk4 (fun b h9 => by omega)
  obtain ⟨A', c', rfl, hc1, hc2, hpt⟩ := ho5.pts
  clear hc hX3 hY3 hb3 ho4 hk4 ho5 hQ4
  obtain ⟨N, hN⟩ : ∃ N, N = G.length := ⟨_, rfl⟩
  rw [← hN] at hq4 hc1 hpt
  have hN2 : N ≤ 2000 := by omega
  clear hN
  obtain ⟨q0, q1⟩ := hq4.c2
  go_wp2_with fail
  with_reducible refine (prright_any _ E A' N c' G w4 hpt (by omega) (HG.out.up (by omega))).mono ?_
  rintro en w5 ⟨rfl, hb5⟩
  replace hb4 := hb4.trans (hb5.mono hb4.size)
  have hY5 := hY4.below hb5
  have hq5 := hq4.below hb5
  have hpt5 := hpt.below hb5
  clear q0 q1 hX4 hY4 hq4 hpt hb5
  obtain ⟨y0, y1⟩ := hY5.c2
  obtain ⟨f0, f1⟩ := hY5.f2
  obtain ⟨q0, q1⟩ := hq5.c2
  by_cases hok : prok (E, G) = true
  · rw [hok]
    have HV : Hid (endv e G = (0, (E, G))) := Lib.hid (by rw [HEE.out] at hok ⊢; exact endv_ok HNX.out hok)
    clear hok
    have HP := Lib.hid hpt5
    clear hpt5
    go_wp2
    refine bodyPost_ret (v := .tuple #[pragg E A' N c', .int .i64 0]) (by simp [results, Try.results63, go_sem, y0, y1]) rfl ?_
    rw [HR.out, HV.out]
    refine ⟨A', N, c', rfl, ?_, ?_, hc1, hc2⟩
    · iterate 2 (refine Below.setCell ?_ (by simp) _)
      exact hb4
    · refine Pts.mono (Pts.keep HP.out (fun b hb9 _ => ?_)) (fun b hb9 _ => by have h9 : w0.heap.size ≤ b := hb9; show w.heap.size ≤ b; omega)
      have h9 : w0.heap.size ≤ b := hb9
      rw [Below.heap_setCell _ _ _ _ (by simp; omega), Below.heap_setCell _ _ _ _ (by simp; omega)]
  · have hok' : prok (E, G) = false := by simpa using hok
    rw [hok']
    have HV : Hid (endv e G = (3, prj0)) := Lib.hid (by rw [HEE.out] at hok'; exact endv_bad HNX.out hok')
    clear hok hok' hpt5
    go_wp2
    refine bodyPost_ret (v := .tuple #[pragg 0 none 0 0, .int .i64 3]) (by simp [results, Try.results63, go_sem, y0, y1]) rfl ?_
    rw [HR.out, HV.out]
    refine PePost.zero ?_
    iterate 2 (refine Below.setCell ?_ (by simp) _)
    exact hb4
end Go.Proofs.Ytghlediibhnloaa.Cur
