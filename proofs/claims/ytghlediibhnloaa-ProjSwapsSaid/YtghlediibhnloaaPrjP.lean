/- Projections that grow: Grow of the program. -/
import Derived.Test.YtghlediibhnloaaPrjO
namespace Go.Proofs.Ytghlediibhnloaa.Cur
open Go.RowKit Mem
set_option linter.unusedVariables false
set_option maxRecDepth 100000


theorem new4 (w : World) (c0 c1 c2 c3 : Array Value) (t0 t1 t2 t3 : Nat) : ∃ w', w' = (((w.alloc (.cells c0 t0)).alloc (.cells c1 t1)).alloc (.cells c2 t2)).alloc (.cells c3 t3) ∧
    Blk w' w.heap.size c0 t0 ∧ Blk w' (w.heap.size + 1) c1 t1 ∧ Blk w' (w.heap.size + 1 + 1) c2 t2 ∧ Blk w' (w.heap.size + 1 + 1 + 1) c3 t3 ∧ Below w.heap.size w w' ∧ w'.heap.size = w.heap.size + 4 := by
  refine ⟨_, rfl, (((Blk.new w c0 t0).alloc _).alloc _).alloc _, ?_, ?_, ?_, (below_three _ _ _ _).alloc (by simp; omega) _, by simp⟩
  · have := ((Blk.new (w.alloc (.cells c0 t0)) c1 t1).alloc (.cells c2 t2)).alloc (.cells c3 t3)
    simpa only [World.size_alloc] using this
  · have := (Blk.new ((w.alloc (.cells c0 t0)).alloc (.cells c1 t1)) c2 t2).alloc (.cells c3 t3)
    simpa only [World.size_alloc] using this
  · have := Blk.new (((w.alloc (.cells c0 t0)).alloc (.cells c1 t1)).alloc (.cells c2 t2)) c3 t3
    simpa only [World.size_alloc] using this
theorem grw_no {e : Int} {L : List Stp} {t : Int} {S : List (List Int)} (h : prok (e, L) = false) : grw e L t S = (3, prj0) := by unfold grw; rw [if_pos h]
theorem grw_arg {e : Int} {L : List Stp} {t : Int} {S : List (List Int)} (h : prok (e, L) = true) (h2 : t ≤ (L.getD (L.length - 1) stp0).1 ∨ 4611686018427387904 ≤ t) : grw e L t S = (17, prj0) := by unfold grw; rw [if_neg (by simp [h]), if_pos h2]
theorem grw_long {e : Int} {L : List Stp} {t : Int} {S : List (List Int)} (h : prok (e, L) = true) (h2 : ¬ (t ≤ (L.getD (L.length - 1) stp0).1 ∨ 4611686018427387904 ≤ t)) (h3 : L.length = 64) : grw e L t S = (2, prj0) := by unfold grw; rw [if_neg (by simp [h]), if_neg h2, if_pos h3]
theorem grw_end {e : Int} {L : List Stp} {t : Int} {S : List (List Int)} (h : prok (e, L) = true) (h2 : ¬ (t ≤ (L.getD (L.length - 1) stp0).1 ∨ 4611686018427387904 ≤ t)) (h3 : L.length ≠ 64) : grw e L t S = endv e (grown L t S) := by unfold grw; rw [if_neg (by simp [h]), if_neg h2, if_neg h3]
/-- The last stripe of a valid projection ends at the last position. -/
theorem last_to {e : Int} {L : List Stp} (h : prok (e, L) = true) : (L.getD (L.length - 1) stp0).2.1 = 4611686018427387904 ∧ 1 ≤ L.length ∧ L.length ≤ 64 := by
  obtain ⟨_, k2, k3, k4⟩ := prok_parts h
  have h2 := ((pch_iff L 0 4611686018427387904).1 k4).2
  unfold pe at h2
  dsimp only at k2
  rw [if_neg (by omega)] at h2
  exact ⟨h2, k2, k3⟩

set_option maxHeartbeats 4000000 in
theorem grow_any (e : Int) (A : Option Addr) (n m : Nat) (L : List Stp) (t : Int) (B : Option Addr) (l c : Nat) (S : List (List Int)) (w : World) (hz : Pts w (fun b => b < w.heap.size) A n L) (hm : n ≤ m) (hnil : A = none → m = 0) (hn : n ≤ 900) (hlen : plen 900 L) (e0 : 0 ≤ e) (e1 : e < 18446744073709551616)
    (t0 : 0 ≤ t) (t1 : t < 18446744073709551616) (hst : Sts w (fun b => b < w.heap.size) B l S) (hlc : l ≤ c) (hnilB : B = none → c = 0) (hl : l ≤ 900) (hls : ∀ s ∈ S, s.length ≤ 900) :
    Calls Try.prog 28 #[pragg e A n m, .int .u64 t, .slice B l c] w (PePost (fun k => w.heap.size ≤ k) (grw e L t S) w) := by
  obtain ⟨w4, hw4, hX, hca, hcs, hY, hb, hsz⟩ := new4 w (prc e A n m) #[.int .u64 t] #[.slice B l c] (prc 0 none 0 0) 25 22 57 25
  have HZ := Lib.hid hz
  have HST := Lib.hid hst
  have HLS := Lib.hid hls
  have HLEN := Lib.hid hlen
  have HL := Lib.hid hz.1
  obtain ⟨x0, x1⟩ := hX.c2
  obtain ⟨R, hR⟩ : ∃ R, R = grw e L t S := ⟨_, rfl⟩
  rw [← hR]
  have HR := Lib.hid hR
  clear hz hst hls hlen hR
  go_enter Try.func28, Try.ntmps28
  rw [hw4] at x0 x1
  go_wp2_with fail
  rw [← hw4] at x0 x1 ⊢
  clear hw4
  refine (prright_any _ e A n m L w4 (HZ.out.below hb) (by omega) (HLEN.out.up (by omega))).mono ?_
  rintro en w5 ⟨rfl, hb5⟩
  replace hX := hX.below hb5
  replace hca := hca.below hb5
  replace hcs := hcs.below hb5
  replace hY := hY.below hb5
  replace hb := hb.trans (hb5.mono hb.size)
  have hsz5 : w.heap.size + 4 ≤ w5.heap.size := by have := hb5.size; omega
  clear hb5 x0 x1 hsz
  obtain ⟨y0, y1⟩ := hY.c2
  obtain ⟨f0, f1⟩ := hY.f2
  obtain ⟨x0, x1⟩ := hX.c2
  by_cases hok : prok (e, L) = true
  case neg =>
    have hok' : prok (e, L) = false := by simpa using hok
    clear hok
    have HV := Lib.hid (grw_no (t := t) (S := S) hok')
    rw [hok']
    clear hok'
    go_wp2
    refine bodyPost_ret (v := .tuple #[pragg 0 none 0 0, .int .i64 3]) (by simp [results, Try.results28, go_sem, y0, y1]) rfl ?_
    rw [HR.out, HV.out]
    refine PePost.zero ?_
    iterate 2 (refine Below.setCell ?_ (by simp; omega) _)
    exact hb
  obtain ⟨hto, hn1, hn64⟩ := last_to hok
  rw [HL.out] at hn1 hn64
  obtain ⟨k, hk⟩ : ∃ k, k + 1 = n := ⟨n - 1, by omega⟩
  have HOK := Lib.hid hok
  obtain ⟨g, o, rfl, _, hg, hc⟩ := HZ.out.cells (by omega)
  obtain ⟨f, u, S0, a, l0, m0, he, hf, hu, hl0, hlm0, hn0, hst0, hcell⟩ := hc k (by omega)
  have hkl : L.length - 1 = k := by rw [HL.out]; omega
  rw [hkl, he] at hto
  dsimp only at hto
  subst hto
  have hgr := @grw_arg e L t S hok
  have hgl := @grw_long e L t S hok
  have hge := @grw_end e L t S hok
  rw [hkl, he] at hgr hgl hge
  dsimp only at hgr hgl hge
  have HA := Lib.hid hgr
  have HG := Lib.hid hgl
  have HE := Lib.hid hge
  have HC := Lib.hid hcell
  rw [hok]
  clear hc he hok hst0 hgr hgl hge hkl hcell hl0 hlm0 hn0
  have e3 : IntKind.i64.wrap ((n : Int) - 1) = (k : Int) := by rw [IntWalk.i64_in _ (by omega)]; omega
  have hbA := below_one w5 (.cells #[.int .i64 k] 3)
  have hce := Blk.new w5 #[.int .i64 (k : Int)] 3
  replace hX := hX.below hbA
  replace hca := hca.below hbA
  replace hcs := hcs.below hbA
  replace hY := hY.below hbA
  replace hb := hb.trans (hbA.mono hb.size)
  have hsz6 : (w5.alloc (.cells #[.int .i64 (k : Int)] 3)).heap.size = w5.heap.size + 1 := by simp
  clear hbA
  go_upto_region 4 with (fail)
  generalize w5.alloc (.cells #[.int .i64 (k : Int)] 3) = w6 at *
  generalize w5.heap.size = ce at *
  obtain ⟨z0, z1, z2⟩ := HC.out w6 hb
  obtain ⟨x0, x1⟩ := hX.c2
  have k0 : w6.cell? ⟨ce, 0, none⟩ = some (.int .i64 k) := hce.c1
  have hkn : (k : Int) < n := by omega
  have hbA := below_one w6 (.cells (stc f 4611686018427387904 a l0 m0) 60)
  have hLS := Blk.new w6 (stc f 4611686018427387904 a l0 m0) 60
  replace hX := hX.below hbA
  replace hca := hca.below hbA
  replace hcs := hcs.below hbA
  replace hY := hY.below hbA
  replace hce := hce.below hbA
  replace hb := hb.trans (hbA.mono hb.size)
  have hsz7 : (w6.alloc (.cells (stc f 4611686018427387904 a l0 m0) 60)).heap.size = w6.heap.size + 1 := by simp
  clear hbA HC y0 y1 f0 f1
  go_upto_region 5 with (fail)
  clear x0 x1 z0 z1 z2 k0
  generalize w6.alloc (.cells (stc f 4611686018427387904 a l0 m0) 60) = w7 at *
  have hsz8 : w6.heap.size < w7.heap.size := by omega
  clear hsz7
  generalize w6.heap.size = lb at *
  subst hsz6
  obtain ⟨x0, x1⟩ := hX.c2
  obtain ⟨y0, y1⟩ := hY.c2
  obtain ⟨f0, f1⟩ := hY.f2
  obtain ⟨z0, z1, z2⟩ := hLS.c3
  have q0 := hca.c1
  by_cases h1 : t ≤ f
  · have HV := Lib.hid (HA.out (.inl h1))
    go_wp2
    refine bodyPost_ret (v := .tuple #[pragg 0 none 0 0, .int .i64 17]) (by simp [results, Try.results28, go_sem, y0, y1]) rfl ?_
    rw [HR.out, HV.out]
    refine PePost.zero ?_
    iterate 2 (refine Below.setCell ?_ (by simp; omega) _)
    exact hb
  by_cases h2 : 4611686018427387904 ≤ t
  · have HV := Lib.hid (HA.out (.inr h2))
    go_wp2
    refine bodyPost_ret (v := .tuple #[pragg 0 none 0 0, .int .i64 17]) (by simp [results, Try.results28, go_sem, y0, y1]) rfl ?_
    rw [HR.out, HV.out]
    refine PePost.zero ?_
    iterate 2 (refine Below.setCell ?_ (by simp; omega) _)
    exact hb
  by_cases h3 : n = 64
  · have HV := Lib.hid (HG.out (fun h => h.elim h1 h2) (by rw [HL.out]; exact h3))
    have h3b : ((n : Int) == 64) = true := by rw [h3]; rfl
    clear h3
    go_wp2
    refine bodyPost_ret (v := .tuple #[pragg 0 none 0 0, .int .i64 2]) (by simp [results, Try.results28, go_sem, y0, y1]) rfl ?_
    rw [HR.out, HV.out]
    refine PePost.zero ?_
    iterate 2 (refine Below.setCell ?_ (by simp; omega) _)
    exact hb
  have HV := Lib.hid (HE.out (fun h => h.elim h1 h2) (by rw [HL.out]; exact h3))
  have h3b : ((n : Int) == 64) = false := by rw [beq_eq_false_iff_ne]; omega
  have hkL : k + 1 = L.length := by rw [HL.out]; exact hk
  have hG := grown_plen (t := t) HLEN.out (S := S) (by rw [HST.out.1]; exact hl) HLS.out
  have hGl := grown_len L t S
  rw [HL.out] at hGl
  have hcon := renewg_any e (some ⟨g, o, none⟩) n m L (grown L t S) (w.heap.size + 1) ce (w.heap.size + 1 + 1) w7 ((HZ.out.below hb).mono fun b h9 _ => by have h8 : b < w.heap.size := h9; have := hb.size; omega) hm hnil (by omega) (HLEN.out.up (by omega)) e0 e1 (hG.up (by omega)) (by omega)
    (fun W Q v w9 hW hQ hb9 hq ho => growc_any W Q (w.heap.size + 1) ce (w.heap.size + 1 + 1) (e + 1) v L t k B l c S w9 ⟨hq, hca.below hb9, hce.below hb9, hcs.below hb9⟩ ho hkL (by omega) (((HST.out.below hb).below hb9).mono fun b h9 _ => by have h8 : b < w.heap.size := h9; have := hb.size; omega) hlc hnilB (by omega) (fun s hs => by have := HLS.out s hs; omega) hQ (by have := hca.lt; omega) (by have := hce.lt; omega) (by have := hcs.lt; omega) t0 t1)
  rw [← HV.out, ← HR.out] at hcon
  have HX := hY
  clear h3 hkL hG hGl HE HG HA
  go_wp2_with fail
  with_reducible refine hcon.mono ?_
  rintro en w9 ⟨A', N', m', rfl, hb9, hpt, hm', hn'⟩
  replace hY := hY.below hb9
  replace hb := hb.trans (hb9.mono hb.size)
  have HP := Lib.hid hpt
  have h79 := hb9.size
  have HB7 := Lib.hid hb9
  clear hcon hpt hb9 x0 x1 y0 y1 f0 f1 z0 z1 z2 q0 HX
  obtain ⟨y0, y1⟩ := hY.c2
  obtain ⟨f0, f1⟩ := hY.f2
  obtain ⟨e', he'⟩ : ∃ e', e' = R.2.1 := ⟨_, rfl⟩
  obtain ⟨c', hc'⟩ : ∃ c', c' = R.1 := ⟨_, rfl⟩
  rw [← he', ← hc']
  have HE1 := Lib.hid he'
  have HC1 := Lib.hid hc'
  clear he' hc'
  go_wp2
  refine bodyPost_ret (v := .tuple #[pragg e' A' N' m', .int .i64 c']) (by simp [results, Try.results28, go_sem, y0, y1]) rfl ⟨A', N', m', by rw [HE1.out, HC1.out], ?_, ?_, hm', hn'⟩
  · iterate 2 (refine Below.setCell ?_ (by simp; omega) _)
    exact hb
  · refine Pts.mono (Pts.keep HP.out (fun b hb9 _ => ?_)) (fun b hb9 _ => by have h9 : w7.heap.size ≤ b := hb9; show w.heap.size ≤ b; omega)
    have h9 : w7.heap.size ≤ b := hb9
    rw [Below.heap_setCell _ _ _ _ (by simp; omega), Below.heap_setCell _ _ _ _ (by simp; omega)]
end Go.Proofs.Ytghlediibhnloaa.Cur
