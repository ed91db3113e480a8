/- Projections that grow: the document's Grow, whole. -/
import Derived.Test.YtghlediibhnloaaPrjR
namespace Go.Proofs.Ytghlediibhnloaa.Cur
open Go.RowKit Mem
set_option linter.unusedVariables false
set_option maxRecDepth 100000


theorem gr_ne {w : World} {g Q : Nat} {v' : Value} (hgr : Gr (some g) v'.ownBlock w) (h1 : g ≠ Q) (h2 : Q < w.heap.size) : v'.ownBlock ≠ some Q := fun e => by
  rcases hgr with e2 | ⟨g', e2, hg'⟩
  · rw [e2] at e; injection e with e; exact h1 e
  · rw [e2] at e; injection e with e; omega
theorem OwnR.keepQ {R : Nat → Prop} {w : World} {W Q i : Nat} {u v : Value} {L : List Stp} (h : OwnQ StE 60 w W (fun b => (R b ∧ b ≠ Q) ∧ v.ownBlock ≠ some b) v L) (hn : v.ownBlock ≠ some Q) :
    OwnQ StE 60 (w.setCell ⟨Q, i, none⟩ u) W (fun b => (R b ∧ b ≠ Q) ∧ v.ownBlock ≠ some b) v L :=
  OwnR.keep (R := fun b => R b ∧ b ≠ Q) h fun b _ hb => Below.heap_setCell _ _ _ _ fun e => by
    have e2 : b = Q := e
    rcases hb with hb | hb
    · exact hb.2 e2
    · exact hn (by rw [hb, e2])
theorem own_pts {w : World} {W0 W Q N : Nat} {A : Option Addr} {c : Nat} {L : List Stp} (h : OwnQ StE 60 w W (fun b => ((b < W0 ∨ W ≤ b) ∧ b ≠ Q) ∧ (Value.slice A N c).ownBlock ≠ some b) (.slice A N c) L) (hl : L.length = N) :
    Pts w (fun b => b < W0 ∨ W ≤ b) A N L := by
  have hge : ∀ g, (Value.slice A N c).ownBlock = some g → W ≤ g := by
    obtain ⟨cs, _, h, _⟩ := h
    exact own_ge h
  obtain ⟨A', c', e, _, _, h3⟩ := OwnQ.slice h
  injection e with e1 e2 e3
  subst e1 e3
  exact ⟨hl, h3.mono fun b hb _ => by
    rcases hb with hb | hb
    · exact hb.1.1
    · exact .inr (hge b hb)⟩
set_option maxHeartbeats 4000000 in
theorem rgrow_any (e : Int) (A : Option Addr) (n m : Nat) (L : List Stp) (t : Int) (B : Option Addr) (l c : Nat) (S : List (List Int)) (w : World) (hz : Pts w (fun b => b < w.heap.size) A n L) (hm : n ≤ m) (hnil : A = none → m = 0) (hn : n ≤ 900) (hlen : plen 900 L) (e0 : 0 ≤ e) (e1 : e < 18446744073709551616)
    (t0 : 0 ≤ t) (t1 : t < 18446744073709551616) (hst : Sts w (fun b => b < w.heap.size) B l S) (hlc : l ≤ c) (hnilB : B = none → c = 0) (hl : l ≤ 900) (hls : ∀ s ∈ S, s.length ≤ 900) :
    Calls Try.prog 29 #[pragg e A n m, .int .u64 t, .slice B l c] w (PePost (fun _ => True) (grw e L t S) w) := by
  have hX := (Blk.new w (prc e A n m) 25).alloc (.cells (prc 0 none 0 0) 25)
  have hY := Blk.new (w.alloc (.cells (prc e A n m) 25)) (prc 0 none 0 0) 25
  rw [show (w.alloc (.cells (prc e A n m) 25)).heap.size = w.heap.size + 1 by simp] at hY
  have hb := below_two w (.cells (prc e A n m) 25) (.cells (prc 0 none 0 0) 25)
  have hsz : ((w.alloc (.cells (prc e A n m) 25)).alloc (.cells (prc 0 none 0 0) 25)).heap.size = w.heap.size + 2 := by simp
  have HZ := Lib.hid hz
  have HST := Lib.hid hst
  have HLS := Lib.hid hls
  have HLEN := Lib.hid hlen
  have HL := Lib.hid hz.1
  obtain ⟨x0, x1⟩ := hX.c2
  obtain ⟨R, hR⟩ : ∃ R, R = grw e L t S := ⟨_, rfl⟩
  rw [← hR]
  have HR := Lib.hid hR
  clear hz hst hls hlen hR
  go_enter Try.func29, Try.ntmps29
  go_wp2_with fail
  generalize (w.alloc (.cells (prc e A n m) 25)).alloc (.cells (prc 0 none 0 0) 25) = w4 at *
  refine (rprright_any _ e A n m L w4 (HZ.out.below hb) (by omega) (HLEN.out.up (by omega)) e0).mono ?_
  rintro en w5 ⟨rfl, hb5⟩
  replace hX := hX.below hb5
  replace hY := hY.below hb5
  replace hb := hb.trans (hb5.mono hb.size)
  have hsz5 : w.heap.size + 2 ≤ w5.heap.size := by have := hb5.size; omega
  clear hb5 x0 x1 hsz
  obtain ⟨y0, y1⟩ := hY.c2
  obtain ⟨f0, f1⟩ := hY.f2
  obtain ⟨x0, x1⟩ := hX.c2
  by_cases hok : prok (e, L) = true
  case neg =>
    have hok' : prok (e, L) = false := by simpa using hok
    clear hok
    have HV := Lib.hid (grw_no (t := t) (S := S) hok')
    rw [hok']
    clear hok'
    go_wp2
    refine bodyPost_ret (v := .tuple #[pragg 0 none 0 0, .int .i64 3]) (by simp [results, Try.results29, go_sem, y0, y1]) rfl ?_
    rw [HR.out, HV.out]
    refine PePost.zero ?_
    iterate 2 (refine Below.setCell ?_ (by simp) _)
    exact hb
  obtain ⟨hto, hn1, hn64⟩ := last_to hok
  rw [HL.out] at hn1 hn64
  obtain ⟨k, hk⟩ : ∃ k, k + 1 = n := ⟨n - 1, by omega⟩
  have HOK := Lib.hid hok
  have hek : epk e = true := (prok_parts hok).1
  have hebd := epk_bd hek
  have HEK := Lib.hid hek
  obtain ⟨g, o, rfl, _, hg, hc⟩ := HZ.out.cells (by omega)
  obtain ⟨f, u, S0, a, l0, m0, he, hf, hu, hl0, hlm0, hn0, hst0, hcell⟩ := hc k (by omega)
  have hkl : L.length - 1 = k := by rw [HL.out]; omega
  have hgr := @grw_arg e L t S hok
  have hgl := @grw_long e L t S hok
  have hge := @grw_end e L t S hok
  rw [hkl, he] at hgr hgl hge
  dsimp only at hgr hgl hge
  have HA := Lib.hid hgr
  have HG := Lib.hid hgl
  have HE := Lib.hid hge
  obtain ⟨z0, z1, z2⟩ := hcell w5 hb
  have HGR : Hid (grown L t S = L.set k ((L.getD k stp0).1, t, (L.getD k stp0).2.2) ++ [(t, 4611686018427387904, S)]) := Lib.hid (by unfold grown; rw [hkl])
  rw [hok]
  clear hc he hok hek hst0 hgr hgl hge hcell hl0 hlm0 hn0 hto hkl hu
  have e3 : IntKind.i64.wrap ((n : Int) - 1) = (k : Int) := by rw [IntWalk.i64_in _ (by omega)]; omega
  have hkn : (k : Int) < n := by omega
  by_cases h1 : t ≤ f
  · have HV := Lib.hid (HA.out (.inl h1))
    go_wp2
    refine bodyPost_ret (v := .tuple #[pragg 0 none 0 0, .int .i64 17]) (by simp [results, Try.results29, go_sem, y0, y1]) rfl ?_
    rw [HR.out, HV.out]
    refine PePost.zero ?_
    iterate 2 (refine Below.setCell ?_ (by simp) _)
    exact hb
  by_cases h2 : 4611686018427387904 ≤ t
  · have HV := Lib.hid (HA.out (.inr h2))
    go_wp2
    refine bodyPost_ret (v := .tuple #[pragg 0 none 0 0, .int .i64 17]) (by simp [results, Try.results29, go_sem, y0, y1]) rfl ?_
    rw [HR.out, HV.out]
    refine PePost.zero ?_
    iterate 2 (refine Below.setCell ?_ (by simp) _)
    exact hb
  by_cases h3 : n = 64
  · have HV := Lib.hid (HG.out (fun h => h.elim h1 h2) (by rw [HL.out]; exact h3))
    have h3b : ((n : Int) == 64) = true := by rw [h3]; rfl
    clear h3
    go_wp2
    refine bodyPost_ret (v := .tuple #[pragg 0 none 0 0, .int .i64 2]) (by simp [results, Try.results29, go_sem, y0, y1]) rfl ?_
    rw [HR.out, HV.out]
    refine PePost.zero ?_
    iterate 2 (refine Below.setCell ?_ (by simp) _)
    exact hb
  have HV := Lib.hid (HE.out (fun h => h.elim h1 h2) (by rw [HL.out]; exact h3))
  have h3b : ((n : Int) == 64) = false := by rw [beq_eq_false_iff_ne]; omega
  have hkL : k + 1 = L.length := by rw [HL.out]; exact hk
  have hG := grown_plen (t := t) HLEN.out (S := S) (by rw [HST.out.1]; exact hl) HLS.out
  have hGl := grown_len L t S
  rw [HL.out] at hGl
  have HPG := Lib.hid hG
  have HGL := Lib.hid hGl
  clear h3 hG hGl HE HG HA
  go_wp2_with fail
  with_reducible refine (rcopied_any _ e (some ⟨g, o, none⟩) n m L w5 (HZ.out.below hb) (by omega) (HLEN.out.up (by omega)) e0 (by omega)).mono ?_
  rintro en w6 ⟨v, rfl, hb6, ho6⟩
  obtain ⟨Av, cv, hv, hnc, _, _⟩ := OwnQ.slice ho6
  subst hv
  obtain ⟨g2, rfl⟩ : ∃ g, Av = some ⟨g, 0, none⟩ := by
    obtain ⟨cs, _, h2, _⟩ := ho6
    rcases h2.2 with ⟨e, h0⟩ | ⟨g, _, _, e, _⟩
    · omega
    · injection e with e; exact ⟨g, e⟩
  have HLk : Hid (L[k]? = some (L.getD k stp0)) := Lib.hid (by rw [List.getD_eq_getElem?_getD, List.getElem?_eq_getElem (by omega)]; rfl)
  have hLn : L.length = n := HL.out
  rw [hLn] at ho6 hnc ⊢
  have ho7 := ho6.mono (Q := fun b => ((b < w.heap.size ∨ w5.heap.size ≤ b) ∧ b ≠ w6.heap.size) ∧ (Value.slice (some ⟨g2, 0, none⟩) n cv).ownBlock ≠ some b) (fun b hb9 hl => ⟨⟨.inr hb9.1, by omega⟩, hb9.2⟩) (fun gg hg hh => hh.2 hg)
  have hg26 : w5.heap.size ≤ g2 ∧ g2 < w6.heap.size := by
    obtain ⟨cs, _, h2, _⟩ := ho6
    exact World.ownsRow.lt h2 g2 rfl
  have hA := below_one w6 (.cells #[.int .u64 (e + 1), .slice (some ⟨g2, 0, none⟩) n cv] 25)
  have hQ := Blk.new w6 #[.int .u64 (e + 1), .slice (some ⟨g2, 0, none⟩) n cv] 25
  have ho8 := ho7.below hA
  have hYQ := (hY.below hb6).below hA
  have hb7 := hb.trans (hb6.mono hb.size)
  replace hb7 := hb7.trans (hA.mono hb7.size)
  have h76 : w6.heap.size < (w6.alloc (.cells #[.int .u64 (e + 1), .slice (some ⟨g2, 0, none⟩) n cv] 25)).heap.size := by simp
  clear ho6 ho7 hA hb6 hY hX hb y0 y1 f0 f1 x0 x1 z0 z1 z2 hLn hkL
  go_upto_region 9 with (fail)
  generalize w6.alloc (.cells #[.int .u64 (e + 1), .slice (some ⟨g2, 0, none⟩) n cv] 25) = w7 at *
  generalize w6.heap.size = Q at *
  obtain ⟨ho9, ⟨x, hx⟩, hfz, _, _, _⟩ := own_to ho8 HLk.out t0 t1
  have hQ8 := hQ.far (g := g2) (k * 3 + 1) (.int .u64 t) (by omega)
  have hY8 := hYQ.far (g := g2) (k * 3 + 1) (.int .u64 t) (by omega)
  have hb8 := Below.setCell hb7 (p := ⟨g2, k * 3 + 1, none⟩) (by show w.heap.size ≤ g2; omega) (.int .u64 t)
  have h87 : Q < (w7.setCell ⟨g2, k * 3 + 1, none⟩ (.int .u64 t)).heap.size := by simpa using h76
  obtain ⟨q0, q1⟩ := hQ.c2
  go_upto_region 10 with (fail)
  clear q0 q1 hx hfz hQ hYQ hb7 ho8
  generalize w7.setCell ⟨g2, k * 3 + 1, none⟩ (.int .u64 t) = w8 at *
  have hA := below_one w8 (.cells #[.int .u64 t, .int .u64 4611686018427387904, .slice B l c] 60)
  have hrwX := rw_new w8 [.int .u64 t, .int .u64 4611686018427387904, .slice B l c] 60
  have hQA := hQ8.below hA
  have hYA := hY8.below hA
  have hbA := hb8.trans (hA.mono hb8.size)
  have hel := StE.mk ⟨t0, t1⟩ (by decide : (0 : Int) ≤ 4611686018427387904 ∧ (4611686018427387904 : Int) < 18446744073709551616) HST.out.1 hlc hnilB ((HST.out.below hbA).mono (Q := fun b => ((b < w.heap.size ∨ w5.heap.size ≤ b) ∧ b ≠ Q) ∧ (Value.slice (some ⟨g2, 0, none⟩) n cv).ownBlock ≠ some b) (fun b hb9 _ => by
    have h9 : b < w.heap.size := hb9
    exact ⟨⟨.inl h9, by omega⟩, fun e => by injection e with e; have e2 : g2 = b := e; omega⟩))
  have hoA := ho9.below hA
  obtain ⟨css, gg1, gg2', gg3⟩ := hoA
  have gg2 : (w8.alloc (.cells #[.int .u64 t, .int .u64 4611686018427387904, .slice B l c] 60)).ownsRow w5.heap.size 60 3 (.slice (some ⟨g2, 0, none⟩) n cv) n css.flatten := by
    rw [List.length_set, HL.out] at gg2'; exact gg2'
  have hB4 : w5.heap.size ≤ (w8.alloc (.cells #[.int .u64 t, .int .u64 4611686018427387904, .slice B l c] 60)).heap.size := by simp; omega
  obtain ⟨q0, q1⟩ := hQ8.c2
  have HN1 : n + 1 ≤ 1000000 := by omega
  clear gg2' ho9 hA hY8 hb8
  go_wp2_with (at_builtin; go_must (refine list_append_rw kindST rfl (.tmp 44) (.tmp 48) rfl w5.heap.size _ n _ rfl gg2 _ 1 _ [.int .u64 t, .int .u64 4611686018427387904, .slice B l c] rfl rfl hrwX (by simp) (by simp [Value.oneCell']) (by omega) (by omega) hB4 ?_; intro v5 w10 ho5 hg5 hgr5; have H5 := OwnR.snoc (R := fun b => (b < w.heap.size ∨ w5.heap.size ≤ b) ∧ b ≠ Q) gg1 gg3 hel (by rw [List.length_set, HL.out]; exact ho5) hg5 hgr5; rw [← HGR.out] at H5; obtain ⟨A5, c5, hv5, hc5, hn5, _⟩ := OwnQ.slice H5; rw [HGL.out] at hv5 hc5; subst hv5; have hk5 := Ks.of_grown (S := fun b => b = g2) hg5 (fun b e => by injection e with e; exact e.symm); have hQ5 := hQA.ks hk5 (fun e => by have e2 : Q = g2 := e; omega); have hY5 := hYA.ks hk5 (fun e => by have e2 : w.heap.size + 1 = g2 := e; omega); have hb5 := Ks.below hbA (Nat.le_refl _) hk5 (fun b h9 => by have e2 : b = g2 := h9; omega); have hne5 := gr_ne (g := g2) hgr5 (Q := Q) (by omega) hQA.lt; have q5 := hQ5.c2.2; have f5 := hQ5.free 1; have hQ6 : Blk (w10.setCell ⟨Q, 1, none⟩ (.slice A5 (n + 1) c5)) Q #[.int .u64 (e + 1), .slice A5 (n + 1) c5] 25 := hQ5.set 1 _; have hY6 := hY5.far (g := Q) 1 (.slice A5 (n + 1) c5) (by omega); have hb6 := Below.setCell hb5 (p := ⟨Q, 1, none⟩) (by show w.heap.size ≤ Q; omega) (.slice A5 (n + 1) c5); have hP6 : Pts (w10.setCell ⟨Q, 1, none⟩ (.slice A5 (n + 1) c5)) (fun b => b < w.heap.size ∨ w5.heap.size ≤ b) A5 (n + 1) (grown L t S) := own_pts (OwnR.keepQ (R := fun b => b < w.heap.size ∨ w5.heap.size ≤ b) (i := 1) (u := .slice A5 (n + 1) c5) H5 hne5) HGL.out; clear gg1 gg2 gg3 hel hQA hYA hbA hrwX ho5 hg5 hgr5 H5 hk5 hQ5 hY5 hb5 hne5; obtain ⟨r0, r1⟩ := hQ6.c2))
  with_reducible refine (rends_any _ (e + 1) A5 (n + 1) c5 (grown L t S) _ hP6 hc5 hn5 (by omega) (HPG.out.up (by omega)) (by omega)).mono ?_
  rintro en w11 ⟨A', N', m', rfl, hb11, hpt, hm', hn'⟩
  rw [endsv_next _ HEK.out, ← HV.out, ← HR.out] at hpt ⊢
  replace hY6 := hY6.below hb11
  replace hb6 := hb6.trans (hb11.mono hb6.size)
  have HP := Lib.hid hpt
  clear hpt hb11 r0 r1 hQ6 hP6 q5 f5
  obtain ⟨y0, y1⟩ := hY6.c2
  obtain ⟨f0, f1⟩ := hY6.f2
  obtain ⟨e', he'⟩ : ∃ e', e' = R.2.1 := ⟨_, rfl⟩
  obtain ⟨c', hc'⟩ : ∃ c', c' = R.1 := ⟨_, rfl⟩
  rw [← he', ← hc']
  have HE1 := Lib.hid he'
  have HC1 := Lib.hid hc'
  clear he' hc'
  go_wp2
  refine bodyPost_ret (v := .tuple #[pragg e' A' N' m', .int .i64 c']) (by simp [results, Try.results29, go_sem, y0, y1]) rfl ⟨A', N', m', by rw [HE1.out, HC1.out], ?_, ?_, hm', hn'⟩
  · iterate 2 (refine Below.setCell ?_ (by simp) _)
    exact hb6
  · refine Pts.mono (Pts.keep HP.out (fun b hb9 _ => ?_)) (fun b _ _ => trivial)
    have h9 : b < w.heap.size ∨ w5.heap.size ≤ b := hb9
    rw [Below.heap_setCell _ _ _ _ (by simp; omega), Below.heap_setCell _ _ _ _ (by simp; omega)]
end Go.Proofs.Ytghlediibhnloaa.Cur
