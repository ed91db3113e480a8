/- ProjGrows: called with any projection, any number and any sets, the law returns true; no condition. -/
import Derived.Test.YtghlediibhnloaaRows
import Derived.Test.YtghlediibhnloaaPrjD
import Derived.Test.YtghlediibhnloaaPrjB
import Derived.Test.YtghlediibhnloaaPrjL
import Derived.Test.YtghlediibhnloaaPrjP
import Derived.Test.YtghlediibhnloaaPrjU
import Derived.Test.YtghlediibhnloaaPrjV
import Derived.Test.YtghlediibhnloaaK1
import Derived.ProofKit
import Derived.OpenShut
import Derived.ShutString
import Derived.ChangeOld
namespace Go.Proofs.Ytghlediibhnloaa.projGrows
open Go.ChangeShapes Go.WideShapes Go.ChangeAt Go.RowKit
open Go.ChangeMaps (open_string shut_string)
set_option linter.unusedVariables false

theorem own : ownKnob Try.prog.godebug = none := by kernel_rfl
theorem laidOut : laidOutB Try.prog = true := by kernel_rfl
open Cur Mem

set_option maxRecDepth 100000


set_option maxHeartbeats 16000000 in
theorem walk {H : Type} (enc : TypeId × Value → H) (w : World) (base : Nat) (v0 : Value) (d0 : DataW H) (p0 : List MemPlace) (g0 : Value.okWide Try.prog w .any base 25 v0) (h0 : DataW.Trod enc Try.prog w 0 (fun _ => true) true 25 v0 d0 p0) (v1 : Value) (d1 : DataW H) (p1 : List MemPlace) (g1 : Value.okWide Try.prog w .any base 22 v1) (h1 : DataW.Trod enc Try.prog w 0 (fun _ => true) true 22 v1 d1 p1) (v2 : Value) (d2 : DataW H) (p2 : List MemPlace) (g2 : Value.okWide Try.prog w .any base 57 v2) (h2 : DataW.Trod enc Try.prog w 0 (fun _ => true) true 57 v2 d2 p2) :
    Calls Try.prog 5 #[v0, v1, v2] w fun e w' => e = .returned (.bool true) ∧ Below w.heap.size w w' := by
  obtain ⟨e, A, n, m, L, rfl, ⟨e0, e1⟩, hm, hnil, hz⟩ := open_prj g0 h0
  obtain ⟨t, rfl, t0, t1⟩ := open_u64 g1 h1
  obtain ⟨B, c, S, rfl, hlc, hnilB, hsq⟩ := open_sl Try.underlying57 opens_sets g2 h2
  have hst : Sts w (fun b => b < w.heap.size) B S.length S := ⟨rfl, hsq.mono fun b _ hl => hl⟩
  obtain ⟨l, hl⟩ : ∃ l, l = S.length := ⟨_, rfl⟩
  rw [← hl] at hst hlc ⊢
  clear g0 h0 g1 h1 g2 h2 hsq hl
  have hX := Blk.new w (prc e A n m) 25
  have hbd := below_one w (.cells (prc e A n m) 25)
  have HZ := Lib.hid hz
  have HL := Lib.hid hz.1
  have HST := Lib.hid hst
  have HNIL := Lib.hid hnil
  have HNILB := Lib.hid hnilB
  clear hz hst hnil hnilB
  obtain ⟨x0, x1⟩ := hX.c2
  go_enter Try.func5, Try.ntmps5
  go_wp2_with fail
  generalize w.alloc (.cells (prc e A n m) 25) = w0 at *
  refine (long20_any _ e A n m L _ (HZ.out.below hbd)).mono ?_
  rintro en w1 ⟨b1, rfl, hb1, hl1⟩
  replace hX := hX.below hb1
  replace hbd := hbd.trans (hb1.mono hbd.size)
  clear hb1 x0 x1
  cases b1
  case true =>
    clear hl1 hX
    go_wp2_with fail
    refine (live20_any _).mono ?_
    rintro en wl ⟨rfl, hbl⟩
    replace hbd := hbd.trans (hbl.mono hbd.size)
    go_wp2
    go_ret
    exact ⟨rfl, hbd⟩
  obtain ⟨hn20, hl20⟩ := hl1 rfl
  have HL20 := Lib.hid hl20
  clear hl1 hl20
  go_wp2_with fail
  refine (long19_any _ 0 0 B l c S _ (HST.out.below hbd)).mono ?_
  rintro en w2 ⟨b2, rfl, hb2, hl2⟩
  replace hX := hX.below hb2
  replace hbd := hbd.trans (hb2.mono hbd.size)
  clear hb2
  cases b2
  case true =>
    clear hl2 hX
    go_wp2_with fail
    refine (live20_any _).mono ?_
    rintro en wl ⟨rfl, hbl⟩
    replace hbd := hbd.trans (hbl.mono hbd.size)
    go_wp2
    go_ret
    exact ⟨rfl, hbd⟩
  obtain ⟨hk20, hl220⟩ := hl2 rfl
  have HLS := Lib.hid hl220
  clear hl2 hl220
  obtain ⟨x0, x1⟩ := hX.c2
  have HGP : Hid (plen 1000000 (grw e L t S).2.2 ∧ (grw e L t S).2.2.length ≤ 1000) := Lib.hid (by
    have h1 := grown_plen (t := t) HL20.out (S := S) (by rw [HST.out.1]; exact hk20) HLS.out
    have h2 := grown_len L t S
    rw [HL.out] at h2
    rcases grw_cases e L t S with ⟨h, _⟩ | ⟨_, h⟩
    · rw [h]; exact ⟨h1.up (by omega), by show (grown L t S).length ≤ 1000; omega⟩
    · rw [h]; exact ⟨fun s hs => by simp [prj0] at hs, by simp [prj0]⟩)
  have hW := hbd.size
  go_wp2_with fail
  refine (grow_any e A n m L t B l c S w2 ((HZ.out.below hbd).mono fun b h9 _ => by have h8 : b < w.heap.size := h9; omega) hm HNIL.out (by omega) (HL20.out.up (by omega)) e0 e1 t0 t1 ((HST.out.below hbd).mono fun b h9 _ => by have h8 : b < w.heap.size := h9; omega) hlc HNILB.out (by omega) (fun s hs => by have := HLS.out s hs; omega)).mono ?_
  rintro en w3 ⟨A', N', m', rfl, hb3, hpt, hm', hn'⟩
  have HCASE := Lib.hid (grw_cases e L t S)
  have hG1 := hpt.1
  have hrg := fun w' h => rgrow_any e A n m L t B l c S w' ((HZ.out.below h).mono fun b h9 _ => by have h8 : b < w.heap.size := h9; have := h.size; omega) hm HNIL.out (by omega) (HL20.out.up (by omega)) e0 e1 t0 t1 ((HST.out.below h).mono fun b h9 _ => by have h8 : b < w.heap.size := h9; have := h.size; omega) hlc HNILB.out (by omega) (fun s hs => by have := HLS.out s hs; omega)
  unfold PePost at hrg
  generalize grw e L t S = R at *
  obtain ⟨cd, e', G⟩ := R
  dsimp only at *
  have HRG := Lib.hid hrg
  have hN' : N' ≤ 1000 := by have := HGP.out.2; rw [hG1] at this; exact this
  have hbx := hb3.trans ((below_one w3 (.cells (prc e' A' N' m') 25)).mono hb3.size)
  have hQ := Blk.new w3 (prc e' A' N' m') 25
  replace hpt := (hpt.mono (Q := fun _ => True) fun _ _ _ => trivial).below (below_one w3 (.cells (prc e' A' N' m') 25))
  replace hX := hX.below hbx
  replace hbd := hbd.trans (hbx.mono hbd.size)
  clear hrg hb3 hbx x0 x1 hG1
  go_upto_region 4 with (fail)
  generalize w3.alloc (.cells (prc e' A' N' m') 25) = w4 at *
  generalize w3.heap.size = qb at *
  obtain ⟨x0, x1⟩ := hX.c2
  go_wp2_with fail
  refine (HRG.out w4 hbd).mono ?_
  rintro en w5 ⟨A2, N2, m2, rfl, hb5, hpt2, hm2, hn2⟩
  obtain rfl : N' = N2 := by rw [← hpt.1, ← hpt2.1]
  have hbx := hb5.trans ((below_one w5 (.cells (prc e' A2 N' m2) 25)).mono hb5.size)
  have hR := Blk.new w5 (prc e' A2 N' m2) 25
  replace hpt2 := hpt2.below (below_one w5 (.cells (prc e' A2 N' m2) 25))
  replace hpt := hpt.below hbx
  replace hX := hX.below hbx
  replace hQ := hQ.below hbx
  replace hbd := hbd.trans (hbx.mono hbd.size)
  clear HRG hb5 hbx x0 x1
  go_upto_region 5 with (fail)
  generalize w5.alloc (.cells (prc e' A2 N' m2) 25) = w6 at *
  generalize w5.heap.size = rb at *
  obtain ⟨x0, x1⟩ := hQ.c2
  obtain ⟨y0, y1⟩ := hR.c2
  go_wp2_with fail
  refine (rprsame_any _ _ e' A' N' m' G e' A2 N' m2 G _ hpt hpt2 (by omega) (by omega) HGP.out.1 HGP.out.1).mono ?_
  rintro en w7 ⟨rfl, hb7⟩
  rw [decide_eq_true rfl]
  replace hpt := hpt.below hb7
  replace hX := hX.below hb7
  replace hQ := hQ.below hb7
  replace hbd := hbd.trans (hb7.mono hbd.size)
  clear hb7 x0 x1 y0 y1 hpt2 hR
  rcases HCASE.out with ⟨h1, h2, h3, h4, h5⟩ | ⟨h1, _⟩
  case inr =>
    have hcb : (cd != 0) = true := by simpa using h1
    clear h1 hpt hX hQ HCASE
    go_wp2_with fail
    refine (live20_any _).mono ?_
    rintro en wl ⟨rfl, hbl⟩
    replace hbd := hbd.trans (hbl.mono hbd.size)
    go_wp2
    go_ret
    exact ⟨rfl, hbd⟩
  injection h1 with h1 h6
  injection h6 with h6 h7
  subst h1 h6
  obtain ⟨_, hn1, hn64⟩ := last_to h2
  rw [HL.out] at hn1 hn64
  obtain ⟨k, hk⟩ : ∃ k, k + 1 = n := ⟨n - 1, by omega⟩
  have HGA : Hid (∀ i, i < n → ∃ f u v a, L.getD i stp0 = (f, u, a) ∧ G.getD i stp0 = (f, v, a) ∧ stok (f, u, a) = true ∧ stok (f, v, a) = true ∧ (i = k → v = t ∧ f < t ∧ u = 4611686018427387904)) := Lib.hid (by
    intro i hi
    have q1 := prok_at h2 (i := i) (by rw [HL.out]; exact hi)
    have q2 := prok_at h5 (i := i) (by rw [grown_len, HL.out]; omega)
    obtain ⟨v, q3, q4⟩ := grown_at (L := L) (t := t) (S := S) (i := i) (by rw [HL.out]; exact hi)
    rw [q3] at q2
    refine ⟨_, (L.getD i stp0).2.1, v, _, rfl, by rw [h7]; exact q3, q1, q2, fun hik => ⟨q4 (by rw [HL.out]; omega), ?_, ?_⟩⟩
    · rw [show L.length - 1 = i by rw [HL.out]; omega] at h3; exact h3
    · have := (last_to h2).1
      rw [show L.length - 1 = i by rw [HL.out]; omega] at this; exact this)
  have HOK : Hid (prok (e + 1, G) = true) := Lib.hid (by rw [h7]; exact h5)
  have HGL : Hid (N' = n + 1) := Lib.hid (by rw [← hpt.1, h7, grown_len, HL.out])
  have he3 : IntKind.u64.wrap (e + 1) = e + 1 := by
    have := epk_bd (prok_parts h2).1
    exact IntWalk.u64_in _ (by omega)
  have e3 : IntKind.i64.wrap ((n : Int) - 1) = (k : Int) := by rw [IntWalk.i64_in _ (by omega)]; omega
  have HPT := Lib.hid hpt
  have HCL := Lib.hid (fun h => hpt.cells h)
  have HCP := Lib.hid (fun h => (HZ.out).cells h)
  have hnN : n < N' := by rw [HGL.out]; omega
  have HT4 := Lib.hid h4
  clear h2 h3 h4 h5 h7 hpt HCASE
  obtain ⟨x0, x1⟩ := hX.c2
  go_wp2
  clear x0 x1
  go_loopw [12] (fun i wr => ∃ j : Nat, j ≤ n ∧ i = .int .i64 j ∧ Below w7.heap.size w7 wr) (fun i _ => n - (intOf i).toNat)
  case atStart => exact ⟨0, by omega, rfl, Below.refl _ _⟩
  case round =>
    obtain ⟨j, hj, rfl, hb⟩ := hrel
    replace hX := hX.below hb
    replace hQ := hQ.below hb
    have hbw := hbd.trans (hb.mono hbd.size)
    obtain ⟨x0, x1⟩ := hX.c2
    obtain ⟨y0, y1⟩ := hQ.c2
    obtain ⟨g, o, rfl, _, _, hcp⟩ := HCP.out (by omega)
    obtain ⟨g', o', rfl, _, _, hcq⟩ := HCL.out (by omega)
    by_cases hlt : j < n
    · obtain ⟨f, u, a, ad, l1, m1, he, hf, hu, hl1, hlm1, _, hst1, hcell⟩ := hcp j hlt
      obtain ⟨f', v, a', ad', l2, m2', he', hf', hv, hl2, hlm2, _, hst2, hcell'⟩ := hcq j (by omega)
      obtain ⟨f2, u2, v2, a2, q1, q2, q3, q4, q5⟩ := HGA.out j hlt
      have hla := HL20.out.at_ j
      rw [he] at q1 hla
      rw [he'] at q2
      simp only [Prod.mk.injEq] at q1 q2
      obtain ⟨r1, r2, r3⟩ := q1
      subst r1 r2 r3
      obtain ⟨r1, r2, r3⟩ := q2
      replace r1 := r1.symm
      replace r3 := r3.symm
      subst r1 r2 r3
      obtain ⟨c0, c1, c2⟩ := hcell wr hbw
      obtain ⟨d0, d1, d2⟩ := hcell' wr hb
      have hs1 := stok_parts q3
      have hs2 := stok_parts q4
      have hs1u : u ≤ 4611686018427387904 := hs1.2.1
      have hs1f : f < u := hs1.1
      have HLA : Hid (∀ l ∈ a, l.length ≤ 1000000) := Lib.hid fun l hl => by have := hla.2 l hl; omega
      have hl18 : l1 ≤ 1000000 := by rw [← hl1]; have h8 : a.length ≤ 8 := hs1.2.2.2.1; omega
      have hl28 : l2 ≤ 1000000 := by rw [← hl2]; have h8 : a.length ≤ 8 := hs1.2.2.2.1; omega
      have HS1 := Lib.hid (hst1.below hbw)
      have HS2 := Lib.hid (hst2.below hb)
      have e4 : (j : Int) < n := by omega
      have e5 : (j : Int) < N' := by omega
      have e6 : IntKind.i64.wrap ((j : Int) + 1) = ((j + 1 : Nat) : Int) := IntWalk.i64_in _ (by omega)
      obtain ⟨da, db, D1, D2⟩ := deal_same (x := f) q3 q4 (Int.le_refl _) hs1.1 hs2.1
      have hd1 := dealt_any _ f u ad l1 m1 a f wr HS1.out hlm1 hl18 HLA.out hf.1 (by omega) (by omega)
      have hd2 := fun w' (h : Below wr.heap.size wr w') => dealt_any _ f v ad' l2 m2' a f w' (HS2.out.below h) hlm2 hl28 HLA.out hf.1 (by omega) (by omega)
      unfold BPost at hd1 hd2
      rw [D1] at hd1
      rw [D2] at hd2
      have HD2 := Lib.hid hd2
      clear hd2 D1 D2 he he' hl1 hl2 hst1 hst2 hcell hcell' q3 q4 hs1 hs2 hla hcp hcq q5
      go_wp2_with fail
      refine hd1.mono ?_
      rintro en w8 ⟨rfl, hb8⟩
      replace hb := hb.trans (hb8.mono hb.size)
      replace hX := hX.below hb8
      have y1' := (hb8.cell (lt_of_cell y1)).trans y1
      have d0' := (hb8.cell (lt_of_cell d0)).trans d0
      have d1' := (hb8.cell (lt_of_cell d1)).trans d1
      have d2' := (hb8.cell (lt_of_cell d2)).trans d2
      clear y0 y1 d0 d1 d2 c0 c1 c2 x0 x1 hd1
      go_wp2_with fail
      refine (HD2.out w8 hb8).mono ?_
      rintro en w9 ⟨rfl, hb9⟩
      replace hb := hb.trans (hb9.mono hb.size)
      clear y1' d0' d1' d2' hb8 HD2
      go_wp2
      go_roundw
      case rel => exact ⟨j + 1, by omega, by go_num, hb⟩
      case measure => simp [intOf]; omega
    · have hjn : j = n := by omega
      subst hjn
      obtain ⟨f, u, a, ad, l1, m1, he, hf, hu, hl1, hlm1, _, hst1, hcell⟩ := hcp k (by omega)
      obtain ⟨f', v, a', ad', l2, m2', he', hf', hv, hl2, hlm2, _, hst2, hcell'⟩ := hcq k (by omega)
      obtain ⟨f2, u2, v2, a2, q1, q2, q3, q4, q5⟩ := HGA.out k (by omega)
      have hla := HL20.out.at_ k
      rw [he] at q1 hla
      rw [he'] at q2
      simp only [Prod.mk.injEq] at q1 q2
      obtain ⟨r1, r2, r3⟩ := q1
      subst r1 r2 r3
      obtain ⟨r1, r2, r3⟩ := q2
      replace r1 := r1.symm
      replace r3 := r3.symm
      subst r1 r2 r3
      obtain ⟨c0, c1, c2⟩ := hcell wr hbw
      obtain ⟨d0, d1, d2⟩ := hcell' wr hb
      have hs1 := stok_parts q3
      have hs2 := stok_parts q4
      have hs1u : u ≤ 4611686018427387904 := hs1.2.1
      have hs1f : f < u := hs1.1
      have HLA : Hid (∀ l ∈ a, l.length ≤ 1000000) := Lib.hid fun l hl => by have := hla.2 l hl; omega
      have hl18 : l1 ≤ 1000000 := by rw [← hl1]; have h8 : a.length ≤ 8 := hs1.2.2.2.1; omega
      have hl28 : l2 ≤ 1000000 := by rw [← hl2]; have h8 : a.length ≤ 8 := hs1.2.2.2.1; omega
      have HS1 := Lib.hid (hst1.below hbw)
      have HS2 := Lib.hid (hst2.below hb)
      obtain ⟨hvt, hft, hu2⟩ := q5 rfl
      subst hvt hu2
      have ht4 := HT4.out
      have et : IntKind.u64.wrap (v - 1) = v - 1 := IntWalk.u64_in _ (by omega)
      have e4 : (k : Int) < j := by omega
      have e5 : (k : Int) < N' := by omega
      obtain ⟨da, db, D1, D2⟩ := deal_same (x := v - 1) q3 q4 (by omega) (by omega) (by omega)
      have hd1 := dealt_any _ f 4611686018427387904 ad l1 m1 a (v - 1) wr HS1.out hlm1 hl18 HLA.out hf.1 (by omega) (by omega)
      have hd2 := fun w' (h : Below wr.heap.size wr w') => dealt_any _ f v ad' l2 m2' a (v - 1) w' (HS2.out.below h) hlm2 hl28 HLA.out hf.1 (by omega) (by omega)
      unfold BPost at hd1 hd2
      rw [D1] at hd1
      rw [D2] at hd2
      have HD2 := Lib.hid hd2
      clear hd2 D1 D2 he he' hl1 hl2 hst1 hst2 hcell hcell' q3 q4 hs1 hs2 hla hcp hcq q5
      go_wp2_with fail
      refine hd1.mono ?_
      rintro en w8 ⟨rfl, hb8⟩
      replace hb := hb.trans (hb8.mono hb.size)
      replace hX := hX.below hb8
      replace hQ := hQ.below hb8
      have d0' := (hb8.cell (lt_of_cell d0)).trans d0
      have d1' := (hb8.cell (lt_of_cell d1)).trans d1
      have d2' := (hb8.cell (lt_of_cell d2)).trans d2
      clear y0 y1 d0 d1 d2 c0 c1 c2 x0 x1 hd1
      obtain ⟨y0, y1⟩ := hQ.c2
      go_wp2_with fail
      refine (HD2.out w8 hb8).mono ?_
      rintro en w9 ⟨rfl, hb9⟩
      replace hb := hb.trans (hb9.mono hb.size)
      replace hX := hX.below hb9
      replace hQ := hQ.below hb9
      clear y0 y1 d0' d1' d2' hb8 hb9 HD2
      obtain ⟨y0, y1⟩ := hQ.c2
      go_wp2_with fail
      refine (prright_any _ (e + 1) _ N' m' G w9 (HPT.out.below hb) (by omega) HGP.out.1).mono ?_
      rintro en w10 ⟨rfl, hb10⟩
      rw [HOK.out]
      replace hb := hb.trans (hb10.mono hb.size)
      replace hX := hX.below hb10
      replace hQ := hQ.below hb10
      clear y0 y1 hb10
      obtain ⟨y0, y1⟩ := hQ.c2
      obtain ⟨x0, x1⟩ := hX.c2
      replace hbd := hbd.trans (hb.mono hbd.size)
      go_wp2_with fail
      refine (live20_any _).mono ?_
      rintro en wl ⟨rfl, hbl⟩
      replace hbd := hbd.trans (hbl.mono hbd.size)
      go_wp2
      go_ret
      exact ⟨rfl, hbd⟩

set_option maxRecDepth 100000 in
theorem lifted (os : Os) (started : os.Started) (H : Type) (enc : TypeId × Value → H) :
    ReturnsInHanded {} Try.checked os 5 .any (Rows.projGrowsSpec.pre6 enc Try.prog Try.f5 Rows.projGrowsRow.domain false) (Rows.projGrowsSpec.post enc Try.prog Try.f5 false true false false) := by
  refine returnsInHanded_of_change (C := Try.checked) own started (by kernel_rfl) Try.func5
    (ChangeSpec.witness6 (enc := enc) (C := Try.checked) false ⟨#[], #[.agg #[.int .u64 0, .slice none 0 0], .int .u64 0, .slice none 0 0], []⟩ 8 (by kernel_rfl) (by kernel_rfl) (by kernel_rfl) (by kernel_rfl)) ?_
  intro W base args ds gs before hval0 hW hcnd _
  have hval : ∀ (j : Nat) t v, Try.f5.params[j]? = some t → args[j]? = some v → Value.okWide Try.prog W .any base t v := hval0
  have hW' := hW
  obtain ⟨p, q, hA0, hV, rfl, hfz, hnd⟩ := hW
  have hA : DataW.TrodAll enc Try.prog W 0 (fun _ => true) true Try.f5.params.toList args.toList ds p := hA0
  rw [Try.params5] at hA hval
  obtain ⟨v0, vs0, d0, ds0, p0, q0, hargs, rfl, rfl, h0, r0⟩ := trodAll_cons hA
  obtain ⟨v1, vs1, d1, ds1, p1, q1, rfl, rfl, rfl, h1, r1⟩ := trodAll_cons r0
  obtain ⟨v2, vs2, d2, ds2, p2, q2, rfl, rfl, rfl, h2, r2⟩ := trodAll_cons r1
  obtain ⟨rfl, rfl, rfl⟩ := trodAll_nil r2
  obtain rfl : args = #[v0, v1, v2] := by cases args; simp_all
  obtain ⟨rfl, rfl⟩ := trodVars_none hV
  have lt0 : ∀ x ∈ p0, x.block < W.heap.size := by obtain ⟨m, hm⟩ := h0; exact DataW.trod_lt m _ _ _ hm
  have lt1 : ∀ x ∈ p1, x.block < W.heap.size := by obtain ⟨m, hm⟩ := h1; exact DataW.trod_lt m _ _ _ hm
  have lt2 : ∀ x ∈ p2, x.block < W.heap.size := by obtain ⟨m, hm⟩ := h2; exact DataW.trod_lt m _ _ _ hm
  clear hA0 hval0
  refine (walk enc W base v0 d0 p0 (hval 0 25 v0 rfl rfl) h0 v1 d1 p1 (hval 1 22 v1 rfl rfl) h1 v2 d2 p2 (hval 2 57 v2 rfl rfl) h2).mono fun e W' ⟨he, bel⟩ => ?_
  subst he
  exact ⟨_, rfl, _, _, _, [], _, [], hW', trodAll_mk1 (shut_bool Try.underlying4 _), (trodAll_cons_mk (Below.trod laidOut (by kernel_rfl) (of_decide_eq_true (by kernel_rfl)) h0 bel lt0) (trodAll_cons_mk (Below.trod laidOut (by kernel_rfl) (of_decide_eq_true (by kernel_rfl)) h1 bel lt1) (trodAll_cons_mk (Below.trod laidOut (by kernel_rfl) (of_decide_eq_true (by kernel_rfl)) h2 bel lt2) trodAll_mk0))), rfl, bel.frame _, fun h => by cases h⟩

theorem over : Rows.projGrowsRow.holds Try.pinned (OpenSpec.ofChange Rows.projGrowsSpec) :=
  OpenClaim.holds_of_wide 5 Try.f5 rfl rfl rfl rfl rfl rfl rfl ⟨rfl, rfl, rfl, rfl, rfl⟩ rfl rfl rfl rfl rfl (by kernel_rfl) Try.func5 (by kernel_rfl)
    (of_decide_eq_true (by kernel_rfl)) (by unfold Func.isWrapper; first | (rw [if_pos (by decide +kernel)]; kernel_rfl) | (rw [if_neg (by decide +kernel)]; exact ⟨rfl, rfl⟩))
    (fun os started H enc _ => lifted os started H enc)

/-- THE STATEMENT. -/
theorem proved : Rows.ProjGrowsSaid := over
#print axioms proved
end Go.Proofs.Ytghlediibhnloaa.projGrows
