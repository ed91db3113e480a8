/- ProjSwaps: called with any projection and any two numbers, the law returns true; no condition. -/
import Derived.Test.YtghlediibhnloaaRows
import Derived.Test.YtghlediibhnloaaPrjD
import Derived.Test.YtghlediibhnloaaPrjB
import Derived.Test.YtghlediibhnloaaPrjL
import Derived.Test.YtghlediibhnloaaSwpH
import Derived.Test.YtghlediibhnloaaSwpL
import Derived.Test.YtghlediibhnloaaK1
import Derived.ProofKit
import Derived.OpenShut
import Derived.ShutString
import Derived.ChangeOld
namespace Go.Proofs.Ytghlediibhnloaa.projSwaps
open Go.ChangeShapes Go.WideShapes Go.ChangeAt Go.RowKit
open Go.ChangeMaps (open_string shut_string)
set_option linter.unusedVariables false

theorem own : ownKnob Try.prog.godebug = none := by kernel_rfl
theorem laidOut : laidOutB Try.prog = true := by kernel_rfl
open Cur Mem

set_option maxRecDepth 100000

theorem swv_cases (e : Int) (L : List Stp) (o d : Int) : (swv e L o d = (0, (e + 1, swp o d L)) ∧ prok (e, L) = true ∧ hasv L o = true ∧ prok (e + 1, swp o d L) = true) ∨ ((swv e L o d).1 ≠ 0 ∧ (swv e L o d).2 = prj0) := by
  by_cases h1 : prok (e, L) = true
  · by_cases h2 : hasv L o = true
    · rw [swv_end h1 h2]
      by_cases h4 : nxk e = true
      · by_cases h5 : prok (e + 1, swp o d L) = true
        · left
          exact ⟨endv_ok h4 h5, h1, h2, h5⟩
        · right; rw [endv_bad h4 (by simpa using h5)]; exact ⟨by decide, rfl⟩
      · right; rw [endv_no (by simpa using h4)]; exact ⟨by decide, rfl⟩
    · right; rw [swv_none h1 (by simpa using h2)]; exact ⟨by decide, rfl⟩
  · right; rw [swv_no (by simpa using h1)]; exact ⟨by decide, rfl⟩
/-- Swapped back the stripes are as they were, unless there is no next epoch. -/
theorem swv_back {e : Int} {L : List Stp} {o d : Int} (h1 : prok (e, L) = true) (h2 : hasv L o = true) (h3 : prok (e + 1, swp o d L) = true) (h4 : hasv L d = false) : swv (e + 1) (swp o d L) d o = (0, (e + 1 + 1, L)) ∨ swv (e + 1) (swp o d L) d o = (18, prj0) := by
  have hr : ∀ s ∈ L, ∀ l ∈ s.2.2, risesB l = true := fun s hs l hl => by
    obtain ⟨i, hi, e⟩ := List.mem_iff_getElem.1 hs
    have h5 := prok_sts h1 i hi
    rw [List.getD_eq_getElem?_getD, List.getElem?_eq_getElem hi, Option.getD_some, e] at h5
    exact (sok_rises (stok_parts h5).2.2.2.2 l hl).1
  rw [swv_end h3 (has_back h2), swp_back hr h4]
  by_cases hn : nxk (e + 1) = true
  · left
    refine endv_ok hn ?_
    obtain ⟨k1, k2, k3, k4⟩ := prok_parts h1
    have hb := of_decide_eq_true hn
    unfold prok
    dsimp only at k2 k3 k4 ⊢
    rw [epk_yes (by omega) (by omega), decide_eq_true k2, decide_eq_true k3, k4]; rfl
  · right; exact endv_no (by simpa using hn)
theorem hmet_s {o : Int} {L : List Stp} {k : Nat} (hk : k < L.length) : hmet o L (k + 1) 0 = (hmet o L k 0 || (L.getD k stp0).2.2.any fun l => l.contains o) := by
  unfold hmet
  rw [← take_snoc (d := stp0) hk, List.any_append]
  simp


set_option maxHeartbeats 16000000 in
theorem walk {H : Type} (enc : TypeId × Value → H) (w : World) (base : Nat) (v0 : Value) (d0 : DataW H) (p0 : List MemPlace) (g0 : Value.okWide Try.prog w .any base 25 v0) (h0 : DataW.Trod enc Try.prog w 0 (fun _ => true) true 25 v0 d0 p0) (v1 : Value) (d1 : DataW H) (p1 : List MemPlace) (g1 : Value.okWide Try.prog w .any base 22 v1) (h1 : DataW.Trod enc Try.prog w 0 (fun _ => true) true 22 v1 d1 p1) (v2 : Value) (d2 : DataW H) (p2 : List MemPlace) (g2 : Value.okWide Try.prog w .any base 22 v2) (h2 : DataW.Trod enc Try.prog w 0 (fun _ => true) true 22 v2 d2 p2) :
    Calls Try.prog 6 #[v0, v1, v2] w fun e w' => e = .returned (.bool true) ∧ Below w.heap.size w w' := by
  obtain ⟨e, A, n, m, L, rfl, ⟨e0, e1⟩, hm, hnil, hz⟩ := open_prj g0 h0
  obtain ⟨o, rfl, o0, o1⟩ := open_u64 g1 h1
  obtain ⟨d, rfl, d0, d1⟩ := open_u64 g2 h2
  clear g0 h0 g1 h1 g2 h2
  have hX := Blk.new w (prc e A n m) 25
  have hbd := below_one w (.cells (prc e A n m) 25)
  have HZ := Lib.hid hz
  have HL := Lib.hid hz.1
  have HNIL := Lib.hid hnil
  clear hz hnil
  obtain ⟨x0, x1⟩ := hX.c2
  go_enter Try.func6, Try.ntmps6
  go_wp2_with fail
  generalize w.alloc (.cells (prc e A n m) 25) = w0 at *
  refine (long20_any _ e A n m L _ (HZ.out.below hbd)).mono ?_
  rintro en w1 ⟨b1, rfl, hb1, hl1⟩
  replace hX := hX.below hb1
  replace hbd := hbd.trans (hb1.mono hbd.size)
  clear hb1 x0 x1
  cases b1
  case true =>
    clear hl1 hX
    go_wp2_with fail
    refine (live20_any _).mono ?_
    rintro en wl ⟨rfl, hbl⟩
    replace hbd := hbd.trans (hbl.mono hbd.size)
    go_wp2
    go_ret
    exact ⟨rfl, hbd⟩
  obtain ⟨hn20, hl20⟩ := hl1 rfl
  have HL20 := Lib.hid hl20
  clear hl1 hl20
  obtain ⟨x0, x1⟩ := hX.c2
  have HGP : Hid (plen 1000000 (swv e L o d).2.2 ∧ (swv e L o d).2.2.length ≤ 900 ∧ plen 900 (swv e L o d).2.2) := Lib.hid (by
    have h1 := swp_plen (o := o) (d := d) HL20.out
    have h2 := swp_len o d L
    rw [HL.out] at h2
    rcases swv_cases e L o d with ⟨h, _⟩ | ⟨_, h⟩
    · rw [h]; exact ⟨h1.up (by omega), by show (swp o d L).length ≤ 900; omega, h1.up (by omega)⟩
    · rw [h]; exact ⟨fun s hs => by simp [prj0] at hs, by simp [prj0], fun s hs => by simp [prj0] at hs⟩)
  have hW := hbd.size
  go_wp2_with fail
  refine (swap_any e A n m L o d w1 ((HZ.out.below hbd).mono fun b h9 _ => by have h8 : b < w.heap.size := h9; omega) hm HNIL.out (by omega) (HL20.out.up (by omega)) e0 e1 ⟨d0, d1⟩).mono ?_
  rintro en w3 ⟨A', N', m', rfl, hb3, hpt, hm', hn'⟩
  have HCASE := Lib.hid (swv_cases e L o d)
  have hG1 := hpt.1
  have hrg := fun w' h => rswap_any e A n m L o d w' ((HZ.out.below h).mono fun b h9 _ => by have h8 : b < w.heap.size := h9; have := h.size; omega) hm HNIL.out (by omega) (HL20.out.up (by omega)) e0 e1 ⟨d0, d1⟩
  unfold PePost at hrg
  generalize swv e L o d = R at *
  obtain ⟨cd, e', G⟩ := R
  dsimp only at *
  have HRG := Lib.hid hrg
  have hN' : N' ≤ 900 := by have := HGP.out.2.1; rw [hG1] at this; exact this
  have HN2 := Lib.hid hn'
  have hbx := hb3.trans ((below_one w3 (.cells (prc e' A' N' m') 25)).mono hb3.size)
  have hQ := Blk.new w3 (prc e' A' N' m') 25
  replace hpt := (hpt.mono (Q := fun b => b < w3.heap.size) fun b _ hl => hl).below (below_one w3 (.cells (prc e' A' N' m') 25))
  replace hX := hX.below hbx
  replace hbd := hbd.trans (hbx.mono hbd.size)
  have hs34 : w3.heap.size < (w3.alloc (.cells (prc e' A' N' m') 25)).heap.size := by simp
  clear hrg hb3 hbx x0 x1 hG1 hn'
  go_upto_region 4 with (fail)
  generalize w3.alloc (.cells (prc e' A' N' m') 25) = w4 at *
  generalize w3.heap.size = qb at *
  obtain ⟨x0, x1⟩ := hX.c2
  go_wp2_with fail
  refine (HRG.out w4 hbd).mono ?_
  rintro en w5 ⟨A2, N2, m2, rfl, hb5, hpt2, hm2, hn2⟩
  obtain rfl : N' = N2 := by rw [← hpt.1, ← hpt2.1]
  have hbx := hb5.trans ((below_one w5 (.cells (prc e' A2 N' m2) 25)).mono hb5.size)
  have hR := Blk.new w5 (prc e' A2 N' m2) 25
  replace hpt2 := hpt2.below (below_one w5 (.cells (prc e' A2 N' m2) 25))
  replace hpt := hpt.below hbx
  replace hX := hX.below hbx
  replace hQ := hQ.below hbx
  replace hbd := hbd.trans (hbx.mono hbd.size)
  have h46 := hbx.size
  clear HRG hb5 hbx x0 x1
  go_upto_region 5 with (fail)
  generalize w5.alloc (.cells (prc e' A2 N' m2) 25) = w6 at *
  generalize w5.heap.size = rb at *
  obtain ⟨x0, x1⟩ := hQ.c2
  obtain ⟨y0, y1⟩ := hR.c2
  go_wp2_with fail
  refine (rprsame_any _ _ e' A' N' m' G e' A2 N' m2 G _ hpt hpt2 (by omega) (by omega) HGP.out.1 HGP.out.1).mono ?_
  rintro en w7 ⟨rfl, hb7⟩
  rw [decide_eq_true rfl]
  replace hpt := hpt.below hb7
  replace hX := hX.below hb7
  replace hQ := hQ.below hb7
  replace hbd := hbd.trans (hb7.mono hbd.size)
  have h67 := hb7.size
  clear hb7 x0 x1 y0 y1 hpt2 hR
  rcases HCASE.out with ⟨h1, h2, h3, h5⟩ | ⟨h1, _⟩
  case inr =>
    have hcb : (cd != 0) = true := by simpa using h1
    clear h1 hpt hX hQ HCASE
    go_wp2_with fail
    refine (live20_any _).mono ?_
    rintro en wl ⟨rfl, hbl⟩
    replace hbd := hbd.trans (hbl.mono hbd.size)
    go_wp2
    go_ret
    exact ⟨rfl, hbd⟩
  injection h1 with h1 h6
  injection h6 with h6 h7
  subst h1 h6
  have HSTK := Lib.hid (prok_sts h2)
  have hepk := epk_bd (prok_parts h2).1
  have HBACK := Lib.hid (fun h4 => swv_back (o := o) (d := d) h2 h3 h5 h4)
  rw [← h7] at HBACK
  have HPT := Lib.hid hpt
  have HCP := Lib.hid (fun h => (HZ.out).cells h)
  have hs74 : qb < w7.heap.size := by omega
  clear h2 h3 h5 h7 hpt HCASE hs34 h46 h67
  obtain ⟨x0, x1⟩ := hX.c2
  go_wp2
  clear x0 x1
  go_loopw [11, 12] (fun t i wr => ∃ j : Nat, j ≤ n ∧ i = .int .i64 j ∧ t = .bool (hmet d L j 0) ∧ Below w7.heap.size w7 wr) (fun _ i _ => n - (intOf i).toNat)
  case atStart => exact ⟨0, by omega, rfl, by rw [hmet_zero], Below.refl _ _⟩
  case round =>
    obtain ⟨j, hj, rfl, ht, hb⟩ := hrel
    obtain ⟨mb, hmb⟩ : ∃ mb, mb = hmet d L j 0 := ⟨_, rfl⟩
    rw [← hmb] at ht
    subst ht
    have HMB := Lib.hid hmb
    clear hmb
    replace hX := hX.below hb
    replace hQ := hQ.below hb
    have hbw := hbd.trans (hb.mono hbd.size)
    obtain ⟨x0, x1⟩ := hX.c2
    by_cases hlt : j < n
    · obtain ⟨g, of, rfl, _, _, hcp⟩ := HCP.out (by omega)
      obtain ⟨f, u, S, ad, l1, m1, he, hf, hu, hl1, hlm1, _, hst1, hcell⟩ := hcp j hlt
      have hjL : j < L.length := by rw [HL.out]; exact hlt
      have hla := HL20.out.at_ j
      have hsk := HSTK.out j hjL
      have HMS := Lib.hid (hmet_s (o := d) hjL)
      rw [he] at hla hsk HMS
      obtain ⟨c0, c1, c2⟩ := hcell wr hbw
      have e4 : (j : Int) < n := by omega
      have e6 : IntKind.i64.wrap ((j : Int) + 1) = ((j + 1 : Nat) : Int) := IntWalk.i64_in _ (by omega)
      have hset := stset_any _ f u ad l1 m1 S d wr (hst1.below hbw) hlm1 (by rw [← hl1]; have h8 : S.length ≤ 20 := hla.1; omega) (fun l hl => by have := hla.2 l hl; omega)
      rw [if_pos hsk] at hset
      unfold BPost hlv at hset
      have HAN := Lib.hid (hli_any S d)
      generalize (if 0 ≤ hli S d then hli S d else 0) = hi at hset
      generalize decide (0 ≤ hli S d) = hq at hset HAN
      dsimp only at HMS
      rw [← HAN.out, ← HMB.out] at HMS
      clear hcp he hl1 hst1 hcell hla hsk hjL HAN
      go_wp2_with fail
      refine hset.mono ?_
      rintro en w8 ⟨rfl, hb8⟩
      replace hb := hb.trans (hb8.mono hb.size)
      clear hset hb8 x0 x1 c0 c1 c2
      cases mb
      · go_wp2
        go_roundw
        case rel => exact ⟨j + 1, by omega, by go_num, by rw [HMS.out, Bool.false_or], hb⟩
        case measure => simp [intOf]; omega
      · go_wp2
        go_roundw
        case rel => exact ⟨j + 1, by omega, by go_num, by rw [HMS.out, Bool.true_or], hb⟩
        case measure => simp [intOf]; omega
    · obtain rfl : j = n := by omega
      have HMH : Hid (mb = hasv L d) := Lib.hid (by rw [HMB.out, ← HL.out, hmet_all])
      obtain ⟨q0, q1⟩ := hQ.c2
      have hback := swap_any (e + 1) A' N' m' G d o wr ((HPT.out.below hb).mono fun b h9 _ => by have h8 : b < qb := h9; have := hb.size; omega) hm' HN2.out hN' HGP.out.2.2 (by omega) (by omega) ⟨o0, o1⟩
      have HGL : Hid ((swv (e + 1) G d o).2.2.length ≤ 1000000 ∧ plen 1000000 (swv (e + 1) G d o).2.2) := Lib.hid (by
        have h1 := swp_plen (o := d) (d := o) HGP.out.1
        have h2 := swp_len d o G
        have h3 := HGP.out.2.1
        rcases swv_cases (e + 1) G d o with ⟨h, _⟩ | ⟨_, h⟩
        · rw [h]; exact ⟨by show (swp d o G).length ≤ 1000000; omega, h1⟩
        · rw [h]; exact ⟨by simp [prj0], fun s hs => by simp [prj0] at hs⟩)
      unfold PePost at hback
      obtain ⟨R2, hR2⟩ : ∃ R2, R2 = swv (e + 1) G d o := ⟨_, rfl⟩
      rw [← hR2] at hback HBACK HGL
      obtain ⟨cd2, e2, G2⟩ := R2
      dsimp only at hback HGL
      go_wp2_with fail
      refine hback.mono ?_
      rintro en w9 ⟨A3, N3, m3, rfl, hb9, hpt3, hm3, hn3⟩
      have hbx := hb9.trans ((below_one w9 (.cells (prc e2 A3 N3 m3) 25)).mono hb9.size)
      have hT := Blk.new w9 (prc e2 A3 N3 m3) 25
      have hX9 := hX.below hbx
      have hxl := (hX.below hb9).lt
      have hpt4 := (hpt3.mono (Q := fun b => b < w9.heap.size) fun b _ hl => hl).below (below_one w9 (.cells (prc e2 A3 N3 m3) 25))
      have hwr9 := hb9.size
      replace hbd := hbw.trans (hbx.mono hbw.size)
      have HP3 := Lib.hid hpt3.1
      clear hback hb9 hbx hpt3 x0 x1 q0 q1 hX hQ hb hbw hR2
      go_upto_region 16 with (fail)
      generalize w9.alloc (.cells (prc e2 A3 N3 m3) 25) = w10 at *
      generalize w9.heap.size = tb at *
      cases mb
      case true =>
        clear hT hX9 hpt4
        go_wp2_with fail
        refine (live20_any _).mono ?_
        rintro en wl ⟨rfl, hbl⟩
        replace hbd := hbd.trans (hbl.mono hbd.size)
        go_wp2
        go_ret
        exact ⟨rfl, hbd⟩
      rcases HBACK.out HMH.out.symm with h | h
      case inr =>
        injection h with h h'
        subst h
        clear hT hX9 hpt4
        go_wp2_with fail
        refine (live20_any _).mono ?_
        rintro en wl ⟨rfl, hbl⟩
        replace hbd := hbd.trans (hbl.mono hbd.size)
        go_wp2
        go_ret
        exact ⟨rfl, hbd⟩
      injection h with h1 h'
      injection h' with h2 h3
      have h3' := h3.symm
      clear h3
      subst h1 h2 h3'
      have hN3 : N3 = j := by rw [← HP3.out, HL.out]
      subst hN3
      obtain ⟨x0, x1⟩ := hX9.c2
      obtain ⟨t0, t1⟩ := hT.c2
      have t2 := hT.free 0
      have hT5 := hT.set 0 (.int .u64 e)
      have hX5 := hX9.far (g := tb) 0 (.int .u64 e) (by omega)
      have hbd5 := Below.setCell hbd (p := ⟨tb, 0, none⟩) (by show w.heap.size ≤ tb; omega) (.int .u64 e)
      have hpt5 := hpt4.keep (w' := w10.setCell ⟨tb, 0, none⟩ (.int .u64 e)) (fun b hb9 hl => Below.heap_setCell _ _ _ _ (fun e => by have h8 : b < tb := hb9; have e2 : b = tb := e; omega))
      clear hT hX9 hbd hpt4
      go_upto_region 19 with (fail)
      clear x0 x1 t0 t1 t2
      generalize w10.setCell ⟨tb, 0, none⟩ (.int .u64 e) = w11 at *
      have hT6 : Blk w11 tb (prc e A3 N3 m3) 25 := hT5
      obtain ⟨x0, x1⟩ := hX5.c2
      obtain ⟨t0, t1⟩ := hT6.c2
      have hbd := hbd5
      have hzp := HZ.out.below hbd
      clear hT5 hbd5
      go_wp2_with fail
      refine (rprsame_any _ _ e A3 N3 m3 L e A N3 m L _ hpt5 hzp (by omega) (by omega) HGL.out.2 HGL.out.2).mono ?_
      rintro en w12 ⟨rfl, hb12⟩
      rw [decide_eq_true rfl]
      replace hbd := hbd.trans (hb12.mono hbd.size)
      clear hb12 x0 x1 t0 t1 hT6 hX5 hpt5 hzp
      go_wp2_with fail
      refine (live20_any _).mono ?_
      rintro en wl ⟨rfl, hbl⟩
      replace hbd := hbd.trans (hbl.mono hbd.size)
      go_wp2
      go_ret
      exact ⟨rfl, hbd⟩

set_option maxRecDepth 100000 in
theorem lifted (os : Os) (started : os.Started) (H : Type) (enc : TypeId × Value → H) :
    ReturnsInHanded {} Try.checked os 6 .any (Rows.projSwapsSpec.pre6 enc Try.prog Try.f6 Rows.projSwapsRow.domain false) (Rows.projSwapsSpec.post enc Try.prog Try.f6 false true false false) := by
  refine returnsInHanded_of_change (C := Try.checked) own started (by kernel_rfl) Try.func6
    (ChangeSpec.witness6 (enc := enc) (C := Try.checked) false ⟨#[], #[.agg #[.int .u64 0, .slice none 0 0], .int .u64 0, .int .u64 0], []⟩ 8 (by kernel_rfl) (by kernel_rfl) (by kernel_rfl) (by kernel_rfl)) ?_
  intro W base args ds gs before hval0 hW hcnd _
  have hval : ∀ (j : Nat) t v, Try.f6.params[j]? = some t → args[j]? = some v → Value.okWide Try.prog W .any base t v := hval0
  have hW' := hW
  obtain ⟨p, q, hA0, hV, rfl, hfz, hnd⟩ := hW
  have hA : DataW.TrodAll enc Try.prog W 0 (fun _ => true) true Try.f6.params.toList args.toList ds p := hA0
  rw [Try.params6] at hA hval
  obtain ⟨v0, vs0, d0, ds0, p0, q0, hargs, rfl, rfl, h0, r0⟩ := trodAll_cons hA
  obtain ⟨v1, vs1, d1, ds1, p1, q1, rfl, rfl, rfl, h1, r1⟩ := trodAll_cons r0
  obtain ⟨v2, vs2, d2, ds2, p2, q2, rfl, rfl, rfl, h2, r2⟩ := trodAll_cons r1
  obtain ⟨rfl, rfl, rfl⟩ := trodAll_nil r2
  obtain rfl : args = #[v0, v1, v2] := by cases args; simp_all
  obtain ⟨rfl, rfl⟩ := trodVars_none hV
  have lt0 : ∀ x ∈ p0, x.block < W.heap.size := by obtain ⟨m, hm⟩ := h0; exact DataW.trod_lt m _ _ _ hm
  have lt1 : ∀ x ∈ p1, x.block < W.heap.size := by obtain ⟨m, hm⟩ := h1; exact DataW.trod_lt m _ _ _ hm
  have lt2 : ∀ x ∈ p2, x.block < W.heap.size := by obtain ⟨m, hm⟩ := h2; exact DataW.trod_lt m _ _ _ hm
  clear hA0 hval0
  refine (walk enc W base v0 d0 p0 (hval 0 25 v0 rfl rfl) h0 v1 d1 p1 (hval 1 22 v1 rfl rfl) h1 v2 d2 p2 (hval 2 22 v2 rfl rfl) h2).mono fun e W' ⟨he, bel⟩ => ?_
  subst he
  exact ⟨_, rfl, _, _, _, [], _, [], hW', trodAll_mk1 (shut_bool Try.underlying4 _), (trodAll_cons_mk (Below.trod laidOut (by kernel_rfl) (of_decide_eq_true (by kernel_rfl)) h0 bel lt0) (trodAll_cons_mk (Below.trod laidOut (by kernel_rfl) (of_decide_eq_true (by kernel_rfl)) h1 bel lt1) (trodAll_cons_mk (Below.trod laidOut (by kernel_rfl) (of_decide_eq_true (by kernel_rfl)) h2 bel lt2) trodAll_mk0))), rfl, bel.frame _, fun h => by cases h⟩

theorem over : Rows.projSwapsRow.holds Try.pinned (OpenSpec.ofChange Rows.projSwapsSpec) :=
  OpenClaim.holds_of_wide 6 Try.f6 rfl rfl rfl rfl rfl rfl rfl ⟨rfl, rfl, rfl, rfl, rfl⟩ rfl rfl rfl rfl rfl (by kernel_rfl) Try.func6 (by kernel_rfl)
    (of_decide_eq_true (by kernel_rfl)) (by unfold Func.isWrapper; first | (rw [if_pos (by decide +kernel)]; kernel_rfl) | (rw [if_neg (by decide +kernel)]; exact ⟨rfl, rfl⟩))
    (fun os started H enc _ => lifted os started H enc)

/-- THE STATEMENT. -/
theorem proved : Rows.ProjSwapsSaid := over
#print axioms proved
end Go.Proofs.Ytghlediibhnloaa.projSwaps
