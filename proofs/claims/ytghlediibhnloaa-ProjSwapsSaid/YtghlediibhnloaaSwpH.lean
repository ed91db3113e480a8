/- A node in the place of another one: Swap of the program. -/
import Derived.Test.YtghlediibhnloaaSwpG
import Derived.Test.YtghlediibhnloaaPrjP
namespace Go.Proofs.Ytghlediibhnloaa.Cur
open Go.RowKit Mem
set_option linter.unusedVariables false
set_option maxRecDepth 100000


set_option maxHeartbeats 4000000 in
theorem renews_any (e : Int) (A : Option Addr) (n m : Nat) (L G : List Stp) (c1 c2 : Nat) (w : World) (hz : Pts w (fun b => b < w.heap.size) A n L) (hm : n ≤ m) (hnil : A = none → m = 0) (hn : n ≤ 1000) (hlen : plen 1000 L) (e0 : 0 ≤ e) (e1 : e < 18446744073709551616)
    (hG : plen 1000 G) (hGn : G.length ≤ 2000) (hn1 : 1 ≤ n) (hpn : pne L)
    (hcon : ∀ (W Q : Nat) (v : Value) (a : Nat → Nat) (b : Nat → Nat → Nat) (w1 : World), w.heap.size ≤ W → W ≤ Q → Below w.heap.size w w1 → Blk w1 Q #[.int .u64 (e + 1), v] 25 → StpD w1 W v L a b → Apt L.length (slen L) a b → Calls Try.prog 69 #[.pointer (some ⟨Q, 0, none⟩), .pointer (some ⟨c1, 0, none⟩), .pointer (some ⟨c2, 0, none⟩)] w1 (ChPost W Q (e + 1) G w1)) :
    Calls Try.prog 63 #[pragg e A n m, .func (.func 69) #[] #[.pointer (some ⟨c1, 0, none⟩), .pointer (some ⟨c2, 0, none⟩)]] w (PePost (fun k => w.heap.size ≤ k) (endv e G) w) := by
  have hX := (Blk.new w (prc e A n m) 25).alloc (.cells (prc 0 none 0 0) 25)
  have hY := Blk.new (w.alloc (.cells (prc e A n m) 25)) (prc 0 none 0 0) 25
  rw [show (w.alloc (.cells (prc e A n m) 25)).heap.size = w.heap.size + 1 by simp] at hY
  have hb := below_two w (.cells (prc e A n m) 25) (.cells (prc 0 none 0 0) 25)
  have hw0 : ((w.alloc (.cells (prc e A n m) 25)).alloc (.cells (prc 0 none 0 0) 25)).heap.size = w.heap.size + 2 := by simp
  have HZ := Lib.hid hz
  have HCON := Lib.hid hcon
  have HG := Lib.hid hG
  have HLEN := Lib.hid hlen
  have HPN := Lib.hid hpn
  have HL0 : Hid (0 < L.length) := Lib.hid (by rw [hz.1]; omega)
  obtain ⟨x0, x1⟩ := hX.c2
  obtain ⟨R, hR⟩ : ∃ R, R = endv e G := ⟨_, rfl⟩
  rw [← hR]
  have HR := Lib.hid hR
  clear hz hcon hG hlen hR hpn
  go_enter Try.func63, Try.ntmps63
  go_wp2_with fail
  generalize (w.alloc (.cells (prc e A n m) 25)).alloc (.cells (prc 0 none 0 0) 25) = w0 at *
  refine (enext_any e e0 e1 _).mono ?_
  rintro en w' ⟨rfl, rfl⟩
  by_cases hnx : nxk e = true
  case neg =>
    have hnx' : nxk e = false := by simpa using hnx
    clear hnx
    have HV := Lib.hid (endv_no (G := G) hnx')
    rw [hnx']
    obtain ⟨y0, y1⟩ := hY.c2
    obtain ⟨f0, f1⟩ := hY.f2
    go_wp2
    refine bodyPost_ret (v := .tuple #[pragg 0 none 0 0, .int .i64 18]) (by simp [results, Try.results63, go_sem, y0, y1]) rfl ?_
    rw [HR.out, HV.out]
    refine PePost.zero ?_
    iterate 2 (refine Below.setCell ?_ (by simp) _)
    exact hb
  have hv : nxv e = e + 1 := by unfold nxv; rw [hnx]; rfl
  have hE : e + 1 < 18446744073709551616 := by
    have := of_decide_eq_true hnx
    omega
  rw [hv, hnx]
  have HNX := Lib.hid hnx
  obtain ⟨E, hEE⟩ : ∃ E, E = e + 1 := ⟨_, rfl⟩
  rw [← hEE] at HCON hE ⊢
  have HEE := Lib.hid hEE
  have hE0 : 0 ≤ E := by omega
  clear hv hnx hEE
  go_wp2_with fail
  with_reducible refine (prcopyd_any e A n m L w0 ((HZ.out.below hb).mono fun b hb9 _ => by have h9 : b < w.heap.size := hb9; omega) hm hnil (by omega) (HLEN.out.up (by omega)) hn1 HPN.out).mono ?_
  rintro en w1 ⟨v, aa, bb, rfl, hb1, ho2, hapt⟩
  obtain ⟨gv, cv, hvv, _, _, _, _⟩ := ho2.form HL0.out
  subst hvv
  have HAP := Lib.hid hapt
  clear hapt
  obtain ⟨Av, hAv⟩ : ∃ Av : Option Addr, Av = some ⟨gv, 0, none⟩ := ⟨_, rfl⟩
  rw [← hAv] at ho2 ⊢
  clear hAv
  obtain ⟨nv, hnv⟩ : ∃ nv, nv = L.length := ⟨_, rfl⟩
  rw [← hnv] at ho2 ⊢
  clear hnv
  have hsz1 := hb1.size
  have hA := below_one w1 (.cells #[.int .u64 e, .slice Av nv cv] 25)
  have hQ := Blk.new w1 #[.int .u64 e, .slice Av nv cv] 25
  have hX2 := (hX.below hb1).below hA
  have hY2 := (hY.below hb1).below hA
  have hb2 := hb.trans (hb1.mono hb.size)
  replace hb2 := hb2.trans (hA.mono hb2.size)
  have ho3 := ho2.below hA
  have hl2 : (w1.alloc (.cells #[.int .u64 e, .slice Av nv cv] 25)).heap.size = w1.heap.size + 1 := by simp
  clear hX hY hb1 ho2 hA x0 x1
  go_upto_region 5 with (fail)
  generalize w1.alloc (.cells #[.int .u64 e, .slice Av nv cv] 25) = w2 at *
  generalize w1.heap.size = Q at *
  have hQ3 := hQ.set 0 (.int .u64 E)
  have hX3 := hX2.far (g := Q) 0 (.int .u64 E) (by omega)
  have hY3 := hY2.far (g := Q) 0 (.int .u64 E) (by omega)
  have hb3 := Below.setCell hb2 (p := ⟨Q, 0, none⟩) (by show w.heap.size ≤ Q; omega) (.int .u64 E)
  have ho4 := ho3.far (o := 0) (x := .int .u64 E) HL0.out hQ
  obtain ⟨q0, q1⟩ := hQ.c2
  have q2 := hQ.free 0
  go_upto_region 6 with (fail)
  clear q0 q1 q2 hQ hX2 hY2 hb2 ho3
  generalize w2.setCell ⟨Q, 0, none⟩ (.int .u64 E) = w3 at *
  have hQ4 : Blk w3 Q #[.int .u64 E, .slice Av nv cv] 25 := hQ3
  have hc := HCON.out w0.heap.size Q (.slice Av nv cv) aa bb w3 (by omega) (by omega) hb3 hQ4 ho4 HAP.out
  clear HCON hQ3
  go_wp2_with fail
  with_reducible refine hc.mono ?_
  rintro en w4 ⟨v', rfl, hk4, hq4, ho5⟩
  have hX4 := hX3.ks hk4 (by omega)
  have hY4 := hY3.ks hk4 (by omega)
  have hb4 := Ks.below hb3 (Nat.le_refl _) hk4 (fun b h9 => by omega)
  obtain ⟨A', c', rfl, hc1, hc2, hpt⟩ := ho5.pts
  clear hc hX3 hY3 hb3 ho4 hk4 ho5 hQ4
  obtain ⟨N, hN⟩ : ∃ N, N = G.length := ⟨_, rfl⟩
  rw [← hN] at hq4 hc1 hpt
  have hN2 : N ≤ 2000 := by omega
  clear hN
  obtain ⟨q0, q1⟩ := hq4.c2
  go_wp2_with fail
  with_reducible refine (prright_any _ E A' N c' G w4 hpt (by omega) (HG.out.up (by omega))).mono ?_
  rintro en w5 ⟨rfl, hb5⟩
  replace hb4 := hb4.trans (hb5.mono hb4.size)
  have hY5 := hY4.below hb5
  have hq5 := hq4.below hb5
  have hpt5 := hpt.below hb5
  clear q0 q1 hX4 hY4 hq4 hpt hb5
  obtain ⟨y0, y1⟩ := hY5.c2
  obtain ⟨f0, f1⟩ := hY5.f2
  obtain ⟨q0, q1⟩ := hq5.c2
  by_cases hok : prok (E, G) = true
  · rw [hok]
    have HV : Hid (endv e G = (0, (E, G))) := Lib.hid (by rw [HEE.out] at hok ⊢; exact endv_ok HNX.out hok)
    clear hok
    have HP := Lib.hid hpt5
    clear hpt5
    go_wp2
    refine bodyPost_ret (v := .tuple #[pragg E A' N c', .int .i64 0]) (by simp [results, Try.results63, go_sem, y0, y1]) rfl ?_
    rw [HR.out, HV.out]
    refine ⟨A', N, c', rfl, ?_, ?_, hc1, hc2⟩
    · iterate 2 (refine Below.setCell ?_ (by simp) _)
      exact hb4
    · refine Pts.mono (Pts.keep HP.out (fun b hb9 _ => ?_)) (fun b hb9 _ => by have h9 : w0.heap.size ≤ b := hb9; show w.heap.size ≤ b; omega)
      have h9 : w0.heap.size ≤ b := hb9
      rw [Below.heap_setCell _ _ _ _ (by simp; omega), Below.heap_setCell _ _ _ _ (by simp; omega)]
  · have hok' : prok (E, G) = false := by simpa using hok
    rw [hok']
    have HV : Hid (endv e G = (3, prj0)) := Lib.hid (by rw [HEE.out] at hok'; exact endv_bad HNX.out hok')
    clear hok hok' hpt5
    go_wp2
    refine bodyPost_ret (v := .tuple #[pragg 0 none 0 0, .int .i64 3]) (by simp [results, Try.results63, go_sem, y0, y1]) rfl ?_
    rw [HR.out, HV.out]
    refine PePost.zero ?_
    iterate 2 (refine Below.setCell ?_ (by simp) _)
    exact hb4

theorem hli_any (S : List (List Int)) (x : Int) : decide (0 ≤ hli S x) = S.any fun l => l.contains x := by
  rcases hli_cases S x with ⟨h1, h2⟩ | ⟨k, h1, h2, h3⟩
  · rw [h1, decide_eq_false (by decide)]
    symm
    rw [List.any_eq_false]
    intro l hl
    rw [h2 l hl]; decide
  · rw [h2, decide_eq_true (by omega)]
    symm
    rw [List.any_eq_true]
    exact ⟨S.getD k [], by rw [List.getD_eq_getElem?_getD, List.getElem?_eq_getElem h1]; exact List.getElem_mem h1, h3⟩
set_option maxHeartbeats 2000000 in
theorem has_any (P : Nat → Prop) (e : Int) (A : Option Addr) (n m : Nat) (L : List Stp) (x : Int) (w : World) (hz : Pts w P A n L) (hn : n ≤ 1000) (hlen : plen 1000 L) (hok : ∀ i, i < n → stok (L.getD i stp0) = true) :
    Calls Try.prog 68 #[pragg e A n m, .int .u64 x] w (BPost (.bool (hasv L x)) w) := by
  have hX := Blk.new w (prc e A n m) 25
  have hb := below_one w (.cells (prc e A n m) 25)
  unfold BPost
  have HL := Lib.hid hz.1
  have HC := Lib.hid (fun h => hz.cells h)
  have HLEN := Lib.hid (fun k => hlen.at_ k)
  have HOK := Lib.hid hok
  obtain ⟨R, hR⟩ : ∃ R, R = hasv L x := ⟨_, rfl⟩
  rw [← hR]
  have HR := Lib.hid hR
  obtain ⟨x0, x1⟩ := hX.c2
  clear hz hlen hok hR
  go_enter Try.func68, Try.ntmps68
  go_wp2
  clear x0 x1
  generalize w.alloc (.cells (prc e A n m) 25) = w0 at *
  go_loopw [12] (fun i wr => ∃ k : Nat, k ≤ n ∧ i = .int .i64 k ∧ Hid (∀ j, j < k → ((L.getD j stp0).2.2.any fun l => l.contains x) = false) ∧ Below w0.heap.size w0 wr) (fun i _ => n - (intOf i).toNat)
  case atStart => exact ⟨0, by omega, rfl, Lib.hid (by intro j hj; omega), Below.refl _ _⟩
  case round =>
    obtain ⟨k, hk, rfl, hj, hb1⟩ := hrel
    have hbd := hb.trans (hb1.mono hb.size)
    by_cases hlt : k < n
    · obtain ⟨g, o, rfl, _, hg, hc⟩ := HC.out (by omega)
      obtain ⟨f, t, S, a, l, mm, he, hf, ht, hl, hlm, _, hst, hcell⟩ := hc k hlt
      obtain ⟨c0, c1, c2⟩ := hcell wr hbd
      have hll := HLEN.out k
      have hsk := HOK.out k hlt
      rw [he] at hll hsk
      have HE := Lib.hid he
      have e2 : (k : Int) < n := by omega
      have e3 : IntKind.i64.wrap ((k : Int) + 1) = ((k + 1 : Nat) : Int) := IntWalk.i64_in _ (by omega)
      have hS := Blk.new wr (stc f t a l mm) 60
      have hbS := hb1.trans ((below_one wr (.cells (stc f t a l mm) 60)).mono hb1.size)
      have hbT := hbd.trans ((below_one wr (.cells (stc f t a l mm) 60)).mono hbd.size)
      have hset := stset_any P f t a l mm S x _ (hst.below hbT) hlm (by rw [← hl]; have h8 : S.length ≤ 1000 := hll.1; omega) (fun l hl => by have := hll.2 l hl; omega)
      rw [if_pos hsk] at hset
      unfold BPost hlv at hset
      have HAN := Lib.hid (hli_any S x)
      generalize (if 0 ≤ hli S x then hli S x else 0) = hi at hset
      generalize decide (0 ≤ hli S x) = hd at hset HAN
      obtain ⟨s0, s1, s2⟩ := hS.c3
      clear hc he hl hst hcell hll hS
      go_wp2_with fail
      generalize wr.alloc (.cells (stc f t a l mm) 60) = w2 at *
      refine hset.mono ?_
      rintro en w3 ⟨rfl, hb3⟩
      replace hbS := hbS.trans (hb3.mono hbS.size)
      replace hbT := hbT.trans (hb3.mono hbT.size)
      clear hset s0 s1 s2 hb3 c0 c1 c2
      cases hd
      · go_wp2
        go_roundw
        case rel => exact ⟨k + 1, by omega, by go_num, Lib.hid (fun j hjk => by
          rcases Nat.lt_or_ge j k with h | h
          · exact hj.out j h
          · obtain rfl : j = k := by omega
            rw [HE.out]; exact HAN.out.symm), hbS⟩
        case measure => simp [intOf]; omega
      · have HV : Hid (hasv L x = true) := Lib.hid (by
          unfold hasv
          rw [List.any_eq_true]
          have hkL : k < L.length := by rw [HL.out]; exact hlt
          have h9 := HE.out
          rw [List.getD_eq_getElem?_getD, List.getElem?_eq_getElem hkL, Option.getD_some] at h9
          exact ⟨L[k], List.getElem_mem hkL, by rw [h9]; exact HAN.out.symm⟩)
        go_wp2
        go_ret
        exact ⟨by rw [HR.out, HV.out]; try rfl, hbT⟩
    · obtain rfl : k = n := by omega
      have HV : Hid (hasv L x = false) := Lib.hid (by
        unfold hasv
        rw [List.any_eq_false]
        intro s hs
        obtain ⟨j, hj2, e⟩ := List.mem_iff_getElem.1 hs
        have h9 := hj.out j (by rw [← HL.out]; exact hj2)
        rw [List.getD_eq_getElem?_getD, List.getElem?_eq_getElem hj2, Option.getD_some, e] at h9
        rw [h9]; decide)
      go_wp2
      go_ret
      exact ⟨by rw [HR.out, HV.out]; try rfl, hbd⟩
theorem prok_pne {e : Int} {L : List Stp} (h : prok (e, L) = true) : pne L := by
  intro s hs
  obtain ⟨i, hi, e⟩ := List.mem_iff_getElem.1 hs
  have h1 := ((pch_iff L 0 4611686018427387904).1 (prok_parts h).2.2.2).1 i hi |>.2
  rw [List.getD_eq_getElem?_getD, List.getElem?_eq_getElem hi, Option.getD_some, e] at h1
  have h2 := stok_parts h1
  exact ⟨h2.2.2.1, fun l hl => (sok_rises h2.2.2.2.2 l hl).2.1⟩
theorem prok_sts {e : Int} {L : List Stp} (h : prok (e, L) = true) : ∀ i, i < L.length → stok (L.getD i stp0) = true := fun i hi => ((pch_iff L 0 4611686018427387904).1 (prok_parts h).2.2.2).1 i hi |>.2

set_option maxHeartbeats 4000000 in
theorem swap_any (e : Int) (A : Option Addr) (n m : Nat) (L : List Stp) (o d : Int) (w : World) (hz : Pts w (fun b => b < w.heap.size) A n L) (hm : n ≤ m) (hnil : A = none → m = 0) (hn : n ≤ 900) (hlen : plen 900 L) (e0 : 0 ≤ e) (e1 : e < 18446744073709551616) (hd : 0 ≤ d ∧ d < 18446744073709551616) :
    Calls Try.prog 31 #[pragg e A n m, .int .u64 o, .int .u64 d] w (PePost (fun k => w.heap.size ≤ k) (swv e L o d) w) := by
  obtain ⟨w4, hw4, hX, hca, hcs, hY, hb, hsz⟩ := new4 w (prc e A n m) #[.int .u64 o] #[.int .u64 d] (prc 0 none 0 0) 25 22 22 25
  have HZ := Lib.hid hz
  have HLEN := Lib.hid hlen
  have HL := Lib.hid hz.1
  obtain ⟨x0, x1⟩ := hX.c2
  obtain ⟨R, hR⟩ : ∃ R, R = swv e L o d := ⟨_, rfl⟩
  rw [← hR]
  have HR := Lib.hid hR
  clear hz hlen hR
  go_enter Try.func31, Try.ntmps31
  rw [hw4] at x0 x1
  go_wp2_with fail
  rw [← hw4] at x0 x1 ⊢
  clear hw4
  refine (prright_any _ e A n m L w4 (HZ.out.below hb) (by omega) (HLEN.out.up (by omega))).mono ?_
  rintro en w5 ⟨rfl, hb5⟩
  replace hX := hX.below hb5
  replace hca := hca.below hb5
  replace hcs := hcs.below hb5
  replace hY := hY.below hb5
  replace hb := hb.trans (hb5.mono hb.size)
  have hsz5 : w.heap.size + 4 ≤ w5.heap.size := by have := hb5.size; omega
  clear hb5 x0 x1 hsz
  by_cases hok : prok (e, L) = true
  case neg =>
    have hok' : prok (e, L) = false := by simpa using hok
    clear hok
    have HV := Lib.hid (swv_no (o := o) (d := d) hok')
    rw [hok']
    clear hok'
    obtain ⟨y0, y1⟩ := hY.c2
    obtain ⟨f0, f1⟩ := hY.f2
    go_wp2
    refine bodyPost_ret (v := .tuple #[pragg 0 none 0 0, .int .i64 3]) (by simp [results, Try.results31, go_sem, y0, y1]) rfl ?_
    rw [HR.out, HV.out]
    refine PePost.zero ?_
    iterate 2 (refine Below.setCell ?_ (by simp; omega) _)
    exact hb
  have HOK := Lib.hid hok
  obtain ⟨_, hn1, hn64⟩ := last_to hok
  rw [HL.out] at hn1 hn64
  rw [hok]
  clear hok
  obtain ⟨x0, x1⟩ := hX.c2
  have q0 := hca.c1
  go_wp2_with fail
  refine (has_any _ e A n m L o w5 (HZ.out.below hb) (by omega) (HLEN.out.up (by omega)) (fun i hi => prok_sts HOK.out i (by rw [HL.out]; exact hi))).mono ?_
  rintro en w6 ⟨rfl, hb6⟩
  replace hX := hX.below hb6
  replace hca := hca.below hb6
  replace hcs := hcs.below hb6
  replace hY := hY.below hb6
  replace hb := hb.trans (hb6.mono hb.size)
  have hsz6 : w.heap.size + 4 ≤ w6.heap.size := by have := hb6.size; omega
  clear hb6 x0 x1 q0 hsz5
  obtain ⟨y0, y1⟩ := hY.c2
  obtain ⟨f0, f1⟩ := hY.f2
  by_cases hh : hasv L o = true
  case neg =>
    have hh' : hasv L o = false := by simpa using hh
    clear hh
    have HV := Lib.hid (swv_none (d := d) HOK.out hh')
    rw [hh']
    clear hh'
    go_wp2
    refine bodyPost_ret (v := .tuple #[pragg 0 none 0 0, .int .i64 16]) (by simp [results, Try.results31, go_sem, y0, y1]) rfl ?_
    rw [HR.out, HV.out]
    refine PePost.zero ?_
    iterate 2 (refine Below.setCell ?_ (by simp; omega) _)
    exact hb
  have HV := Lib.hid (swv_end (d := d) HOK.out hh)
  rw [hh]
  clear hh
  have hcon := renews_any e A n m L (swp o d L) (w.heap.size + 1) (w.heap.size + 1 + 1) w6 ((HZ.out.below hb).mono fun b h9 _ => by have h8 : b < w.heap.size := h9; have := hb.size; omega) hm hnil (by omega) (HLEN.out.up (by omega)) e0 e1 (swp_plen (HLEN.out.up (by omega))) (by rw [swp_len, HL.out]; omega) hn1 (prok_pne HOK.out)
    (fun W Q v a b w9 hW hQ hb9 hq hD hA => swapc_any W Q (w.heap.size + 1) (w.heap.size + 1 + 1) (e + 1) v L a b o d w9 ⟨hq, hca.below hb9, hcs.below hb9⟩ hD hA (prok_sts HOK.out) (by rw [HL.out]; exact hn1) (by rw [HL.out]; omega) hQ (by have := hca.lt; omega) (by have := hcs.lt; omega) hd)
  rw [← HV.out, ← HR.out] at hcon
  obtain ⟨x0, x1⟩ := hX.c2
  go_wp2_with fail
  with_reducible refine hcon.mono ?_
  rintro en w9 ⟨A', N', m', rfl, hb9, hpt, hm', hn'⟩
  replace hY := hY.below hb9
  replace hb := hb.trans (hb9.mono hb.size)
  have HP := Lib.hid hpt
  clear hcon hpt x0 x1 y0 y1 f0 f1
  obtain ⟨y0, y1⟩ := hY.c2
  obtain ⟨f0, f1⟩ := hY.f2
  obtain ⟨e', he'⟩ : ∃ e', e' = R.2.1 := ⟨_, rfl⟩
  obtain ⟨c', hc'⟩ : ∃ c', c' = R.1 := ⟨_, rfl⟩
  rw [← he', ← hc']
  have HE1 := Lib.hid he'
  have HC1 := Lib.hid hc'
  clear he' hc' hb9
  go_wp2
  refine bodyPost_ret (v := .tuple #[pragg e' A' N' m', .int .i64 c']) (by simp [results, Try.results31, go_sem, y0, y1]) rfl ⟨A', N', m', by rw [HE1.out, HC1.out], ?_, ?_, hm', hn'⟩
  · iterate 2 (refine Below.setCell ?_ (by simp; omega) _)
    exact hb
  · refine Pts.mono (Pts.keep HP.out (fun b hb9 _ => ?_)) (fun b hb9 _ => by have h9 : w6.heap.size ≤ b := hb9; show w.heap.size ≤ b; omega)
    have h9 : w6.heap.size ≤ b := hb9
    rw [Below.heap_setCell _ _ _ _ (by simp; omega), Below.heap_setCell _ _ _ _ (by simp; omega)]
end Go.Proofs.Ytghlediibhnloaa.Cur
