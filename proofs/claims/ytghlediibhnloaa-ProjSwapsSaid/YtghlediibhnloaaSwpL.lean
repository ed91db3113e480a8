/- A node in the place of another one: Swap of the document. -/
import Derived.Test.YtghlediibhnloaaSwpK
import Derived.Test.YtghlediibhnloaaPrjR
namespace Go.Proofs.Ytghlediibhnloaa.Cur
open Go.RowKit Mem
set_option linter.unusedVariables false
set_option maxRecDepth 100000


def SwO2 (Y Q W : Nat) (E : Int) (v : Value) (L' : List Stp) (n : Nat) (len : Nat → Nat) (a : Nat → Nat) (b : Nat → Nat → Nat) (w0 wr : World) : Prop :=
  Blk wr Y (prc 0 none 0 0) 25 ∧ Blk wr Q #[.int .u64 E, v] 25 ∧ StpD wr W v L' a b ∧ Apt n len a b ∧ Below w0.heap.size w0 wr
theorem SwO2.below {Y Q W : Nat} {E : Int} {v : Value} {L' : List Stp} {n : Nat} {len : Nat → Nat} {a : Nat → Nat} {b : Nat → Nat → Nat} {w0 wr wr' : World} (h : SwO2 Y Q W E v L' n len a b w0 wr) (hb : Below wr.heap.size wr wr') : SwO2 Y Q W E v L' n len a b w0 wr' :=
  ⟨h.1.below hb, h.2.1.below hb, h.2.2.1.below hb, h.2.2.2.1, h.2.2.2.2.trans (hb.mono h.2.2.2.2.size)⟩
def SwS2 (Q g : Nat) (E : Int) (v : Value) (k : Nat) (u1 : Value) (ak j : Nat) (u2 : Value) (w : World) : Prop := Blk w Q #[.int .u64 E, v] 25 ∧ w.cell? ⟨g, k * 3 + 2, none⟩ = some u1 ∧ w.cell? ⟨ak, j, none⟩ = some u2
theorem SwS2.below {Q g : Nat} {E : Int} {v : Value} {k : Nat} {u1 : Value} {ak j : Nat} {u2 : Value} {w w' : World} (h : SwS2 Q g E v k u1 ak j u2 w) (hb : Below w.heap.size w w') : SwS2 Q g E v k u1 ak j u2 w' := ⟨h.1.below hb, (hb.cell (lt_of_cell h.2.1)).trans h.2.1, (hb.cell (lt_of_cell h.2.2)).trans h.2.2⟩
set_option maxHeartbeats 8000000 in
theorem rswap_any (e : Int) (A : Option Addr) (n m : Nat) (L : List Stp) (o d : Int) (w : World) (hz : Pts w (fun b => b < w.heap.size) A n L) (hm : n ≤ m) (hnil : A = none → m = 0) (hn : n ≤ 900) (hlen : plen 900 L) (e0 : 0 ≤ e) (e1 : e < 18446744073709551616) (hd : 0 ≤ d ∧ d < 18446744073709551616) :
    Calls Try.prog 32 #[pragg e A n m, .int .u64 o, .int .u64 d] w (PePost (fun _ => True) (swv e L o d) w) := by
  have hX := (Blk.new w (prc e A n m) 25).alloc (.cells (prc 0 none 0 0) 25)
  have hY := Blk.new (w.alloc (.cells (prc e A n m) 25)) (prc 0 none 0 0) 25
  rw [show (w.alloc (.cells (prc e A n m) 25)).heap.size = w.heap.size + 1 by simp] at hY
  have hb := below_two w (.cells (prc e A n m) 25) (.cells (prc 0 none 0 0) 25)
  have hsz : ((w.alloc (.cells (prc e A n m) 25)).alloc (.cells (prc 0 none 0 0) 25)).heap.size = w.heap.size + 2 := by simp
  have HZ := Lib.hid hz
  have HLEN := Lib.hid hlen
  have HL := Lib.hid hz.1
  obtain ⟨x0, x1⟩ := hX.c2
  obtain ⟨R, hR⟩ : ∃ R, R = swv e L o d := ⟨_, rfl⟩
  rw [← hR]
  have HR := Lib.hid hR
  clear hz hlen hR
  go_enter Try.func32, Try.ntmps32
  go_wp2_with fail
  generalize (w.alloc (.cells (prc e A n m) 25)).alloc (.cells (prc 0 none 0 0) 25) = w4 at *
  refine (rprright_any _ e A n m L w4 (HZ.out.below hb) (by omega) (HLEN.out.up (by omega)) e0).mono ?_
  rintro en w5 ⟨rfl, hb5⟩
  replace hX := hX.below hb5
  replace hY := hY.below hb5
  replace hb := hb.trans (hb5.mono hb.size)
  have hsz5 : w.heap.size + 2 ≤ w5.heap.size := by have := hb5.size; omega
  clear hb5 x0 x1 hsz
  by_cases hok : prok (e, L) = true
  case neg =>
    have hok' : prok (e, L) = false := by simpa using hok
    clear hok
    have HV := Lib.hid (swv_no (o := o) (d := d) hok')
    rw [hok']
    clear hok'
    obtain ⟨y0, y1⟩ := hY.c2
    obtain ⟨f0, f1⟩ := hY.f2
    go_wp2
    refine bodyPost_ret (v := .tuple #[pragg 0 none 0 0, .int .i64 3]) (by simp [results, Try.results32, go_sem, y0, y1]) rfl ?_
    rw [HR.out, HV.out]
    refine PePost.zero ?_
    iterate 2 (refine Below.setCell ?_ (by simp) _)
    exact hb
  obtain ⟨_, hn1, hn64⟩ := last_to hok
  rw [HL.out] at hn1 hn64
  have HOK := Lib.hid hok
  have hek : epk e = true := (prok_parts hok).1
  have hebd := epk_bd hek
  have HEK := Lib.hid hek
  rw [hok]
  clear hok hek
  obtain ⟨x0, x1⟩ := hX.c2
  go_wp2_with fail
  with_reducible refine (rcopyd_any _ e A n m L w5 (HZ.out.below hb) (by omega) (HLEN.out.up (by omega)) e0 (by omega) (prok_pne HOK.out)).mono ?_
  rintro en w6 ⟨v, aa, bb, rfl, hb6, hD, hA⟩
  obtain ⟨g, cap, rfl, hcap, hg5, hg6, _⟩ := hD.form (by rw [HL.out]; omega)
  have hLn : L.length = n := HL.out
  rw [hLn] at hcap hA hD ⊢
  have hbA := below_one w6 (.cells #[.int .u64 (e + 1), .slice (some ⟨g, 0, none⟩) n cap] 25)
  have hQ := Blk.new w6 #[.int .u64 (e + 1), .slice (some ⟨g, 0, none⟩) n cap] 25
  have hb7 := hb.trans (hb6.mono hb.size)
  replace hb7 := hb7.trans (hbA.mono hb7.size)
  have h56 := hb6.size
  have H0 : Hid (SwO2 (w.heap.size + 1) w6.heap.size w5.heap.size (e + 1) (.slice (some ⟨g, 0, none⟩) n cap) (lk o d L 0) n (slen L) aa bb w (w6.alloc (.cells #[.int .u64 (e + 1), .slice (some ⟨g, 0, none⟩) n cap] 25))) := Lib.hid ⟨(hY.below hb6).below hbA, hQ, by rw [lk_zero]; exact hD.below hbA, hA, hb7⟩
  clear hLn hbA hb7 hD hA hb6 hY hX hb
  go_upto_region 4 with (fail)
  generalize w6.alloc (.cells #[.int .u64 (e + 1), .slice (some ⟨g, 0, none⟩) n cap] 25) = w7 at *
  generalize w6.heap.size = Q at *
  obtain ⟨E, hE⟩ : ∃ E, E = e + 1 := ⟨_, rfl⟩
  rw [← hE] at H0 ⊢
  have HE := Lib.hid hE
  clear hE x0 x1 hQ
  go_wp2
  go_loopw [9, 10] (fun mt i wr => ∃ (k : Nat) (a : Nat → Nat) (b : Nat → Nat → Nat), k ≤ n ∧ i = .int .i64 k ∧ mt = .bool (hmet o L k 0) ∧ Hid (SwO2 (w.heap.size + 1) Q w5.heap.size E (.slice (some ⟨g, 0, none⟩) n cap) (lk o d L k) n (slen L) a b w wr)) (fun _ i _ => n - (intOf i).toNat)
  case atStart => exact ⟨0, _, _, by omega, rfl, by rw [hmet_zero], H0⟩
  case round =>
    clear H0
    obtain ⟨k, a, b, hk, rfl, hmt, HRO⟩ := hrel
    obtain ⟨mb, hmb⟩ : ∃ mb, mb = hmet o L k 0 := ⟨_, rfl⟩
    rw [← hmb] at hmt
    subst hmt
    have HMB := Lib.hid hmb
    clear hmb
    obtain ⟨q0, q1⟩ := HRO.out.2.1.c2
    by_cases hlt : k < n
    · have e2 : (k : Int) < n := by omega
      have e3 : IntKind.i64.wrap ((k : Int) + 1) = ((k + 1 : Nat) : Int) := IntWalk.i64_in _ (by omega)
      have hkL : k < L.length := by rw [HL.out]; exact hlt
      have hst := prok_sts HOK.out k hkL
      obtain ⟨s, hs⟩ : ∃ s, s = L.getD k stp0 := ⟨_, rfl⟩
      have HS := Lib.hid hs
      rw [← hs] at hst
      obtain ⟨f, t, S⟩ := s
      have hsp := stok_parts hst
      have HRS : Hid (∀ l ∈ S, risesB l = true ∧ 1 ≤ l.length ∧ l.length ≤ 8) := Lib.hid (sok_rises hsp.2.2.2.2)
      obtain ⟨l, hl⟩ : ∃ l, l = S.length := ⟨_, rfl⟩
      have hl8 : l ≤ 8 := by have h8 : S.length ≤ 8 := hsp.2.2.2.1; omega
      have HLL := Lib.hid hl
      have HKL := Lib.hid hkL
      have H0 : Hid (SwO2 (w.heap.size + 1) Q w5.heap.size E (.slice (some ⟨g, 0, none⟩) n cap) (lik o d L k 0) n (slen L) a b w wr) := Lib.hid (by rw [lik_zero]; exact HRO.out)
      clear hs hst hsp hl hkL HRO
      go_wp2
      clear q0 q1
      go_loopw [9, 11] (fun mt i wr => ∃ (j : Nat) (a : Nat → Nat) (b : Nat → Nat → Nat), j ≤ l ∧ i = .int .i64 j ∧ mt = .bool (hmet o L k j) ∧ Hid (SwO2 (w.heap.size + 1) Q w5.heap.size E (.slice (some ⟨g, 0, none⟩) n cap) (lik o d L k j) n (slen L) a b w wr)) (fun _ i _ => l - (intOf i).toNat)
      case atStart => exact ⟨0, _, _, by omega, rfl, by rw [HMB.out], H0⟩
      case round =>
        clear H0
        obtain ⟨j, a, b, hj, rfl, hmt, HRI⟩ := hrel
        obtain ⟨mc, hmc⟩ : ∃ mc, mc = hmet o L k j := ⟨_, rfl⟩
        rw [← hmc] at hmt
        subst hmt
        have HMC := Lib.hid hmc
        obtain ⟨hY, hQ, hD, hA, hb⟩ := HRI.out
        obtain ⟨g', cap', c, hv, hgW, hgl, _, _, c2, hcc, hsts, hfz, hcell⟩ := hD.cells (i := k) (by rw [lik_len]; exact HKL.out)
        injection hv with hv1 hv2 hv3
        injection hv1 with hv1
        injection hv1 with hv1
        subst hv1
        clear hv2 hv3 hmc hsts
        rw [lik_at HKL.out, ← HS.out] at c2 hcell hcc
        dsimp only at c2 hcell hcc
        rw [swk_len, ← HLL.out] at c2 hcell hcc
        obtain ⟨q0, q1⟩ := hQ.c2
        by_cases hjl : j < l
        · have e4 : (j : Int) < l := by omega
          have e5 : IntKind.i64.wrap ((j : Int) + 1) = ((j + 1 : Nat) : Int) := IntWalk.i64_in _ (by omega)
          obtain ⟨u, d0, hsd⟩ := hcell j hjl
          rw [swk_at (by rw [← HLL.out]; exact hjl), if_neg (by omega)] at hsd
          have hjS : j < S.length := by rw [← HLL.out]; exact hjl
          obtain ⟨z, hz⟩ : ∃ z, z = S.getD j [] := ⟨_, rfl⟩
          rw [← hz] at hsd
          have hzr := HRS.out z (by rw [hz, List.getD_eq_getElem?_getD, List.getElem?_eq_getElem hjS]; exact List.getElem_mem hjS)
          obtain ⟨_, hbW, hbl, c3, rfl, hc3⟩ := hsd.blk
          obtain ⟨_, _, _, hus⟩ := hsd.2.1.us
          have hzb := hsd.2.2
          have hsl : slen L k = l := by show (L.getD k stp0).2.2.length = l; rw [← HS.out, HLL.out]
          have HNO := Lib.hid (fun h => lik_no (o := o) (d := d) (L := L) (i := k) (k := j) h)
          have HYES := Lib.hid (fun h => lik_yes (o := o) (d := d) (L := L) (i := k) (k := j) HKL.out (by rw [← HS.out]; exact hjS) h)
          have HMK := Lib.hid (hmet_k (o := o) (L := L) (i := k) (k := j) (by rw [← HS.out]; exact hjS))
          rw [← HS.out] at HNO HYES HMK
          dsimp only at HNO HYES HMK
          rw [← hz, ← HMC.out] at HMK
          rw [← hz] at HNO HYES
          have hhas := rhas_any _ _ c3 z o wr hus (by omega)
          unfold BPost at hhas
          have HZB := Lib.hid hzb
          have HUS := Lib.hid hus
          have hz1 := hzr.2.1
          have hz8 := hzr.2.2
          have hzl : z.length ≤ 1000 := by omega
          have HSL := Lib.hid hsl
          obtain ⟨cn, hcn⟩ : ∃ cn, cn = z.contains o := ⟨_, rfl⟩
          rw [← hcn] at hhas HMK
          have HCN := Lib.hid hcn
          clear hcn hz hsl hus hzb hsd hcell hzr hY hD hA hb hQ hbl hbW hc3 hfz hjS
          go_wp2_with fail
          refine hhas.mono ?_
          rintro en w8 ⟨rfl, hb8⟩
          have HR8 := Lib.hid (HRI.out.below hb8)
          have hus8 := HUS.out.below hb8
          have hS8 : SwS2 Q g E (.slice (some ⟨g, 0, none⟩) n cap) k (.slice (some ⟨a k, 0, none⟩) l c) (a k) j (.slice (some ⟨b k j, 0, none⟩) z.length c3) w8 := ⟨HR8.out.2.1, (hb8.cell (lt_of_cell c2)).trans c2, (hb8.cell (lt_of_cell d0)).trans d0⟩
          clear hhas HRI q0 q1 c2 d0 hb8
          cases cn
          · have hn9 := HNO.out HCN.out.symm
            have HEND : Hid (SwO2 (w.heap.size + 1) Q w5.heap.size E (.slice (some ⟨g, 0, none⟩) n cap) (lik o d L k (j + 1)) n (slen L) a b w w8) := Lib.hid (by rw [hn9]; exact HR8.out)
            clear hn9 hS8
            go_wp2
            go_roundw
            case rel => exact ⟨j + 1, _, _, by omega, by go_num, by rw [HMK.out, Bool.or_false], HEND⟩
            case measure => simp [intOf]; omega
          · have hy9 := HYES.out HCN.out.symm
            have HY9 := Lib.hid hy9
            have hput := fun w' (h : Below w8.heap.size w8 w') => rput_any _ _ c3 z o d w' (hus8.below h) hzl
            have L1 : ∀ w', SwS2 Q g E (.slice (some ⟨g, 0, none⟩) n cap) k (.slice (some ⟨a k, 0, none⟩) l c) (a k) j (.slice (some ⟨b k j, 0, none⟩) z.length c3) w' → w'.cell? ⟨Q, 1, none⟩ = some (.slice (some ⟨g, 0, none⟩) n cap) ∧ w'.cell? ⟨g, k * 3 + 2, none⟩ = some (.slice (some ⟨a k, 0, none⟩) l c) ∧ w'.cell? ⟨a k, j, none⟩ = some (.slice (some ⟨b k j, 0, none⟩) z.length c3) := fun w' h => ⟨h.1.c2.2, h.2.1, h.2.2⟩
            have hS9 := hS8.below (below_one' w8)
            have hb89 := below_one' w8
            clear hy9 hus8 hS8
            go_wp2
            refine Seq.wp_region_last (SwS2 Q g E (.slice (some ⟨g, 0, none⟩) n cap) k (.slice (some ⟨a k, 0, none⟩) l c) (a k) j (.slice (some ⟨b k j, 0, none⟩) z.length c3)) (by kernel_rfl) (by kernel_rfl) (by kernel_rfl) hS9 ?_
            generalize w8.drew = w9 at *
            repeat (first | (refine Seq.SeqE.skip (by rfl) ?_; (try simp only [Act.put, List.setIfInBounds_toArray, List.set_cons_zero, List.set_cons_succ])) | (refine Seq.SeqE.det ?_ (by rfl) (fun w hS => ?_) ?_; rotate_left; ((try dsimp only at hS); go_simp; (try rw [if_pos (by omega)]); with_reducible rfl); (try simp only [Act.put, List.setIfInBounds_toArray, List.set_cons_zero, List.set_cons_succ])))
            refine Seq.SeqE.make (by rfl) (by rfl) (fun K Q' hK => ?_)
            go_simp
            go_at_call 72
            refine (hput w9 hb89).mono ?_
            rintro en wA ⟨v', rfl, hbA, hou⟩
            have hbAA := hb89.trans (hbA.mono hb89.size)
            have hRA := HR8.out.below hbAA
            obtain ⟨b', hvb⟩ := own_some hou (by rw [putl_len]; exact hz1)
            have hb' := (World.ownsRow.lt hou b' hvb).1
            have h89 := hb89.size
            have hR9 := HR8.out.below hb89
            have hlts := fun i hi => hR9.2.2.1.lts (i := i) (by rw [lik_len, HL.out]; exact hi)
            have hak := (hlts k hlt).1
            have hsl9 : ∀ i, ((lik o d L k j).getD i stp0).2.2.length = slen L i := fun i => congrFun (lik_slen o d L k j) i
            have hbl : ∀ i x, i < n → x < slen L i → b i x < w9.heap.size := fun i x hi hx => ((hlts i hi).2 x (by rw [hsl9]; exact hx)).2.1
            have hsdA : SetD wA w5.heap.size v' (putl o d z) b' := ⟨hvb, ⟨hou.1, hou.2.imp id fun ⟨g, c, cur, e1, e2, e3⟩ => ⟨g, c, cur, e1, by omega, e3⟩⟩, putl_bd HZB.out hd⟩
            obtain ⟨A', c', hv'⟩ := hou.slice
            subst hv'
            have hcl := hRA.2.2.1.cell (by rw [lik_len, lik_slen, HL.out]; exact hRA.2.2.2.1) (by rw [lik_len, HL.out]; exact hlt) (k := j) (by rw [lik_slen, HSL.out]; exact hjl) hsdA
            rw [← HY9.out] at hcl
            have hap := hRA.2.2.2.1.upd (i := k) (k := j) hbl hb'
            have y1 : wA.frozen? ⟨a k, j, none⟩ = false := by
              obtain ⟨_, _, _, _, _, _, _, _, _, _, _, hfz, _⟩ := hRA.2.2.1.cells (i := k) (by rw [lik_len, HL.out]; exact hlt)
              exact hfz j
            obtain ⟨hakW, _, ca, hakB⟩ := hak
            have hakA := hakB.below hbA
            have hSA := hS9.below hbA
            have y2 := (L1 wA hSA).2.2
            have HEND := Lib.hid (show SwO2 (w.heap.size + 1) Q w5.heap.size E (.slice (some ⟨g, 0, none⟩) n cap) (lik o d L k (j + 1)) n (slen L) a (fun x => if x = k then (fun l => if l = j then b' else b k l) else b x) w (wA.setCell ⟨a k, j, none⟩ (.slice A' (putl o d z).length c')) from
              ⟨hRA.1.far (g := a k) j _ (blk_ne hRA.1 hakA (by decide)), hRA.2.1.far (g := a k) j _ (blk_ne hRA.2.1 hakA (by decide)), hcl, hap, Below.setCell hRA.2.2.2.2 (p := ⟨a k, j, none⟩) (by show w.heap.size ≤ a k; omega) _⟩)
            clear hlts hbl hsdA hcl hap hakB hakA hR9 hRA hou hput hbAA hvb hsl9
            generalize (putl o d z).length = lp at *
            refine hK.out _ _ (hSA) ?_
            clear hK K
            try simp only [Act.put, List.setIfInBounds_toArray, List.set_cons_zero, List.set_cons_succ]
            repeat (first | (refine Seq.SeqE.skip (by rfl) ?_; (try simp only [Act.put, List.setIfInBounds_toArray, List.set_cons_zero, List.set_cons_succ])) | (refine Seq.SeqE.det ?_ (by rfl) (fun w hS => ?_) ?_; rotate_left; ((try dsimp only at hS); go_simp; (try rw [if_pos (by omega)]); with_reducible rfl); (try simp only [Act.put, List.setIfInBounds_toArray, List.set_cons_zero, List.set_cons_succ])))
            refine Seq.SeqE.last (by rfl) (by rfl) (fun K Q' hK => ?_)
            go_simp
            refine hK.out _ _ ?_
            clear hK K
            try simp only [Act.put, List.setIfInBounds_toArray, List.set_cons_zero, List.set_cons_succ]
            clear L1 hSA hS9 y1 y2
            go_wp2
            go_roundw
            case rel => exact ⟨j + 1, _, _, by omega, by go_num, by rw [HMK.out, Bool.or_true], HEND⟩
            case measure => simp [intOf]; omega
        · obtain rfl : j = l := by omega
          have HEND : Hid (SwO2 (w.heap.size + 1) Q w5.heap.size E (.slice (some ⟨g, 0, none⟩) n cap) (lk o d L (k + 1)) n (slen L) a b w wr) := Lib.hid (by
            have h9 := lik_end (o := o) (d := d) HKL.out
            rw [← HS.out] at h9
            dsimp only at h9
            rw [← HLL.out] at h9
            rw [← h9]; exact HRI.out)
          have HMN : Hid (hmet o L (k + 1) 0 = mc) := Lib.hid (by
            rw [hmet_i HKL.out, ← HS.out]
            dsimp only
            rw [← HLL.out, HMC.out])
          clear hcell hfz hY hD hA hb
          go_wp2
          go_roundw
          case rel => exact ⟨k + 1, _, _, by omega, by go_num, by rw [HMN.out], HEND⟩
          case measure => simp [intOf]; omega
    · obtain rfl : k = n := by omega
      have hmh : mb = hasv L o := by rw [HMB.out, ← HL.out, hmet_all]
      obtain ⟨hY, hQ, hD, _, hb⟩ := HRO.out
      obtain ⟨y0, y1⟩ := hY.c2
      obtain ⟨f0, f1⟩ := hY.f2
      cases mb
      · have HV := Lib.hid (swv_none (d := d) HOK.out hmh.symm)
        clear hmh hD
        go_wp2
        refine bodyPost_ret (v := .tuple #[pragg 0 none 0 0, .int .i64 16]) (by simp [results, Try.results32, go_sem, y0, y1]) rfl ?_
        rw [HR.out, HV.out]
        refine PePost.zero ?_
        iterate 2 (refine Below.setCell ?_ (by simp) _)
        exact hb
      · have HV := Lib.hid (swv_end (d := d) HOK.out hmh.symm)
        have hpt : Pts wr (fun x => w5.heap.size ≤ x) (some ⟨g, 0, none⟩) k (swp o d L) ∧ k ≤ cap := by
          rw [← HL.out, lk_all] at hD
          have h9 := hD.own (by rw [swp_len, HL.out]; omega) hQ
          obtain ⟨A9, c9, hv, h1, _, h2⟩ := h9.pts
          injection hv with hv1 hv2 hv3
          subst hv1 hv3
          rw [swp_len, HL.out] at h1 h2
          exact ⟨h2, h1⟩
        have hE0 : 0 ≤ E := by rw [HE.out]; omega
        have hends := rends_any _ E (some ⟨g, 0, none⟩) k cap (swp o d L) wr hpt.1 hpt.2 (fun e => by cases e) (by omega) (swp_plen (HLEN.out.up (by omega))) hE0
        rw [HE.out, endsv_next _ HEK.out, ← HV.out, ← HR.out, ← HE.out] at hends
        clear hmh hD hpt
        go_wp2_with fail
        refine hends.mono ?_
        rintro en w11 ⟨A', N', m', rfl, hb11, hpt, hm', hn'⟩
        replace hY := hY.below hb11
        replace hb := hb.trans (hb11.mono hb.size)
        have HP := Lib.hid hpt
        clear hends hpt hb11 y0 y1 f0 f1 hQ q0 q1
        obtain ⟨y0, y1⟩ := hY.c2
        obtain ⟨f0, f1⟩ := hY.f2
        obtain ⟨e', he'⟩ : ∃ e', e' = R.2.1 := ⟨_, rfl⟩
        obtain ⟨c', hc'⟩ : ∃ c', c' = R.1 := ⟨_, rfl⟩
        rw [← he', ← hc']
        have HE1 := Lib.hid he'
        have HC1 := Lib.hid hc'
        clear he' hc'
        go_wp2
        refine bodyPost_ret (v := .tuple #[pragg e' A' N' m', .int .i64 c']) (by simp [results, Try.results32, go_sem, y0, y1]) rfl ⟨A', N', m', by rw [HE1.out, HC1.out], ?_, ?_, hm', hn'⟩
        · iterate 2 (refine Below.setCell ?_ (by simp) _)
          exact hb
        · refine Pts.mono (Pts.keep HP.out (fun b hb9 _ => ?_)) (fun b _ _ => trivial)
          have h9 : w5.heap.size ≤ b := hb9
          rw [Below.heap_setCell _ _ _ _ (by simp; omega), Below.heap_setCell _ _ _ _ (by simp; omega)]
end Go.Proofs.Ytghlediibhnloaa.Cur
