/- Locate: Count, the program's and the document's. -/
import Derived.Test.YtmcabaebdloakaaLocH
import Derived.Test.YtmcabaebdloakaaK25
namespace Go.Proofs.Ytmcabaebdloakaa.Cur
open Go.RowKit Mem
set_option linter.unusedVariables false
set_option maxRecDepth 100000


set_option maxHeartbeats 4000000 in
theorem count_any (P : Nat → Prop) (e : Int) (A : Option Addr) (n m : Nat) (L : List Stp) (x b : Int) (w : World) (hz : Pts w P A n L) (hn : n ≤ 1000000) (hlen : plen 1000000 L) (b0 : 0 ≤ b) (b1 : b < 18446744073709551616) :
    Calls Try.prog 17 #[pragg e A n m, .int .u64 x, .int .u64 b] w (BPost (.int .u64 (cnv e L x b)) w) := by
  unfold BPost
  have hX := Blk.new w (prc e A n m) 25
  have hb := below_one w (.cells (prc e A n m) 25)
  have hcon := prright_any P e A n m L _ (hz.below hb) hn hlen
  unfold BPost at hcon
  cases hp : prok (e, L)
  · have HN : Hid (cnv e L x b = 0) := Lib.hid (cnv_no hp)
    rw [hp] at hcon
    obtain ⟨x0, x1⟩ := hX.c2
    clear hz hlen hp
    go_enter Try.func17, Try.ntmps17
    go_wp2_with fail
    refine hcon.mono ?_
    rintro en w1 ⟨rfl, hb1⟩
    replace hb := hb.trans (hb1.mono hb.size)
    clear hcon hb1 x0 x1 hX
    go_wp2
    go_ret
    exact ⟨by rw [HN.out]; rfl, hb⟩
  have HR : Hid (cnv e L x b = cnts L x b) := Lib.hid (cnv_yes hp)
  have HV := Lib.hid (vd_of hp)
  have HL := Lib.hid hz.1
  have HC := Lib.hid (fun h => hz.cells h)
  rw [hp] at hcon
  obtain ⟨x0, x1⟩ := hX.c2
  clear hz hlen hp
  go_enter Try.func17, Try.ntmps17
  go_wp2_with fail
  refine hcon.mono ?_
  rintro en w1 ⟨rfl, hb1⟩
  replace hb := hb.trans (hb1.mono hb.size)
  replace hX := hX.below hb1
  clear hcon hb1 x0 x1
  obtain ⟨x0, x1⟩ := hX.c2
  go_wp2
  clear x0 x1
  go_loopw [7, 18] (fun s i wr => ∃ k : Nat, k ≤ n ∧ i = .int .i64 k ∧ s = .int .u64 ((L.take k).map (cn1 x b)).sum ∧ Below w.heap.size w wr) (fun _ i _ => n - (intOf i).toNat)
  case atStart => exact ⟨0, by omega, rfl, rfl, hb⟩
  case round =>
    clear hX hb
    obtain ⟨k, hk, rfl, rfl, hb⟩ := hrel
    by_cases hlt : k < n
    · obtain ⟨g, o, hAe, _, hg, hc⟩ := HC.out (by omega)
      subst hAe
      obtain ⟨f, t, S, a, l, mm, he, ⟨f0, _⟩, ⟨t0, t1⟩, hl, hlm, _, hst, hcell⟩ := hc k hlt
      obtain ⟨c0, c1, c2⟩ := hcell wr hb
      have hkL : k < L.length := by rw [HL.out]; exact hlt
      have hok := HV.out.ok k hkL
      have hps := psum_bd HV.out x b k hkL
      have hts := tk_succ (g := cn1 x b) hkL
      have hbd := cn1_bd hok x b
      rw [he] at hok hps hts hbd
      replace hps : 0 ≤ ((L.take k).map (cn1 x b)).sum ∧ ((L.take k).map (cn1 x b)).sum ≤ f := hps
      replace hbd : 0 ≤ cn1 x b (f, t, S) ∧ cn1 x b (f, t, S) ≤ t - f := hbd
      obtain ⟨k1, k2, k3, k4, k5⟩ := stok_parts hok
      replace k2 : t ≤ 4611686018427387904 := k2
      replace k3 : 1 ≤ l := by rw [← hl]; exact k3
      replace k4 : l ≤ 8 := by rw [← hl]; exact k4
      have hl8 : ∀ l ∈ S, l.length ≤ 1000000 := fun s hs => by have := sok_lens k5 s hs; omega
      have HTS := Lib.hid hts
      obtain ⟨T, hT⟩ : ∃ T, T = ((L.take k).map (cn1 x b)).sum := ⟨_, rfl⟩
      rw [← hT] at hps HTS ⊢
      have e1 : (k : Int) < n := by omega
      have e2 : IntKind.i64.wrap ((k : Int) + 1) = ((k + 1 : Nat) : Int) := IntWalk.i64_in _ (by omega)
      have hbx := below_one wr (.cells (stc f t a l mm) 39)
      have hB := Blk.new wr (stc f t a l mm) 39
      have hbw := hb.trans (hbx.mono hb.size)
      have hcs := stset_any P f t a l mm S x _ (hst.below hbw) hlm (by omega) hl8
      unfold BPost at hcs
      rw [if_pos hok] at hcs
      have hgs := hb.size
      have HST := Lib.hid hst
      have HL8 := Lib.hid hl8
      clear hc hcell hst hT hts hkL he k5 hl8
      rcases hli_cases S x with ⟨h1, _⟩ | ⟨j, h1, h2, _⟩
      · rw [hlv_no h1] at hcs
        have HZ : Hid (cn1 x b (f, t, S) = 0) := Lib.hid (cn1_no h1)
        clear h1 hbx
        go_wp2_with fail
        refine hcs.mono ?_
        rintro en w3 ⟨rfl, hb3⟩
        replace hbw := hbw.trans (hb3.mono hbw.size)
        clear hcs hb3 c0 c1 c2 hB
        go_wp2
        go_roundw
        case rel => exact ⟨k + 1, by omega, by go_num, by rw [HTS.out, HZ.out]; congr 1; omega, hbw⟩
        case measure => simp [intOf]; omega
      · rw [hlv_yes h2] at hcs
        have HZ : Hid (cn1 x b (f, t, S) = shv (f, min t b, S) j) := Lib.hid (cn1_yes h2)
        rw [HZ.out] at hbd
        obtain ⟨E, hE⟩ : ∃ E, E = min t b := ⟨_, rfl⟩
        rw [← hE] at HZ hbd
        have v1 : min t b = E := hE.symm
        have hE0 : 0 ≤ E ∧ E < 18446744073709551616 := by omega
        obtain ⟨V, hV⟩ : ∃ V, V = shv (f, E, S) j := ⟨_, rfl⟩
        have HVV := Lib.hid hV
        rw [← hV] at hbd
        have v2 : IntKind.u64.wrap (T + V) = T + V := IntWalk.u64_in _ (by omega)
        have hj : j < l := by rw [← hl]; exact h1
        clear h1 h2 hE hV hbx
        go_wp2_with fail
        refine hcs.mono ?_
        rintro en w3 ⟨rfl, hb3⟩
        replace hbw := hbw.trans (hb3.mono hbw.size)
        replace hB := hB.below hb3
        clear hcs hb3 c0 c1 c2
        obtain ⟨d0, d1, d2⟩ := hB.c3
        have fr := hB.free 1
        go_upto_region 10 with (fail)
        have hB' := hB.set 1 (.int .u64 E)
        have hbw' := Below.setCell hbw (p := ⟨wr.heap.size, 1, none⟩) (by show w.heap.size ≤ wr.heap.size; exact hgs) (.int .u64 E)
        have hsc := share_any P f E a l mm S j _ (HST.out.below hbw') hlm (by omega) HL8.out f0 (by omega) (by omega)
        unfold BPost at hsc
        rw [← HVV.out] at hsc
        generalize w3.setCell ⟨wr.heap.size, 1, none⟩ (.int .u64 E) = w4 at *
        replace hB' : Blk w4 wr.heap.size (stc f E a l mm) 39 := hB'
        clear d0 d1 d2 fr hB hbw
        obtain ⟨d0, d1, d2⟩ := hB'.c3
        go_wp2_with fail
        refine hsc.mono ?_
        rintro en w5 ⟨rfl, hb5⟩
        replace hbw' := hbw'.trans (hb5.mono hbw'.size)
        clear hsc hb5 d0 d1 d2 hB'
        go_wp2
        go_roundw
        case rel => exact ⟨k + 1, by omega, by go_num, by rw [HTS.out, HZ.out, ← HVV.out], hbw'⟩
        case measure => simp [intOf]; omega
    · have hke : k = n := by omega
      subst hke
      have e1 : ¬ (k : Int) < k := by omega
      have HE : Hid (((L.take k).map (cn1 x b)).sum = cnv e L x b) := Lib.hid (by rw [HR.out, List.take_of_length_le (by rw [HL.out]; omega)]; rfl)
      generalize ((L.take k).map (cn1 x b)).sum = T at *
      go_wp2
      go_ret
      exact ⟨by rw [HE.out]; rfl, hb⟩

set_option maxHeartbeats 4000000 in
theorem rcount_any (P : Nat → Prop) (e : Int) (A : Option Addr) (n m : Nat) (L : List Stp) (x : Int) (b : Nat) (w : World) (hz : Pts w P A n L) (hn : n ≤ 1000000) (hlen : plen 1000000 L) (e0 : 0 ≤ e) (hp : prok (e, L) = true) (hb3 : b ≤ 300) :
    Calls Try.prog 18 #[pragg e A n m, .int .u64 x, .int .u64 b] w (BPost (.int .u64 (cnts L x b)) w) := by
  unfold BPost
  have hX := Blk.new w (prc e A n m) 25
  have hb := below_one w (.cells (prc e A n m) 25)
  have HV := Lib.hid (vd_of hp)
  have HN := Lib.hid (fun (q : Nat) (hq : q < 4611686018427387904) w' (h : Below w.heap.size w w') => rnodes21_any P e A n m L q w' (hz.below h) hn hlen e0 (by omega) hp (decide_eq_true (by omega)))
  have HLN := Lib.hid (fun (q : Nat) (hq : q < 4611686018427387904) => show (wsn L q).length ≤ 8 from by
    obtain ⟨_, s, hs, hl⟩ := wsn_rises (vd_of hp) (p := (q : Int)) (by omega) (by omega)
    obtain ⟨k, hk, rfl⟩ := (vd_of hp).mem hs
    exact sok_lens (stok_parts ((vd_of hp).ok k hk)).2.2.2.2 _ hl)
  unfold WnPost at HN
  clear hz hlen hp
  go_enter Try.func18, Try.ntmps18
  go_wp2
  generalize w.alloc (.cells (prc e A n m) 25) = w0 at *
  go_loopw [7, 8] (fun s i wr => ∃ q : Nat, q ≤ b ∧ i = .int .u64 q ∧ s = .int .u64 (cnts L x q) ∧ Blk wr w.heap.size (prc e A n m) 25 ∧ Below w.heap.size w wr) (fun _ i _ => b - (intOf i).toNat)
  case atStart => exact ⟨0, by omega, rfl, by rw [show ((0 : Nat) : Int) = 0 from rfl, cnts_zero HV.out], hX, hb⟩
  case round =>
    clear hX hb
    obtain ⟨q, hq, rfl, rfl, hX, hb⟩ := hrel
    by_cases hlt : q < b
    · have e1 : (q : Int) < b := by omega
      have e2 : IntKind.u64.wrap ((q : Int) + 1) = ((q + 1 : Nat) : Int) := IntWalk.u64_in _ (by omega)
      have hcb := cnts_bd HV.out x q (by omega)
      have HS := Lib.hid (cnts_step HV.out (x := x) (b := (q : Int)) (by omega) (by omega))
      have HL8 := Lib.hid (HLN.out q (by omega))
      have hcn := HN.out q (by omega) wr hb
      obtain ⟨T, hT⟩ : ∃ T, T = cnts L x q := ⟨_, rfl⟩
      rw [← hT] at hcb HS ⊢
      have e3 : IntKind.u64.wrap (T + 1) = T + 1 := IntWalk.u64_in _ (by omega)
      clear hT
      obtain ⟨x0, x1⟩ := hX.c2
      go_wp2_with fail
      refine hcn.mono ?_
      rintro en w1 ⟨a1, l1, m1, rfl, _, hu1, hb1⟩
      have hl1 := hu1.1
      have hrc := rhas_any a1 l1 m1 _ x w1 (hu1.below hb1) (by rw [← hl1]; have := HL8.out; omega)
      unfold BPost at hrc
      replace hb := hb.trans (hb1.mono hb.size)
      replace hX := hX.below hb1
      clear hcn hb1 hu1 hl1 x0 x1
      cases hcc : (wsn L q).contains x
      · rw [hcc] at hrc
        have HE : Hid (cnts L x (q + 1) = T) := Lib.hid (by rw [HS.out, hcc, if_neg (by decide)]; omega)
        clear hcc
        go_wp2_with fail
        refine hrc.mono ?_
        rintro en w2 ⟨rfl, hb2⟩
        replace hb := hb.trans (hb2.mono hb.size)
        replace hX := hX.below hb2
        clear hb2 hrc
        go_wp2
        go_roundw
        case rel => exact ⟨q + 1, by omega, by go_num, by rw [show ((q + 1 : Nat) : Int) = (q : Int) + 1 by omega, HE.out], hX, hb⟩
        case measure => simp [intOf]; omega
      · rw [hcc] at hrc
        have HE : Hid (cnts L x (q + 1) = T + 1) := Lib.hid (by rw [HS.out, hcc, if_pos rfl])
        clear hcc
        go_wp2_with fail
        refine hrc.mono ?_
        rintro en w2 ⟨rfl, hb2⟩
        replace hb := hb.trans (hb2.mono hb.size)
        replace hX := hX.below hb2
        clear hb2 hrc
        go_wp2
        go_roundw
        case rel => exact ⟨q + 1, by omega, by go_num, by rw [show ((q + 1 : Nat) : Int) = (q : Int) + 1 by omega, HE.out], hX, hb⟩
        case measure => simp [intOf]; omega
    · have hqe : q = b := by omega
      subst hqe
      have e1 : ¬ (q : Int) < q := by omega
      obtain ⟨T, hT⟩ : ∃ T, T = cnts L x q := ⟨_, rfl⟩
      have HT := Lib.hid hT
      rw [← hT]
      clear hT
      go_wp2
      go_ret
      exact ⟨by rw [← HT.out]; rfl, hb⟩
end Go.Proofs.Ytmcabaebdloakaa.Cur
