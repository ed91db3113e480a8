/- LocateCounts: called with any projection, any node and any number, the law returns true; no condition. -/
import Derived.Test.YtmcabaebdloakaaRows
import Derived.Test.YtmcabaebdloakaaLocK
import Derived.Test.YtmcabaebdloakaaLocI
import Derived.Test.YtmcabaebdloakaaLocE
import Derived.Test.YtmcabaebdloakaaLocG
import Derived.Test.YtmcabaebdloakaaSeqH
import Derived.ProofKit
import Derived.OpenShut
import Derived.ShutString
import Derived.ChangeOld
namespace Go.Proofs.Ytmcabaebdloakaa.locateCounts
open Go.ChangeShapes Go.WideShapes Go.ChangeAt Go.RowKit
open Go.ChangeMaps (open_string shut_string)
set_option linter.unusedVariables false

theorem own : ownKnob Try.prog.godebug = none := by kernel_rfl
theorem laidOut : laidOutB Try.prog = true := by kernel_rfl
open Cur Mem

set_option maxRecDepth 100000

/-- What the loads need. -/
def S4 (W : World) (x : Array Value) (a : Option Addr) (l : Nat) (R : List Int) (w' : World) : Prop := Blk w' W.heap.size x 25 ∧ Us w' a l R ∧ Below W.heap.size W w'
theorem S4.below {W : World} {x : Array Value} {a : Option Addr} {l : Nat} {R : List Int} {w' w'' : World} (h : S4 W x a l R w') (hb : Below w'.heap.size w' w'') : S4 W x a l R w'' := ⟨h.1.below hb, h.2.1.below hb, h.2.2.trans (hb.mono h.2.2.size)⟩
theorem tkI_succ {R : List Int} {g : Int → Int} {k : Nat} (h : k < R.length) : ((R.take (k + 1)).map g).sum = ((R.take k).map g).sum + g (R.getD k 0) := by
  rw [List.take_add_one, List.getElem?_eq_getElem h, List.map_append, List.sum_append, List.getD_eq_getElem?_getD, List.getElem?_eq_getElem h]
  simp
theorem sum300 {f : Int → Int} : ∀ (R : List Int), (∀ z, 0 ≤ f z ∧ f z ≤ 300) → 0 ≤ (R.map f).sum ∧ (R.map f).sum ≤ 300 * R.length
  | [], _ => by simp
  | a :: R, h => by
    have ih := sum300 R h
    have h1 := h a
    rw [List.map_cons, List.sum_cons, List.length_cons]
    omega

set_option maxHeartbeats 32000000 in
theorem walk {H : Type} (enc : TypeId × Value → H) (w : World) (base : Nat) (v0 : Value) (d0 : DataW H) (p0 : List MemPlace) (g0 : Value.okWide Try.prog w .any base 25 v0) (h0 : DataW.Trod enc Try.prog w 0 (fun _ => true) true 25 v0 d0 p0) (v1 : Value) (d1 : DataW H) (p1 : List MemPlace) (g1 : Value.okWide Try.prog w .any base 22 v1) (h1 : DataW.Trod enc Try.prog w 0 (fun _ => true) true 22 v1 d1 p1) (v2 : Value) (d2 : DataW H) (p2 : List MemPlace) (g2 : Value.okWide Try.prog w .any base 22 v2) (h2 : DataW.Trod enc Try.prog w 0 (fun _ => true) true 22 v2 d2 p2) :
    Calls Try.prog 5 #[v0, v1, v2] w fun e w' => e = .returned (.bool true) ∧ Below w.heap.size w w' := by
  obtain ⟨e, A, n, m, L, rfl, ⟨e0, e1⟩, hm, hnil, hz⟩ := open_prj g0 h0
  obtain ⟨x, rfl, xx0, xx1⟩ := open_u64 g1 h1
  obtain ⟨y, rfl, y0, y1⟩ := open_u64 g2 h2
  clear g0 h0 g1 h1 g2 h2
  have hX := Blk.new w (prc e A n m) 25
  have hbd := below_one w (.cells (prc e A n m) 25)
  have HZ := Lib.hid hz
  have HL := Lib.hid hz.1
  clear hz hnil
  obtain ⟨x0, x1⟩ := hX.c2
  go_enter Try.func5, Try.ntmps5
  go_wp2_with fail
  generalize w.alloc (.cells (prc e A n m) 25) = w0 at *
  refine (long20_any _ e A n m L _ (HZ.out.below hbd)).mono ?_
  rintro en w1 ⟨b, rfl, hb1, hlg⟩
  replace hX := hX.below hb1
  replace hbd := hbd.trans (hb1.mono hbd.size)
  clear hb1 x0 x1
  cases b
  case true =>
    clear hlg hX
    go_wp2_with fail
    refine (live21_any _).mono ?_
    rintro e wl ⟨rfl, hbl⟩
    replace hbd := hbd.trans (hbl.mono hbd.size)
    go_wp2
    go_ret
    exact ⟨rfl, hbd⟩
  obtain ⟨hn70, hpl⟩ := hlg rfl
  have hpl6 : plen 1000000 L := fun s hs => ⟨by have := (hpl s hs).1; omega, fun l hl => by have := (hpl s hs).2 l hl; omega⟩
  have HPL := Lib.hid hpl6
  have hA := allnodes_any _ e A n m L w1 (HZ.out.below hbd) (by omega) hpl6
  have hR := fun w' (h : Below w.heap.size w w') => rprright_any _ e A n m L w' (HZ.out.below h) (by omega) hpl6 e0
  have HC := Lib.hid (fun (z c : Int) (c0 : 0 ≤ c) (c1 : c < 18446744073709551616) w' (h : Below w.heap.size w w') => count_any _ e A n m L z c w' (HZ.out.below h) (by omega) hpl6 c0 c1)
  unfold NaPost at hA
  unfold BPost at hR HC
  clear hlg hpl hpl6
  obtain ⟨x0, x1⟩ := hX.c2
  go_wp2_with fail
  refine hA.mono ?_
  rintro en w2 ⟨a, l, c, R, rfl, hu, hb2, hbad, hgood⟩
  have hS : S4 w (prc e A n m) a l R w2 := ⟨hX.below hb2, hu, hbd.trans (hb2.mono hbd.size)⟩
  clear hA hX hu hb2 hbd x0 x1
  obtain ⟨x0, x1⟩ := hS.1.c2
  go_wp2_with fail
  refine (hR _ hS.2.2).mono ?_
  rintro en w3 ⟨rfl, hb3⟩
  replace hS := hS.below hb3
  clear hR hb3 x0 x1
  cases hp : prok (e, L)
  case false =>
    obtain rfl : l = 0 := hbad hp
    have hcn := HC.out x y y0 y1
    rw [cnv_no hp] at hcn
    clear hbad hgood hp
    obtain ⟨x0, x1⟩ := hS.1.c2
    go_wp2_with fail
    refine (hcn _ hS.2.2).mono ?_
    rintro en w4 ⟨rfl, hb4⟩
    replace hS := hS.below hb4
    clear hcn hb4 x0 x1
    have hbd := hS.2.2
    clear hS
    go_wp2_with fail
    refine (live21_any _).mono ?_
    rintro e wl ⟨rfl, hbl⟩
    replace hbd := hbd.trans (hbl.mono hbd.size)
    go_wp2
    go_ret
    exact ⟨rfl, hbd⟩
  obtain ⟨hpw, hmem, hl5⟩ := hgood hp
  have hv := vd_of hp
  have HV := Lib.hid hv
  have HP := Lib.hid hp
  have HPW := Lib.hid hpw
  have HMEM := Lib.hid hmem
  obtain ⟨b, hb⟩ : ∃ b : Nat, (b : Int) = y % 300 := ⟨(y % 300).toNat, by omega⟩
  have b3 : b < 300 := by omega
  have w1' : y.tmod 300 = (b : Int) := by rw [hb]; exact IntWalk.rem_in _ _ y0
  have HRC := Lib.hid (fun w' (h : Below w.heap.size w w') => rcount_any _ e A n m L x b w' (HZ.out.below h) (by omega) HPL.out e0 hp (by omega))
  have HN := Lib.hid (fun (q : Nat) (hq : q < 4611686018427387904) w' (h : Below w.heap.size w w') => rnodes21_any _ e A n m L q w' (HZ.out.below h) (by omega) HPL.out e0 (by omega) hp (decide_eq_true (by omega)))
  have hRL : R.length = l := hS.2.1.1
  have hbds : ∀ z ∈ R, 0 ≤ z ∧ z < 18446744073709551616 := fun z hz => by
    obtain ⟨s, h1, t, h2, h3⟩ := (hmem z).1 hz
    exact HZ.out.bds s h1 t h2 z h3
  have HBD := Lib.hid hbds
  have hcn := HC.out x b (by omega) (by omega)
  have hrc := HRC.out
  have HCC := Lib.hid (fun (z c : Int) => cnv_yes (x := z) (b := c) hp)
  unfold BPost at hrc
  unfold WnPost at HN
  rw [HCC.out] at hcn
  obtain ⟨C, hC⟩ : ∃ C, C = cnts L x b := ⟨_, rfl⟩
  rw [← hC] at hcn hrc
  have HRS : Hid (risesB R = true) := Lib.hid (pw_rises _ hpw)
  clear hbad hgood hp hv hpw hmem hb HRC hC hbds
  go_wp2
  have L1 : ∀ w', S4 w (prc e A n m) a l R w' → w'.cell? ⟨w.heap.size, 0, none⟩ = some (.int .u64 e) ∧ w'.cell? ⟨w.heap.size, 1, none⟩ = some (.slice A n m) := fun w' h => h.1.c2
  refine SeqH.wp_region_hav (S4 w (prc e A n m) a l R) (fun w1 w2 => Below w1.heap.size w1 w2) (fun o => o.dst == some 38 || o.dst == some 42) (fun o v _ => v = .int .u64 C) (fun _ _ => True) ⟨fun w => Below.refl _ _, fun h1 h2 => h1.trans (h2.mono h1.size), fun h _ => h, fun _ => trivial⟩ (by kernel_rfl) (by kernel_rfl) (hS.below (below_one' _)) ?_
  repeat (first | (refine SeqH.Rl.skip (by rfl) ?_; (try simp only [Act.put, List.setIfInBounds_toArray, List.set_cons_zero, List.set_cons_succ])) | (refine SeqH.Rl.det ?_ (by rfl) (by rfl) (fun w hS => ?_) ?_; rotate_left; ((try dsimp only at hS); go_simp; (try rw [if_pos (by omega)]); with_reducible rfl); (try simp only [Act.put, List.setIfInBounds_toArray, List.set_cons_zero, List.set_cons_succ])))
  refine SeqH.Rl.hav (by rfl) (by rfl) rfl (by simp) (fun w3 hT3 hS3 KK Q' hK => ?_) (fun v3 w3 hT3 hS3 hG3 _ => ?_)
  · go_simp
    go_at_call 17
    refine (hcn w3 hS3.2.2).mono ?_
    rintro en w4 ⟨rfl, hb4⟩
    exact hK.out _ _ hb4 (hS3.below hb4) rfl (fun _ _ _ => trivial)
  replace hG3 : v3 = .int .u64 C := hG3
  subst hG3
  replace hS := hS3
  try simp only [Act.put, List.setIfInBounds_toArray, List.set_cons_zero, List.set_cons_succ]
  repeat (first | (refine SeqH.Rl.skip (by rfl) ?_; (try simp only [Act.put, List.setIfInBounds_toArray, List.set_cons_zero, List.set_cons_succ])) | (refine SeqH.Rl.det ?_ (by rfl) (by rfl) (fun w hS => ?_) ?_; rotate_left; ((try dsimp only at hS); go_simp; (try rw [if_pos (by omega)]); with_reducible rfl); (try simp only [Act.put, List.setIfInBounds_toArray, List.set_cons_zero, List.set_cons_succ])))
  have hT := hT3
  clear hS3 hT3
  refine SeqH.Rl.hav (by rfl) (by rfl) rfl (by simp) (fun w3 hT3 hS3 KK Q' hK => ?_) (fun v3 w3 hT3 hS3 hG3 _ => ?_)
  · go_simp
    go_at_call 18
    refine (hrc w3 hS3.2.2).mono ?_
    rintro en w4 ⟨rfl, hb4⟩
    exact hK.out _ _ hb4 (hS3.below hb4) rfl (fun _ _ _ => trivial)
  replace hG3 : v3 = .int .u64 C := hG3
  subst hG3
  replace hS := hS3
  replace hT := hT.trans (hT3.mono hT.size)
  clear hS3 hT3
  try simp only [Act.put, List.setIfInBounds_toArray, List.set_cons_zero, List.set_cons_succ]
  repeat (first | (refine SeqH.Rl.skip (by rfl) ?_; (try simp only [Act.put, List.setIfInBounds_toArray, List.set_cons_zero, List.set_cons_succ])) | (refine SeqH.Rl.det ?_ (by rfl) (by rfl) (fun w hS => ?_) ?_; rotate_left; ((try dsimp only at hS); go_simp; (try rw [if_pos (by omega)]); with_reducible rfl); (try simp only [Act.put, List.setIfInBounds_toArray, List.set_cons_zero, List.set_cons_succ])))
  refine SeqH.Rl.make (by rfl) (by rfl) (by rfl) (fun KK Q' hK => ?_)
  go_simp
  go_at_call 19
  refine (rrises_any _ _ _ R _ hS.2.1 (by omega) HBD.out).mono ?_
  rintro en w5 ⟨rfl, hb5⟩
  rw [HRS.out]
  replace hS := hS.below hb5
  replace hT := hT.trans (hb5.mono hT.size)
  refine hK.out _ _ hT hS ?_
  clear hK KK hb5
  try simp only [Act.put, List.setIfInBounds_toArray, List.set_cons_zero, List.set_cons_succ]
  repeat (first | (refine SeqH.Rl.skip (by rfl) ?_; (try simp only [Act.put, List.setIfInBounds_toArray, List.set_cons_zero, List.set_cons_succ])) | (refine SeqH.Rl.det ?_ (by rfl) (by rfl) (fun w hS => ?_) ?_; rotate_left; ((try dsimp only at hS); go_simp; (try rw [if_pos (by omega)]); with_reducible rfl); (try simp only [Act.put, List.setIfInBounds_toArray, List.set_cons_zero, List.set_cons_succ])))
  clear hT L1 hcn hrc
  refine SeqH.Rl.nil ?_
  go_wp2
  have HCB := Lib.hid (fun (z : Int) => cnts_bd HV.out z b (by omega))
  have HCN := Lib.hid (fun (z : Int) w' (h : Below w.heap.size w w') => HC.out z b (by omega) (by omega) w' h)
  go_loopw [8, 10] (fun s i wr => ∃ k : Nat, k ≤ l ∧ i = .int .i64 k ∧ s = .int .u64 ((R.take k).map (fun z => cnts L z b)).sum ∧ S4 w (prc e A n m) a l R wr) (fun _ i _ => l - (intOf i).toNat)
  case atStart => exact ⟨0, by omega, rfl, rfl, hS⟩
  case round =>
    clear hS
    obtain ⟨k, hk, rfl, rfl, hS⟩ := hrel
    by_cases hlt : k < l
    · have hkR : k < R.length := by omega
      have hts := tkI_succ (g := fun z => cnts L z b) hkR
      have hps := sum300 (f := fun z => cnts L z b) (R.take k) (fun z => by have := HCB.out z; omega)
      rw [List.length_take] at hps
      have hcb := HCB.out (R.getD k 0)
      have hcn := HCN.out (R.getD k 0)
      rw [HCC.out] at hcn
      obtain ⟨T, hT⟩ : ∃ T, T = ((R.take k).map (fun z => cnts L z b)).sum := ⟨_, rfl⟩
      rw [← hT] at hts hps ⊢
      obtain ⟨V, hV⟩ : ∃ V, V = cnts L (R.getD k 0) b := ⟨_, rfl⟩
      replace hts : ((R.take (k + 1)).map (fun z => cnts L z b)).sum = T + cnts L (R.getD k 0) b := hts
      rw [← hV] at hts hcb hcn
      have HTS := Lib.hid hts
      obtain ⟨z, hzz⟩ : ∃ z, z = R.getD k 0 := ⟨_, rfl⟩
      have g1 : (k : Int) < l := by omega
      have g2 : IntKind.i64.wrap ((k : Int) + 1) = ((k + 1 : Nat) : Int) := IntWalk.i64_in _ (by omega)
      have g3 : IntKind.u64.wrap (T + V) = T + V := IntWalk.u64_in _ (by omega)
      obtain ⟨g, o, hga, _⟩ := hS.2.1.at_ hlt
      subst hga
      have L1 : ∀ w', S4 w (prc e A n m) (some ⟨g, o, none⟩) l R w' → (w'.cell? ⟨w.heap.size, 0, none⟩ = some (.int .u64 e) ∧ w'.cell? ⟨w.heap.size, 1, none⟩ = some (.slice A n m)) ∧ w'.cell? ⟨g, o + k, none⟩ = some (.int .u64 z) := fun w' h => ⟨h.1.c2, by
        obtain ⟨g', o', q1, q2⟩ := h.2.1.at_ hlt
        injection q1 with q1
        injection q1 with q3 q4
        subst q3 q4
        rw [hzz]; exact q2⟩
      rw [← hzz] at hcn
      clear hts hT hV hzz hkR hps
      go_wp2
      replace hS := hS.below (below_one' _)
      refine Seq.wp_region_seq (S4 w (prc e A n m) (some ⟨g, o, none⟩) l R) (by kernel_rfl) (by kernel_rfl) hS ?_
      repeat (first | (refine Seq.Seq.skip (by rfl) ?_; (try simp only [Act.put, List.setIfInBounds_toArray, List.set_cons_zero, List.set_cons_succ])) | (refine Seq.Seq.det ?_ (by rfl) (fun w hS => ?_) ?_; rotate_left; ((try dsimp only at hS); go_simp; (try rw [if_pos (by omega)]); with_reducible rfl); (try simp only [Act.put, List.setIfInBounds_toArray, List.set_cons_zero, List.set_cons_succ])))
      refine Seq.Seq.make (by rfl) (by rfl) (fun K Q' hK => ?_)
      go_simp
      go_at_call 17
      refine (hcn _ hS.2.2).mono ?_
      rintro en w4 ⟨rfl, hb4⟩
      replace hS := hS.below hb4
      refine hK.out _ _ (hS) ?_
      clear hK K
      try simp only [Act.put, List.setIfInBounds_toArray, List.set_cons_zero, List.set_cons_succ]
      repeat (first | (refine Seq.Seq.skip (by rfl) ?_; (try simp only [Act.put, List.setIfInBounds_toArray, List.set_cons_zero, List.set_cons_succ])) | (refine Seq.Seq.det ?_ (by rfl) (fun w hS => ?_) ?_; rotate_left; ((try dsimp only at hS); go_simp; (try rw [if_pos (by omega)]); with_reducible rfl); (try simp only [Act.put, List.setIfInBounds_toArray, List.set_cons_zero, List.set_cons_succ])))
      refine Seq.Seq.nil ?_
      clear hb4 hcn L1
      go_wp2
      go_roundw
      case rel => exact ⟨k + 1, by omega, by go_num, by rw [HTS.out], hS⟩
      case measure => simp [intOf]; omega
    · have hke : k = l := by omega
      subst hke
      have hw : ((R.take k).map (fun z => cnts L z b)).sum = wlen L b := by
        rw [List.take_of_length_le (by omega)]
        exact csum_eq HV.out HPW.out (fun s hs t ht z hz => (HMEM.out z).2 ⟨s, hs, t, ht, hz⟩) b (by omega)
      rw [hw]
      have hwb := (wlen_bd HP.out b (by omega)).2
      have HWB := Lib.hid (fun (q : Nat) (hq : q ≤ b) => wlen_bd HP.out q (by omega))
      have HLN := Lib.hid (fun (q : Nat) (hq : q < 4611686018427387904) => wsn_len (e := e) (L := L) (p := (q : Int)) ⟨HP.out, decide_eq_true (by omega)⟩ (by omega))
      obtain ⟨W, hW⟩ : ∃ W, W = wlen L b := ⟨_, rfl⟩
      rw [← hW]
      have HW := Lib.hid hW
      clear hw hwb hW
      have g1 : ¬ (k : Int) < k := by omega
      go_wp2
      clear g1
      go_loopw [9, 11] (fun s i wr => ∃ q : Nat, q ≤ b ∧ i = .int .u64 q ∧ s = .int .u64 (wlen L q) ∧ S4 w (prc e A n m) a k R wr) (fun _ i _ => b - (intOf i).toNat)
      case atStart => exact ⟨0, by omega, rfl, rfl, hS⟩
      case round =>
        clear hS
        obtain ⟨q, hq, rfl, rfl, hS⟩ := hrel
        by_cases hlt : q < b
        · have g1 : (q : Int) < b := by omega
          have g2 : IntKind.u64.wrap ((q : Int) + 1) = ((q + 1 : Nat) : Int) := IntWalk.u64_in _ (by omega)
          have hwq := HWB.out q (by omega)
          have h8 := HLN.out q (by omega)
          have hcn := HN.out q (by omega) wr hS.2.2
          obtain ⟨T, hT⟩ : ∃ T, T = wlen L q := ⟨_, rfl⟩
          rw [← hT] at hwq ⊢
          obtain ⟨x0, x1⟩ := hS.1.c2
          have HT : Hid (wlen L (q + 1) = T + ((wsn L q).length : Int)) := Lib.hid (by rw [hT]; rfl)
          clear hT
          go_wp2_with fail
          refine hcn.mono ?_
          rintro en w4 ⟨a4, l4, m4, rfl, _, hu4, hb4⟩
          have hl4 := hu4.1
          rw [hl4] at h8 HT
          have g3 : IntKind.u64.wrap (l4 : Int) = l4 := IntWalk.u64_in _ (by omega)
          have g4 : IntKind.u64.wrap (T + (l4 : Int)) = T + l4 := IntWalk.u64_in _ (by omega)
          replace hS := hS.below hb4
          clear hcn hu4 hb4 x0 x1 hl4
          go_wp2
          go_roundw
          case rel => exact ⟨q + 1, by omega, by go_num, by rw [HT.out], hS⟩
          case measure => simp [intOf]; omega
        · have hqe : q = b := by omega
          subst hqe
          rw [← HW.out]
          have g1 : ¬ (q : Int) < q := by omega
          have hb63 := HC.out x 9223372036854775808 (by omega) (by omega)
          have hc62 := HC.out x 4611686018427387904 (by omega) (by omega)
          rw [HCC.out] at hb63 hc62
          rw [cnts_top HV.out (by omega)] at hb63
          have hc63 := hb63
          clear hb63
          have HNO : Hid (R.contains x = false → cnts L x 4611686018427387904 = 0) := Lib.hid (fun hh => cnts_none fun s hs t ht => by
            by_cases hc : t.contains x = true
            · have := (HMEM.out x).2 ⟨s, hs, t, ht, List.contains_iff_mem.1 hc⟩
              rw [List.contains_iff_mem.2 this] at hh; cases hh
            · simpa using hc)
          obtain ⟨C2, hC2⟩ : ∃ C2, C2 = cnts L x 4611686018427387904 := ⟨_, rfl⟩
          rw [← hC2] at hc62 hc63 HNO
          clear hC2
          have hha := rhas_any a k c R x wr hS.2.1 (by omega)
          unfold BPost at hha
          go_wp2_with fail
          refine hha.mono ?_
          rintro en w4 ⟨rfl, hb4⟩
          replace hS := hS.below hb4
          clear hha hb4 g1
          cases hcc : R.contains x
          case true =>
            clear hcc
            go_wp2
            have L1 : ∀ w', S4 w (prc e A n m) a k R w' → w'.cell? ⟨w.heap.size, 0, none⟩ = some (.int .u64 e) ∧ w'.cell? ⟨w.heap.size, 1, none⟩ = some (.slice A n m) := fun w' h => h.1.c2
            refine SeqH.wp_region_hav (S4 w (prc e A n m) a k R) (fun w1 w2 => Below w1.heap.size w1 w2) (fun o => o.dst == some 92 || o.dst == some 95) (fun o v _ => v = .int .u64 C2) (fun _ _ => True) ⟨fun w => Below.refl _ _, fun h1 h2 => h1.trans (h2.mono h1.size), fun h _ => h, fun _ => trivial⟩ (by kernel_rfl) (by kernel_rfl) (hS.below (below_one' _)) ?_
            repeat (first | (refine SeqH.Rl.skip (by rfl) ?_; (try simp only [Act.put, List.setIfInBounds_toArray, List.set_cons_zero, List.set_cons_succ])) | (refine SeqH.Rl.det ?_ (by rfl) (by rfl) (fun w hS => ?_) ?_; rotate_left; ((try dsimp only at hS); go_simp; (try rw [if_pos (by omega)]); with_reducible rfl); (try simp only [Act.put, List.setIfInBounds_toArray, List.set_cons_zero, List.set_cons_succ])))
            refine SeqH.Rl.hav (by rfl) (by rfl) rfl (by simp) (fun w3 hT3 hS3 KK Q' hK => ?_) (fun v3 w3 hT3 hS3 hG3 _ => ?_)
            · go_simp
              go_at_call 17
              refine (hc63 w3 hS3.2.2).mono ?_
              rintro en w4 ⟨rfl, hb4⟩
              exact hK.out _ _ hb4 (hS3.below hb4) rfl (fun _ _ _ => trivial)
            replace hG3 : v3 = .int .u64 C2 := hG3
            subst hG3
            replace hS := hS3
            have hT := hT3
            clear hS3 hT3
            try simp only [Act.put, List.setIfInBounds_toArray, List.set_cons_zero, List.set_cons_succ]
            repeat (first | (refine SeqH.Rl.skip (by rfl) ?_; (try simp only [Act.put, List.setIfInBounds_toArray, List.set_cons_zero, List.set_cons_succ])) | (refine SeqH.Rl.det ?_ (by rfl) (by rfl) (fun w hS => ?_) ?_; rotate_left; ((try dsimp only at hS); go_simp; (try rw [if_pos (by omega)]); with_reducible rfl); (try simp only [Act.put, List.setIfInBounds_toArray, List.set_cons_zero, List.set_cons_succ])))
            refine SeqH.Rl.hav (by rfl) (by rfl) rfl (by simp) (fun w3 hT3 hS3 KK Q' hK => ?_) (fun v3 w3 hT3 hS3 hG3 _ => ?_)
            · go_simp
              go_at_call 17
              refine (hc62 w3 hS3.2.2).mono ?_
              rintro en w4 ⟨rfl, hb4⟩
              exact hK.out _ _ hb4 (hS3.below hb4) rfl (fun _ _ _ => trivial)
            replace hG3 : v3 = .int .u64 C2 := hG3
            subst hG3
            replace hS := hS3
            replace hT := hT.trans (hT3.mono hT.size)
            clear hS3 hT3
            try simp only [Act.put, List.setIfInBounds_toArray, List.set_cons_zero, List.set_cons_succ]
            repeat (first | (refine SeqH.Rl.skip (by rfl) ?_; (try simp only [Act.put, List.setIfInBounds_toArray, List.set_cons_zero, List.set_cons_succ])) | (refine SeqH.Rl.det ?_ (by rfl) (by rfl) (fun w hS => ?_) ?_; rotate_left; ((try dsimp only at hS); go_simp; (try rw [if_pos (by omega)]); with_reducible rfl); (try simp only [Act.put, List.setIfInBounds_toArray, List.set_cons_zero, List.set_cons_succ])))
            refine SeqH.Rl.make (by rfl) (by rfl) (by rfl) (fun KK Q' hK => ?_)
            go_simp
            go_at_call 8
            refine (live21_any _).mono ?_
            rintro en w9 ⟨rfl, hb9⟩
            replace hS := hS.below hb9
            replace hT := hT.trans (hb9.mono hT.size)
            refine hK.out _ _ hT hS ?_
            clear hK KK hb9
            try simp only [Act.put, List.setIfInBounds_toArray, List.set_cons_zero, List.set_cons_succ]
            repeat (first | (refine SeqH.Rl.skip (by rfl) ?_; (try simp only [Act.put, List.setIfInBounds_toArray, List.set_cons_zero, List.set_cons_succ])) | (refine SeqH.Rl.det ?_ (by rfl) (by rfl) (fun w hS => ?_) ?_; rotate_left; ((try dsimp only at hS); go_simp; (try rw [if_pos (by omega)]); with_reducible rfl); (try simp only [Act.put, List.setIfInBounds_toArray, List.set_cons_zero, List.set_cons_succ])))
            refine SeqH.Rl.nil ?_
            have hbd := hS.2.2
            clear hS hT L1 hc62 hc63
            go_wp2
            go_ret
            exact ⟨rfl, hbd⟩
          case false =>
            have hz := HNO.out hcc
            subst hz
            clear hcc
            obtain ⟨x0, x1⟩ := hS.1.c2
            go_wp2_with fail
            refine (hc62 _ hS.2.2).mono ?_
            rintro en w5 ⟨rfl, hb5⟩
            replace hS := hS.below hb5
            clear hb5 x0 x1
            go_wp2
            have L1 : ∀ w', S4 w (prc e A n m) a k R w' → w'.cell? ⟨w.heap.size, 0, none⟩ = some (.int .u64 e) ∧ w'.cell? ⟨w.heap.size, 1, none⟩ = some (.slice A n m) := fun w' h => h.1.c2
            refine SeqH.wp_region_hav (S4 w (prc e A n m) a k R) (fun w1 w2 => Below w1.heap.size w1 w2) (fun o => o.dst == some 92 || o.dst == some 95) (fun o v _ => v = .int .u64 0) (fun _ _ => True) ⟨fun w => Below.refl _ _, fun h1 h2 => h1.trans (h2.mono h1.size), fun h _ => h, fun _ => trivial⟩ (by kernel_rfl) (by kernel_rfl) (hS.below (below_one' _)) ?_
            repeat (first | (refine SeqH.Rl.skip (by rfl) ?_; (try simp only [Act.put, List.setIfInBounds_toArray, List.set_cons_zero, List.set_cons_succ])) | (refine SeqH.Rl.det ?_ (by rfl) (by rfl) (fun w hS => ?_) ?_; rotate_left; ((try dsimp only at hS); go_simp; (try rw [if_pos (by omega)]); with_reducible rfl); (try simp only [Act.put, List.setIfInBounds_toArray, List.set_cons_zero, List.set_cons_succ])))
            refine SeqH.Rl.hav (by rfl) (by rfl) rfl (by simp) (fun w3 hT3 hS3 KK Q' hK => ?_) (fun v3 w3 hT3 hS3 hG3 _ => ?_)
            · go_simp
              go_at_call 17
              refine (hc63 w3 hS3.2.2).mono ?_
              rintro en w4 ⟨rfl, hb4⟩
              exact hK.out _ _ hb4 (hS3.below hb4) rfl (fun _ _ _ => trivial)
            replace hG3 : v3 = .int .u64 0 := hG3
            subst hG3
            replace hS := hS3
            have hT := hT3
            clear hS3 hT3
            try simp only [Act.put, List.setIfInBounds_toArray, List.set_cons_zero, List.set_cons_succ]
            repeat (first | (refine SeqH.Rl.skip (by rfl) ?_; (try simp only [Act.put, List.setIfInBounds_toArray, List.set_cons_zero, List.set_cons_succ])) | (refine SeqH.Rl.det ?_ (by rfl) (by rfl) (fun w hS => ?_) ?_; rotate_left; ((try dsimp only at hS); go_simp; (try rw [if_pos (by omega)]); with_reducible rfl); (try simp only [Act.put, List.setIfInBounds_toArray, List.set_cons_zero, List.set_cons_succ])))
            refine SeqH.Rl.hav (by rfl) (by rfl) rfl (by simp) (fun w3 hT3 hS3 KK Q' hK => ?_) (fun v3 w3 hT3 hS3 hG3 _ => ?_)
            · go_simp
              go_at_call 17
              refine (hc62 w3 hS3.2.2).mono ?_
              rintro en w4 ⟨rfl, hb4⟩
              exact hK.out _ _ hb4 (hS3.below hb4) rfl (fun _ _ _ => trivial)
            replace hG3 : v3 = .int .u64 0 := hG3
            subst hG3
            replace hS := hS3
            replace hT := hT.trans (hT3.mono hT.size)
            clear hS3 hT3
            try simp only [Act.put, List.setIfInBounds_toArray, List.set_cons_zero, List.set_cons_succ]
            repeat (first | (refine SeqH.Rl.skip (by rfl) ?_; (try simp only [Act.put, List.setIfInBounds_toArray, List.set_cons_zero, List.set_cons_succ])) | (refine SeqH.Rl.det ?_ (by rfl) (by rfl) (fun w hS => ?_) ?_; rotate_left; ((try dsimp only at hS); go_simp; (try rw [if_pos (by omega)]); with_reducible rfl); (try simp only [Act.put, List.setIfInBounds_toArray, List.set_cons_zero, List.set_cons_succ])))
            refine SeqH.Rl.make (by rfl) (by rfl) (by rfl) (fun KK Q' hK => ?_)
            go_simp
            go_at_call 8
            refine (live21_any _).mono ?_
            rintro en w9 ⟨rfl, hb9⟩
            replace hS := hS.below hb9
            replace hT := hT.trans (hb9.mono hT.size)
            refine hK.out _ _ hT hS ?_
            clear hK KK hb9
            try simp only [Act.put, List.setIfInBounds_toArray, List.set_cons_zero, List.set_cons_succ]
            repeat (first | (refine SeqH.Rl.skip (by rfl) ?_; (try simp only [Act.put, List.setIfInBounds_toArray, List.set_cons_zero, List.set_cons_succ])) | (refine SeqH.Rl.det ?_ (by rfl) (by rfl) (fun w hS => ?_) ?_; rotate_left; ((try dsimp only at hS); go_simp; (try rw [if_pos (by omega)]); with_reducible rfl); (try simp only [Act.put, List.setIfInBounds_toArray, List.set_cons_zero, List.set_cons_succ])))
            refine SeqH.Rl.nil ?_
            have hbd := hS.2.2
            clear hS hT L1 hc62 hc63
            go_wp2
            go_ret
            exact ⟨rfl, hbd⟩

set_option maxRecDepth 100000 in
theorem lifted (os : Os) (started : os.Started) (H : Type) (enc : TypeId × Value → H) :
    ReturnsInHanded {} Try.checked os 5 .any (Rows.locateCountsSpec.pre6 enc Try.prog Try.f5 Rows.locateCountsRow.domain false) (Rows.locateCountsSpec.post enc Try.prog Try.f5 false true false false) := by
  refine returnsInHanded_of_change (C := Try.checked) own started (by kernel_rfl) Try.func5
    (ChangeSpec.witness6 (enc := enc) (C := Try.checked) false ⟨#[], #[.agg #[.int .u64 0, .slice none 0 0], .int .u64 0, .int .u64 0], []⟩ 8 (by kernel_rfl) (by kernel_rfl) (by kernel_rfl) (by kernel_rfl)) ?_
  intro W base args ds gs before hval0 hW hcnd _
  have hval : ∀ (j : Nat) t v, Try.f5.params[j]? = some t → args[j]? = some v → Value.okWide Try.prog W .any base t v := hval0
  have hW' := hW
  obtain ⟨p, q, hA0, hV, rfl, hfz, hnd⟩ := hW
  have hA : DataW.TrodAll enc Try.prog W 0 (fun _ => true) true Try.f5.params.toList args.toList ds p := hA0
  rw [Try.params5] at hA hval
  obtain ⟨v0, vs0, d0, ds0, p0, q0, hargs, rfl, rfl, h0, r0⟩ := trodAll_cons hA
  obtain ⟨v1, vs1, d1, ds1, p1, q1, rfl, rfl, rfl, h1, r1⟩ := trodAll_cons r0
  obtain ⟨v2, vs2, d2, ds2, p2, q2, rfl, rfl, rfl, h2, r2⟩ := trodAll_cons r1
  obtain ⟨rfl, rfl, rfl⟩ := trodAll_nil r2
  obtain rfl : args = #[v0, v1, v2] := by cases args; simp_all
  obtain ⟨rfl, rfl⟩ := trodVars_none hV
  have lt0 : ∀ x ∈ p0, x.block < W.heap.size := by obtain ⟨m, hm⟩ := h0; exact DataW.trod_lt m _ _ _ hm
  have lt1 : ∀ x ∈ p1, x.block < W.heap.size := by obtain ⟨m, hm⟩ := h1; exact DataW.trod_lt m _ _ _ hm
  have lt2 : ∀ x ∈ p2, x.block < W.heap.size := by obtain ⟨m, hm⟩ := h2; exact DataW.trod_lt m _ _ _ hm
  clear hA0 hval0
  refine (walk enc W base v0 d0 p0 (hval 0 25 v0 rfl rfl) h0 v1 d1 p1 (hval 1 22 v1 rfl rfl) h1 v2 d2 p2 (hval 2 22 v2 rfl rfl) h2).mono fun e W' ⟨he, bel⟩ => ?_
  subst he
  exact ⟨_, rfl, _, _, _, [], _, [], hW', trodAll_mk1 (shut_bool Try.underlying4 _), (trodAll_cons_mk (Below.trod laidOut (by kernel_rfl) (of_decide_eq_true (by kernel_rfl)) h0 bel lt0) (trodAll_cons_mk (Below.trod laidOut (by kernel_rfl) (of_decide_eq_true (by kernel_rfl)) h1 bel lt1) (trodAll_cons_mk (Below.trod laidOut (by kernel_rfl) (of_decide_eq_true (by kernel_rfl)) h2 bel lt2) trodAll_mk0))), rfl, bel.frame _, fun h => by cases h⟩

theorem over : Rows.locateCountsRow.holds Try.pinned (OpenSpec.ofChange Rows.locateCountsSpec) :=
  OpenClaim.holds_of_wide 5 Try.f5 rfl rfl rfl rfl rfl rfl rfl ⟨rfl, rfl, rfl, rfl, rfl⟩ rfl rfl rfl rfl rfl (by kernel_rfl) Try.func5 (by kernel_rfl)
    (of_decide_eq_true (by kernel_rfl)) (by unfold Func.isWrapper; first | (rw [if_pos (by decide +kernel)]; kernel_rfl) | (rw [if_neg (by decide +kernel)]; exact ⟨rfl, rfl⟩))
    (fun os started H enc _ => lifted os started H enc)

/-- THE STATEMENT. -/
theorem proved : Rows.LocateCountsSaid := over
#print axioms proved
end Go.Proofs.Ytmcabaebdloakaa.locateCounts
