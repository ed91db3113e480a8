/- As the seat's text, without what nothing here names. -/
import Derived.Test.YtoemmppoejaapaaPbrAt
import Derived.Test.YtoemmppoejaapaaK35t
import Derived.Carry
namespace Go.Proofs.Ytoemmppoejaapaa.Cur
open Go.RowKit Mem
set_option linter.unusedVariables false
set_option maxRecDepth 100000
def BrS (wr : World) (cs : Array Value) (w' : World) : Prop := Below wr.heap.size wr w' ∧ Blk w' wr.heap.size cs 31
def RbaPost (y : Nat) (e b : Int) (n : Nat) (L : List En) (w : World) (en : Ending) (w' : World) : Prop :=
  Below w.heap.size w w' ∧ ((n = 0 ∧ ∃ A2 m2, en = .returned (btagg e b A2 0 m2)) ∨
    (0 < n ∧ ∃ g cap cur gk, en = .returned (btagg e b (some ⟨g, 0, none⟩) n cap) ∧ n ≤ cap ∧ w.heap.size ≤ g ∧ OutR y w' g n cur gk (bareEn L) ∧ ∀ j, j < n → 0 < (L.getD j en0).1.length → w.heap.size ≤ gk j))
def BaI (y : Nat) (w : World) (e b : Int) (A : Option Addr) (n m : Nat) (L : List En) (k : Nat) (wr : World) : Prop :=
  Blk wr w.heap.size (btenc e b A n m) 25 ∧ Blk wr (w.heap.size + 1) (btenc 0 0 none 0 0) 25 ∧ (∃ Av cv xs, Blk wr (w.heap.size + 2) (btenc e b Av k cv) 25 ∧ BrI y w wr (w.heap.size + 3) (.slice Av k cv) L k xs) ∧ Below w.heap.size w wr ∧ w.heap.size + 3 ≤ wr.heap.size
set_option maxHeartbeats 8000000 in
theorem rbare_any (y : Nat) (e b : Int) (A : Option Addr) (n m : Nat) (L : List En) (w : World) (hz : Ens w (fun b => b ≠ y) A n L) (hn : n ≤ 30) (hs : esm L) :
    Calls Try.prog 37 #[btagg e b A n m] w (RbaPost y e b n L w) := by
  have hX := ((Blk.new w (btenc e b A n m) 25).alloc (.cells (btenc 0 0 none 0 0) 25)).alloc (.cells (btenc e b none 0 0) 25)
  have hY := (Blk.new (w.alloc (.cells (btenc e b A n m) 25)) (btenc 0 0 none 0 0) 25).alloc (.cells (btenc e b none 0 0) 25)
  have hZ := Blk.new ((w.alloc (.cells (btenc e b A n m) 25)).alloc (.cells (btenc 0 0 none 0 0) 25)) (btenc e b none 0 0) 25
  rw [show ((w.alloc (.cells (btenc e b A n m) 25)).alloc (.cells (btenc 0 0 none 0 0) 25)).heap.size = w.heap.size + 2 by simp] at hZ
  rw [World.size_alloc] at hY
  have hb2 := below_two w (.cells (btenc e b A n m) 25) (.cells (btenc 0 0 none 0 0) 25)
  have hb := hb2.trans ((below_one ((w.alloc (.cells (btenc e b A n m) 25)).alloc (.cells (btenc 0 0 none 0 0) 25)) (.cells (btenc e b none 0 0) 25)).mono hb2.size)
  have hsz : (((w.alloc (.cells (btenc e b A n m) 25)).alloc (.cells (btenc 0 0 none 0 0) 25)).alloc (.cells (btenc e b none 0 0) 25)).heap.size = w.heap.size + 3 := by simp
  have HLN := Lib.hid hz.1
  have HSM := Lib.hid hs
  have HZ := Lib.hid hz
  have H0 : Hid (BaI y w e b A n m L 0 (((w.alloc (.cells (btenc e b A n m) 25)).alloc (.cells (btenc 0 0 none 0 0) 25)).alloc (.cells (btenc e b none 0 0) 25))) := Lib.hid ⟨hX, hY, ⟨none, 0, [], hZ, BrI.nil _ _ _ _ _⟩, hb, by rw [hsz]; exact Nat.le_refl _⟩
  obtain ⟨x0, x1, x2⟩ := hX.c3
  clear hz hs hY hZ hb2 hb hX
  go_enter Try.func37, Try.ntmps37
  go_wp2
  clear x0 x1 x2 hsz
  generalize ((w.alloc (.cells (btenc e b A n m) 25)).alloc (.cells (btenc 0 0 none 0 0) 25)).alloc (.cells (btenc e b none 0 0) 25) = w0 at *
  go_loopw [4] (fun i wr => ∃ k : Nat, k ≤ n ∧ i = .int .i64 k ∧ Hid (BaI y w e b A n m L k wr)) (fun i _ => n - (intOf i).toNat)
  case atStart => exact ⟨0, by omega, rfl, H0⟩
  case round =>
    clear H0
    obtain ⟨k, hk, rfl, HR⟩ := hrel
    obtain ⟨hX, hY, ⟨Av, cv, xs, hO, hB⟩, hbd, hszr⟩ := HR.out
    obtain ⟨x0, x1, x2⟩ := hX.c3
    clear HR
    obtain ⟨wo, hwo⟩ : ∃ wo, wo = wr := ⟨_, rfl⟩
    subst hwo
    by_cases hlt : k < n
    · obtain ⟨g, o, rfl, _, hg, hc⟩ := HZ.out.cells (by omega)
      obtain ⟨KL, D, a, l, mm, bb, r, kk, he, hlm, hnl, hks, hrk, hnb, hbs, hbb, hsq, hcell⟩ := hc k hlt
      have ek : (k : Int) < n := by omega
      have e3 : IntKind.i64.wrap ((k : Int) + 1) = ((k + 1 : Nat) : Int) := IntWalk.i64_in _ (by omega)
      have hKl : KL.length = l := hks.1
      have hl50 : l ≤ 50 := by have := (HSM.out k).1; rw [he] at this; rw [← hKl]; exact this
      have hcw := hcell wo hbd
      obtain ⟨c0, c1⟩ := hcw
      have hyn := Blk.new wo (enc' none 0 0 bb r kk) 31
      have hbA := below_one wo (.cells (enc' none 0 0 bb r kk) 31)
      have HX := Lib.hid hX
      have HY := Lib.hid hY
      have HO := Lib.hid hO
      have HB := Lib.hid hB
      have HBD := Lib.hid hbd
      have HCELL := Lib.hid hcell
      have HKS := Lib.hid hks
      have HE := Lib.hid he
      have HDT := Lib.hid (And.intro hrk (And.intro hnb (And.intro hbs (And.intro hbb (fun h0 => hsq.bs.2.2 h0)))))
      have HLM := Lib.hid (And.intro hlm hnl)
      have HKL := Lib.hid hKl
      have hne9 : w.heap.size + 3 ≤ wo.heap.size := hszr
      have HI0 : Hid (Below wo.heap.size wo (wo.alloc (.cells (enc' none 0 0 bb r kk) 31)) ∧ ∃ A2 c2, Blk (wo.alloc (.cells (enc' none 0 0 bb r kk) 31)) wo.heap.size (enc' A2 0 c2 bb r kk) 31 ∧ (wo.alloc (.cells (enc' none 0 0 bb r kk) 31)).ownsRow (wo.heap.size + 1) 51 2 (.slice A2 0 c2) 0 (bcs (KL.take 0))) :=
        Lib.hid ⟨hbA, none, 0, hyn, World.ownsRow_nil _ _ _ _⟩
      clear hX hY hO hB hbd hc hcell hks he hrk hnb hbs hbb hsq hlm hnl hKl hyn hbA hg
      go_wp2
      clear x0 x1 x2 c0 c1
      generalize hwy : wo.alloc (.cells (enc' none 0 0 bb r kk) 31) = wy at *
      clear hwy
      go_loopw [6] (fun i wr => ∃ i2 : Nat, i2 ≤ l ∧ i = .int .i64 i2 ∧ Hid (Below wo.heap.size wo wr ∧ ∃ A2 c2, Blk wr wo.heap.size (enc' A2 i2 c2 bb r kk) 31 ∧ wr.ownsRow (wo.heap.size + 1) 51 2 (.slice A2 i2 c2) i2 (bcs (KL.take i2)))) (fun i _ => l - (intOf i).toNat)
      case atStart => exact ⟨0, by omega, rfl, HI0⟩
      case round =>
        clear HI0
        obtain ⟨i, hi, rfl, HR⟩ := hrel
        obtain ⟨hbq, A2, c2, hyq, hoq⟩ := HR.out
        clear HR
        obtain ⟨x0, x1, x2⟩ := (HX.out.below hbq).c3
        have hbw := HBD.out.trans (hbq.mono HBD.out.size)
        obtain ⟨c0, c1⟩ := HCELL.out _ hbw
        obtain ⟨y0, y1⟩ := hyq.c2
        by_cases hil : i < l
        · obtain ⟨g', o', rfl, _, _, hd⟩ := HKS.out.cells (by omega)
          obtain ⟨s, z, a', l', m', he2, hsb, hzl, _, _, _, _, _, _, hcc⟩ := hd i hil
          have ei : (i : Int) < l := by omega
          have e4 : IntKind.i64.wrap ((i : Int) + 1) = ((i + 1 : Nat) : Int) := IntWalk.i64_in _ (by omega)
          have HTK : Hid (bcs (KL.take (i + 1)) = bcs (KL.take i) ++ [.int .u64 s, .slice none 0 0]) := Lib.hid (by
            rw [tk_one (by rw [HKL.out]; exact hil), bcs_snoc, he2])
          have hbqd : Below wo.heap.size wo wr.drew := hbq.trans ((below_one' wr).mono hbq.size)
          have hyqd : Blk wr.drew wo.heap.size (enc' A2 i c2 bb r kk) 31 := hyq
          have hoqd : wr.drew.ownsRow (wo.heap.size + 1) 51 2 (.slice A2 i c2) i (bcs (KL.take i)) := hoq
          have HCC := Lib.hid hcc
          have hSD : BrS wo (enc' A2 i c2 bb r kk) wr.drew := ⟨hbqd, hyqd⟩
          have L1 : ∀ w', BrS wo (enc' A2 i c2 bb r kk) w' → w'.cell? ⟨w.heap.size, 2, none⟩ = some (.slice (some ⟨g, o, none⟩) n m) ∧ w'.cell? ⟨wo.heap.size, 0, none⟩ = some (.slice A2 i c2) ∧ w'.cell? ⟨g, o + k * 2, none⟩ = some (.slice (some ⟨g', o', none⟩) l mm) ∧ w'.cell? ⟨g', o' + i * 2, none⟩ = some (.int .u64 s) := fun w' h => by
            have h1 := HBD.out.trans (h.1.mono HBD.out.size)
            exact ⟨(HX.out.below h.1).c3.2.2, h.2.c2.1, (HCELL.out w' h1).1, (HCC.out w' h1).1⟩
          clear hbq hyq hoq hd hcc he2 hbw hbqd hyqd y0 y1
          go_wp2
          clear x0 x1 x2 c0 c1
          refine Seq.wp_region_last (BrS wo (enc' A2 i c2 bb r kk)) (by kernel_rfl) (by kernel_rfl) (by kernel_rfl) hSD ?_
          generalize wr.drew = wd at *
          repeat (first | (refine Seq.SeqE.skip (by rfl) ?_; (try simp only [Act.put, List.setIfInBounds_toArray, List.set_cons_zero, List.set_cons_succ])) | (refine Seq.SeqE.det ?_ (by rfl) (fun w hS => ?_) ?_; rotate_left; ((try dsimp only at hS); go_simp; (try rw [if_pos (by omega)]); with_reducible rfl); (try simp only [Act.put, List.setIfInBounds_toArray, List.set_cons_zero, List.set_cons_succ])))
          refine Seq.SeqE.make (by rfl) (by rfl) (fun K Q' hK => ?_)
          go_simp
          have hb5 := below_one wd (.cells #[.int .u64 s, .slice none 0 0] 51)
          have hS5 : BrS wo (enc' A2 i c2 bb r kk) (wd.alloc (.cells #[.int .u64 s, .slice none 0 0] 51)) := ⟨hSD.1.trans (hb5.mono hSD.1.size), hSD.2.below hb5⟩
          have ho5 : (wd.alloc (.cells #[.int .u64 s, .slice none 0 0] 51)).ownsRow (wo.heap.size + 1) 51 2 (.slice A2 i c2) i (bcs (KL.take i)) := own_block hoqd fun q hq => hb5.block q (World.ownsRow.lt hoqd q hq).2
          have hrw5 := rw_new wd [.int .u64 s, .slice none 0 0] 51
          have hge5 := own_ge ho5
          have hB5 : wo.heap.size + 1 ≤ (wd.alloc (.cells #[.int .u64 s, .slice none 0 0] 51)).heap.size := by have := hSD.2.lt; simp; omega
          refine hK.out _ _ (hS5) ?_
          clear hK K
          try simp only [Act.put, List.setIfInBounds_toArray, List.set_cons_zero, List.set_cons_succ]
          repeat (first | (refine Seq.SeqE.skip (by rfl) ?_; (try simp only [Act.put, List.setIfInBounds_toArray, List.set_cons_zero, List.set_cons_succ])) | (refine Seq.SeqE.det ?_ (by rfl) (fun w hS => ?_) ?_; rotate_left; ((try dsimp only at hS); go_simp; (try rw [if_pos (by omega)]); with_reducible rfl); (try simp only [Act.put, List.setIfInBounds_toArray, List.set_cons_zero, List.set_cons_succ])))
          refine Seq.SeqE.make (by rfl) (by rfl) (fun K Q' hK => ?_)
          refine oper_append_rwl kindLK (.tmp 38) (.tmp 50) rfl (wo.heap.size + 1) _ _ _ rfl ho5 _ 1 1 [.int .u64 s, .slice none 0 0] rfl rfl hrw5 (fun e => by cases e) (by simp [Value.oneCell']) (by omega) (by omega) hB5 ?_
          intro v' w9 ho9 hg9 hgr9
          have hk9 := Ks.of_grown (S := fun b => (Value.slice A2 i c2).ownBlock = some b) hg9 (fun b e => e)
          have hbd9 := hk9.below hS5.1 (Nat.le_refl _) (fun b hb => by have := hge5 b hb; omega)
          have hS9 : BrS wo (enc' A2 i c2 bb r kk) w9 := ⟨hbd9, hS5.2.ks hk9 (fun e => by have := hge5 _ e; omega)⟩
          rw [← HTK.out] at ho9
          obtain ⟨A9, c9, hv9, _⟩ := own_slice ho9
          subst hv9
          have hge9 := own_ge ho9
          have q1 := hS9.2.c2.1
          have q2 := hS9.2.free 0
          have HY9 := Lib.hid (hS9.2.set 0 (.slice A9 (i + 1) c9))
          have HU9 : Hid ((w9.setCell ⟨wo.heap.size, 0, none⟩ (.slice A9 (i + 1) c9)).ownsRow (wo.heap.size + 1) 51 2 (.slice A9 (i + 1) c9) (i + 1) (bcs (KL.take (i + 1)))) := Lib.hid (own_block ho9 (fun b hb => Below.heap_setCell _ _ _ _ (fun e => by have := hge9 b hb; dsimp only at e; omega)))
          have HB9 := Lib.hid (Below.setCell hbd9 (p := ⟨wo.heap.size, 0, none⟩) (Nat.le_refl _) (.slice A9 (i + 1) c9))
          clear hS5 ho5 hrw5 hge5 hb5 hg9 hgr9 ho9 hk9 hge9 hbd9 hoqd hSD hB5
          refine hK.out _ _ (hS9) ?_
          clear hK K
          try simp only [Act.put, List.setIfInBounds_toArray, List.set_cons_zero, List.set_cons_succ]
          repeat (first | (refine Seq.SeqE.skip (by rfl) ?_; (try simp only [Act.put, List.setIfInBounds_toArray, List.set_cons_zero, List.set_cons_succ])) | (refine Seq.SeqE.det ?_ (by rfl) (fun w hS => ?_) ?_; rotate_left; ((try dsimp only at hS); go_simp; (try rw [if_pos (by omega)]); with_reducible rfl); (try simp only [Act.put, List.setIfInBounds_toArray, List.set_cons_zero, List.set_cons_succ])))
          refine Seq.SeqE.last (by rfl) (by rfl) (fun K Q' hK => ?_)
          go_simp
          refine hK.out _ _ ?_
          clear hK K
          try simp only [Act.put, List.setIfInBounds_toArray, List.set_cons_zero, List.set_cons_succ]
          clear q1 q2 L1 hS9
          go_wp2
          go_roundw
          case rel => exact ⟨i + 1, by omega, by go_num, Lib.hid ⟨HB9.out, A9, c9, HY9.out, HU9.out⟩⟩
          case measure => simp [intOf]; omega
        · obtain rfl : l = i := by omega
          have hil' : ¬ (l : Int) < l := by omega
          have hZq := HO.out.below hbq
          obtain ⟨z0, z1, z2⟩ := hZq.c3
          have hBq := HB.out.below hbq
          have hlo9 := own_ge hoq
          obtain ⟨h1, h2, h3⟩ := hBq
          have hrwn := rw_new wr (enc' A2 l c2 bb r kk).toList 31
          have hbN := below_one wr (.cells (enc' A2 l c2 bb r kk) 31)
          have hBN : BrI y w (wr.alloc (.cells (enc' A2 l c2 bb r kk) 31)) (w.heap.size + 3) (.slice Av k cv) L k xs := BrI.below ⟨h1, h2, h3⟩ hbN
          have hlnr : 0 < l → ∃ g, A2 = some ⟨g, 0, none⟩ ∧ LnR y (wr.alloc (.cells (enc' A2 l c2 bb r kk) 31)) g (bareL KL) ∧ wo.heap.size + 1 ≤ g := fun h0 => by
            have h9 : wr.ownsRow (wo.heap.size + 1) 51 2 (.slice A2 l c2) KL.length (bcs KL) := by
              rw [HKL.out]
              rw [List.take_of_length_le (by rw [HKL.out]; omega)] at hoq
              exact hoq
            obtain ⟨g9, cap9, e9, p1, _, p3⟩ := lnr_of h9 (fun x hx => (HKS.out.bds x hx).1) (by rw [HKL.out]; exact h0)
            injection e9 with e9
            exact ⟨g9, e9, p3.below hbN, p1⟩
          obtain ⟨hA2n, hc2⟩ : (A2 = none → c2 = 0) ∧ l ≤ c2 := by
            obtain ⟨A', c', e9, p1, p2⟩ := own_slice hoq
            injection e9 with e1 e2 e3
            subst e1 e3
            exact ⟨p1, p2⟩
          have hXN := HX.out.below (hbq.trans (hbN.mono hbq.size))
          have hYN := HY.out.below (hbq.trans (hbN.mono hbq.size))
          have hON := hZq.below hbN
          have hBDN := hbw.trans (hbN.mono hbw.size)
          have hvlt : ∀ q, (Value.slice Av k cv).ownBlock = some q → q < wo.heap.size := fun q hq => (World.ownsRow.lt HB.out.1 q hq).2
          have hglt : ∀ j, j < k → 0 < (L.getD j en0).1.length → gkL xs j < wo.heap.size := fun j hj h0 => by
            obtain ⟨_, _, _, _, _, _, _, _, _, _, _, _, q9⟩ := HB.out.2.1 j hj
            exact (q9 h0).2.1.lt
          have HVL := Lib.hid hvlt
          have HGL := Lib.hid hglt
          have HLR := Lib.hid hlnr
          have HXN := Lib.hid hXN
          have HYN := Lib.hid hYN
          have HON := Lib.hid hON
          have HBN := Lib.hid hBN
          have HBDN := Lib.hid hBDN
          have HAC := Lib.hid (And.intro hA2n hc2)
          have hszq : wo.heap.size < wr.heap.size := hyq.lt
          have hBsz : w.heap.size + 3 ≤ (wr.alloc (.cells (enc' A2 l c2 bb r kk) 31)).heap.size := by simp; omega
          have hgeN := own_ge hBN.1
          have hown : (wr.alloc (.cells (enc' A2 l c2 bb r kk) 31)).ownsRow (w.heap.size + 3) 31 2 (.slice Av k cv) k xs := hBN.1
          clear h1 h2 h3 hlnr hXN hYN hON hBDN hbN hoq hbq hZq hBN hA2n hc2 hvlt hglt hlo9 hyq c1
          go_wp2_with (at_builtin; go_must (refine list_append_rw kindEN rfl (.tmp 54) (.tmp 56) rfl (w.heap.size + 3) _ _ _ rfl hown _ 1 _ [.slice A2 l c2, .slice bb r kk] rfl rfl hrwn (by simp) (by simp [Value.oneCell']) (by omega) (by omega) hBsz ?_; intro v9 w9 ho9 hg9 hgr9; have hkH := Ks.of_grown (S := fun g => (Value.slice Av k cv).ownBlock = some g) hg9 (fun k e => e); have hN9 : BrI y w w9 (w.heap.size + 3) v9 L (k + 1) (xs ++ [.slice A2 l c2, .slice bb r kk]) := (by have hKe := HE.out; have hKL := HKL.out; have hD := HDT.out; have hDl : D.length = r := hD.2.2.1.1; have := BrI.next (a := A2) (m := c2) (b := bb) (kk := kk) HBN.out (lo := wo.heap.size) HVL.out HGL.out hne9 (by rw [hKe]; dsimp only; rw [hKL]; exact HAC.out.2) HAC.out.1 (by rw [hKe]; dsimp only; rw [hDl]; exact hD.1) hD.2.1 (by rw [hKe]; dsimp only; rw [hDl]; exact hD.2.2.1) (by rw [hKe]; exact hD.2.2.2) (fun h0 => by rw [hKe] at h0 ⊢; obtain ⟨g9, p1, p2, p3⟩ := HLR.out (by rw [← hKL]; exact h0); exact ⟨g9, p1, p2, by omega⟩) (v' := v9) (w' := w9) (by rw [hKe]; dsimp only; rw [hKL, hDl]; exact ho9) hg9 hgr9; rw [hKe] at this; dsimp only at this; rw [hKL, hDl] at this; exact this); obtain ⟨A9, c9, hv9, _⟩ := own_slice ho9; subst hv9; have hX9 := HXN.out.ks hkH (fun e => by have := hgeN _ e; omega); have hY9 := HYN.out.ks hkH (fun e => by have := hgeN _ e; omega); have hO9 := HON.out.ks hkH (fun e => by have := hgeN _ e; omega); have hbd9 := HBDN.out.grown hg9 (by omega) (fun q e => by have := hgeN q e; omega); obtain ⟨z0, z1, z2⟩ := hO9.c3; have zf := hO9.free 2; have HO10 := Lib.hid (hO9.set 2 (.slice A9 (k + 1) c9)); have HX10 := Lib.hid (hX9.far (g := w.heap.size + 2) 2 (.slice A9 (k + 1) c9) (by omega)); have HY10 := Lib.hid (hY9.far (g := w.heap.size + 2) 2 (.slice A9 (k + 1) c9) (by omega)); have HN10 := Lib.hid (hN9.keep (w' := w9.setCell ⟨w.heap.size + 2, 2, none⟩ (.slice A9 (k + 1) c9)) (fun q hq _ => Below.heap_setCell _ _ _ _ (by show q ≠ w.heap.size + 2; omega))); have HB10 := Lib.hid (Below.setCell hbd9 (p := ⟨w.heap.size + 2, 2, none⟩) (by show w.heap.size ≤ w.heap.size + 2; omega) (.slice A9 (k + 1) c9)); have hsz9 := hg9.size; have HS10 : Hid (w.heap.size + 3 ≤ (w9.setCell ⟨w.heap.size + 2, 2, none⟩ (.slice A9 (k + 1) c9)).heap.size) := Lib.hid (by rw [World.size_setCell]; exact Nat.le_trans hBsz hsz9); clear hN9 hX9 hY9 hO9 hbd9 hkH ho9 hg9 hgr9 hown hrwn hgeN hsz9))
          go_roundw
          case rel => exact ⟨k + 1, by omega, by go_num, Lib.hid ⟨HX10.out, HY10.out, ⟨A9, c9, _, HO10.out, HN10.out⟩, HB10.out, HS10.out⟩⟩
          case measure => simp [intOf]; omega
    · obtain rfl : n = k := by omega
      have hnk : ¬ (n : Int) < n := by omega
      have HBD := Lib.hid hbd
      have HB := Lib.hid hB
      obtain ⟨z0, z1, z2⟩ := hO.c3
      obtain ⟨y0, y1, y2⟩ := hY.c3
      obtain ⟨f0, f1, f2⟩ := blk_f3 hY
      have HY := Lib.hid hY
      clear hO hX hbd hB
      go_wp2
      obtain ⟨hY9, hk9⟩ := set3 HY.out (.int .u64 e) (.int .u64 b) (.slice Av n cv)
      obtain ⟨d0, d1, d2⟩ := hY9.c3
      have hfin := Kp.below HBD.out (Nat.le_refl _) hk9 (by omega)
      refine bodyPost_ret (v := btagg e b Av n cv) (by simp [results, Try.results37, go_sem, d0, d1, d2]) rfl ⟨hfin, ?_⟩
      have hB9 := HB.out.keep (fun q hq hl => hk9.block q hl (by omega))
      rcases Nat.eq_zero_or_pos n with h0 | h0
      · subst h0
        exact .inl ⟨rfl, _, _, rfl⟩
      · obtain ⟨g9, cap9, cur9, e9, p1, p2, p3, p4⟩ := hB9.out HLN.out h0 hfin
        injection e9 with e1 _ e3
        subst e1 e3
        exact .inr ⟨h0, g9, _, cur9, _, rfl, p1, by omega, p3, fun j hj hl => by have := p4 j hj hl; omega⟩
end Go.Proofs.Ytoemmppoejaapaa.Cur
