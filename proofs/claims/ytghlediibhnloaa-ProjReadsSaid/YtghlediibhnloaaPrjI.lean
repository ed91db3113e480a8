/- Projections read by the program: Read. -/
import Derived.Test.YtghlediibhnloaaPrjH
namespace Go.Proofs.Ytghlediibhnloaa.Cur
open Go.RowKit Mem
set_option linter.unusedVariables false
set_option maxRecDepth 100000


set_option maxHeartbeats 4000000 in
theorem pread_any (b : Nat) (a : Option Addr) (n m : Nat) (z : List Int) (p c q : Int) (w : World) (h : IsRd w b (.slice a n m) p c q) (hz : Bs w a n z) (h0 : 0 ≤ p) (h1 : p ≤ n) (hn : n ≤ 100000) (hby : ∀ x ∈ z, 0 ≤ x ∧ x < 256) :
    Calls Try.prog 24 #[.pointer (some ⟨b, 0, none⟩)] w (PRdPost b (.slice a n m) n z p c q w) := by
  have HBY := Lib.hid hby
  have HZL := Lib.hid hz.1
  clear hby
  have hA := Blk.new w (prc 0 none 0 0) 25
  have hb1 := below_one w (.cells (prc 0 none 0 0) 25)
  have hbl := h.lt
  have hr := h.below hb1
  have HK := Lib.hid (Kp.of_below (b := b) hb1)
  have HZ : Hid (∀ w', Kp b w w' → Bs w' a n z) := Lib.hid fun w' hk => hz.kp h (by simp) hk
  clear hb1 h hz
  go_enter Try.func24, Try.ntmps24
  go_wp2_with fail
  refine (eread_any b a n m z p c q _ hr (HZ.out _ HK.out) h0 h1 (by omega) HBY.out).mono ?_
  rintro en w1 ⟨e, p1, c1, q1, rfl, hk1, hr1, hs1⟩
  have HS1 := Lib.hid hs1
  have hA1 := (blk_kp hA hk1 (by omega)).alloc (.cells (prc e none 0 0) 25)
  have hP1 := Blk.new w1 (prc e none 0 0) 25
  have hbS := below_one w1 (.cells (prc e none 0 0) 25)
  have hr2 := hr1.below hbS
  have HK1 := Lib.hid ((HK.out.trans hk1).trans (Kp.of_below (b := b) hbS))
  have hxs : w.heap.size < w1.heap.size := by have := hk1.size; simp at this; omega
  have hpl := hs1.place
  have hsz : (w1.alloc (.cells (prc e none 0 0) 25)).heap.size = w1.heap.size + 1 := by simp
  clear hs1 hk1 hA hr hr1 HK hbS
  go_wp2_with fail
  generalize w1.alloc (.cells (prc e none 0 0) 25) = w2 at *
  generalize w1.heap.size = xs at *
  refine (pnum_any b a n m z p1 c1 q1 _ hr2 (HZ.out _ HK1.out) hpl.1 hpl.2 (by omega) HBY.out).mono ?_
  rintro en w3 ⟨N, p2, c2, q2, rfl, hk3, hr3, hs3⟩
  obtain ⟨n0, n8, _⟩ := mny_bd hs3 HZL.out hpl.1 hpl.2 HBY.out
  have hN8 : N ≤ 64 := by omega
  obtain ⟨N, rfl⟩ := Int.eq_ofNat_of_zero_le n0
  have HS3 := Lib.hid hs3
  have hpl3 := hs3.place
  have hA3 := blk_kp hA1 hk3 (by omega)
  have hP3 := blk_kp hP1 hk3 (by omega)
  have HK3 := Lib.hid (HK1.out.trans hk3)
  have hsz3 := hk3.size
  clear hs3 hk3 hr2 hA1 hP1 HK1 n8 n0
  go_wp2
  go_loopw [4, 11] (fun fv i wr => ∃ (k : Nat) (v : Value) (L : List Stp) (f pk ck qk : Int), k ≤ N ∧ i = .int .i64 k ∧ fv = .int .u64 f ∧ 0 ≤ f ∧ f ≤ 4611686018427387904 ∧ Blk wr xs #[.int .u64 e, v] 25 ∧ Blk wr w.heap.size (prc 0 none 0 0) 25 ∧ OwnPts wr (xs + 1) v L ∧ L.length = k ∧ Hid (plen 8 L) ∧ IsRd wr b (.slice a n m) pk ck qk ∧ Hid (Kp b w wr) ∧ 0 ≤ pk ∧ pk ≤ n ∧ xs + 1 ≤ wr.heap.size ∧ Hid (PsSt n z N p2 c2 q2 k L f pk ck qk)) (fun _ i _ => N - (intOf i).toNat)
  case atStart => exact ⟨0, .slice none 0 0, [], 0, p2, c2, q2, by omega, rfl, rfl, by omega, by omega, hP3, hA3, OwnPts.nil _ _, rfl, Lib.hid (fun s h => by simp at h), hr3, HK3, hpl3.1, hpl3.2, by omega, Lib.hid (PsSt.start hpl3.1 hpl3.2)⟩
  case round =>
    clear hA3 hP3 hr3 HK3 hsz3
    obtain ⟨k, v, L, f, pk, ck, qk, hk, rfl, rfl, f0, f1, hP, hA, ho, hLl, HLE, hr, HK, hp0, hp1, hsz4, HST⟩ := hrel
    by_cases hlt : k < N
    · have hcon := sread19_any b a n m z f pk ck qk wr hr (HZ.out _ HK.out) hp0 hp1 hn HBY.out f0 (by omega)
      have HLL := Lib.hid hLl
      clear hLl
      have e2 : (k : Int) < N := by omega
      have e3 : IntKind.i64.wrap ((k : Int) + 1) = ((k + 1 : Nat) : Int) := IntWalk.i64_in _ (by omega)
      clear hr
      go_wp2_with fail
      refine hcon.mono ?_
      rintro en w5 ⟨f', t, A5, N5, m5, S5, p5, c5, q5, rfl, hk5, hr5, hst5, hm5, hn5, hf5, ht5, hsb5, hl5, hN5, hs5⟩
      have hto := str_to hs5 HZL.out f0 hp0 hp1 HBY.out
      replace hto : 0 ≤ t ∧ t ≤ 4611686018427387904 := hto
      have HNX := Lib.hid (HST.out.next hlt hs5)
      have hpl5 := hs5.place
      have hK5 := HK.out.trans hk5
      have hP5 := blk_kp hP hk5 (by omega)
      have hA5 := blk_kp hA hk5 (by omega)
      have ho5 := ho.kp hk5 (by omega)
      have hsz5 := Nat.le_trans hsz4 hk5.size
      have hltv := ho.lt
      have hwr5 := hk5.size
      obtain ⟨Av, cv, rfl, _⟩ := ho.pts
      clear hcon hs5 hk5 hP hA ho hsb5
      have hX := Blk.new w5 (stc f' t A5 N5 m5) 60
      have hbX := below_one w5 (.cells (stc f' t A5 N5 m5) 60)
      have hP6 := hP5.below hbX
      have hA6 := hA5.below hbX
      have ho6 := ho5.below hbX
      have hr6 := hr5.below hbX
      have hst6 := hst5.below hbX
      have HK6 := Lib.hid (hK5.trans (Kp.of_below (b := b) hbX))
      have hsx : xs + 1 ≤ w5.heap.size := by omega
      have hsz6 : xs + 1 ≤ (w5.alloc (.cells (stc f' t A5 N5 m5) 60)).heap.size := by simp; omega
      have hwr6 : wr.heap.size ≤ (w5.alloc (.cells (stc f' t A5 N5 m5) 60)).heap.size := by simp; omega
      have hbw : b < wr.heap.size := by omega
      obtain ⟨x0, x1, x2⟩ := hX.c3
      clear hP5 hA5 ho5 hr5 hst5 hK5 hsz5 hwr5 hbX
      go_upto_region 7 with (fail)
      generalize w5.alloc (.cells (stc f' t A5 N5 m5) 60) = w6 at *
      generalize w5.heap.size = sx at *
      obtain ⟨y0, y1⟩ := hP6.c2
      have hb7 := below_one w6 (.cells #[.int .u64 f', .int .u64 t, .slice A5 N5 m5] 60)
      have hrwX := rw_new w6 [.int .u64 f', .int .u64 t, .slice A5 N5 m5] 60
      have ho7 := ho6.below hb7
      have hst7 := hst6.below hb7
      have hr7 := hr6.below hb7
      have hP7 := hP6.below hb7
      have hA7 := hA6.below hb7
      have hK7 := HK6.out.trans (Kp.of_below (b := b) hb7)
      have hel := StE.mk hf5 ht5 hst7.1 hm5 hn5 (hst7.mono (Q := fun k => xs + 1 ≤ k ∧ (Value.slice Av L.length cv).ownBlock ≠ some k) (fun g hg _ => ⟨by have h2 : wr.heap.size ≤ g := hg; omega, fun e => by have := hltv g e; have h2 : wr.heap.size ≤ g := hg; omega⟩))
      obtain ⟨cs, g1, g2', g3⟩ := ho7
      have g2 : (w6.alloc (.cells #[.int .u64 f', .int .u64 t, .slice A5 N5 m5] 60)).ownsRow (xs + 1) 60 3 (.slice Av L.length cv) L.length cs.flatten := g2'
      clear g2'
      have hge2 := own_ge g2
      have HL1 : Hid (L.length + 1 ≤ 1000000) := Lib.hid (by rw [HLL.out]; omega)
      have hB7 : xs + 1 ≤ (w6.alloc (.cells #[.int .u64 f', .int .u64 t, .slice A5 N5 m5] 60)).heap.size := by simp; omega
      have HHL : Hid (∀ l ∈ S5, l.length ≤ 8) := Lib.hid hl5
      have HS5 := Lib.hid hst6.1
      clear hX hltv hP6 hA6 ho6 hr6 hst6 hst7 hb7 hl5
      go_wp2_with (at_builtin; go_must (refine list_append_rw kindST rfl (.tmp 19) (.tmp 21) rfl (xs + 1) _ _ _ rfl g2 _ 1 _ [.int .u64 f', .int .u64 t, .slice A5 N5 m5] rfl rfl hrwX (by simp) (by simp [Value.oneCell']) HL1.out (by omega) hB7 ?_; intro v' w8 ho8 hg8 hgr8; have H8 := OwnPts.snoc g1 g3 hel ho8 hg8 hgr8; have hr8 := rd_grown hr7 hg8 (fun e => by have := hge2 b e; omega); have hK8 := hK7.grown hg8 (fun g e => by have := hge2 g e; omega); have hP8 : Blk w8 xs #[.int .u64 e, .slice Av L.length cv] 25 := (hg8.block xs hP7.lt (fun e => by have := hge2 xs e.symm; omega)).trans hP7; have hA8 : Blk w8 w.heap.size (prc 0 none 0 0) 25 := (hg8.block w.heap.size hA7.lt (fun e => by have := hge2 w.heap.size e.symm; omega)).trans hA7; have hs8 := hg8.size; obtain ⟨A8, c8, hv8, _⟩ := H8.pts; rw [show (L ++ [(f', t, S5)]).length = k + 1 by simp [HLL.out]] at hv8; subst hv8; have HO9 := Lib.hid (H8.ks (Ks.setCell (S := fun k => k = xs) w8 xs 1 (.slice A8 (k + 1) c8) rfl) (fun g hg => by omega)); have HP9 := Lib.hid (hP8.set 1 (.slice A8 (k + 1) c8)); have HA9 := Lib.hid (hA8.far (g := xs) 1 (.slice A8 (k + 1) c8) (by omega)); have HR9 := Lib.hid (hr8.kp (Kp.setCell w8 xs 1 (.slice A8 (k + 1) c8)) (by omega)); have HK9 := Lib.hid (hK8.far (p := ⟨xs, 1, none⟩) (by show w.heap.size ≤ xs; omega) (.slice A8 (k + 1) c8)); have HSZ9 : Hid (xs + 1 ≤ (w8.setCell ⟨xs, 1, none⟩ (.slice A8 (k + 1) c8)).heap.size) := Lib.hid (by simp at *; omega); clear x0 x1 x2 y0 y1; obtain ⟨y0, y1⟩ := hP8.c2; have yf := hP8.free 1; clear g1 g2 g3 hel ho8 hg8 hgr8 hrwX hr7 hge2 hB7 H8 hr8 hK8 hP8 hA8 hs8 hP7 hA7 hK7))
      go_roundw
      case rel => exact ⟨k + 1, .slice A8 (k + 1) c8, L ++ [(f', t, S5)], t, p5, c5, q5, by omega, by go_num, rfl, hto.1, hto.2, HP9.out, HA9.out, HO9.out, by simp [HLL.out], Lib.hid (fun s hs => by
        rcases List.mem_append.1 hs with hs | hs
        · exact HLE.out s hs
        · rw [List.mem_singleton] at hs; subst hs; exact ⟨by show S5.length ≤ 8; rw [HS5.out]; exact hN5, HHL.out⟩), HR9.out, HK9, hpl5.1, hpl5.2, HSZ9.out, HNX⟩
      case measure => simp [intOf]; omega
    · obtain rfl : k = N := by omega
      have HF := Lib.hid (HST.out.fin (.inl rfl) hp0 hp1)
      obtain ⟨A0, cv, rfl, hle, hnil, hpt⟩ := ho.pts
      rw [hLl] at hpt hle hP
      have HPT := Lib.hid hpt
      have HNIL := Lib.hid hnil
      clear hpt hnil HST ho hlt hLl
      by_cases hfm : f < 4611686018427387904
      · have HG := Lib.hid (fun c' q' => prd_bad (c' := c') (q' := q') HS1.out HS3.out HF.out hfm)
        go_wp2_with fail
        refine (at_any b _ pk ck qk wr hr).mono ?_
        rintro en w' ⟨rfl, rfl⟩
        go_wp2_with fail
        refine (fail_any _ _ _ _ _ 3 pk _ hr).mono ?_
        rintro en w6 ⟨c6, q6, rfl, hk6, hr6, hf6⟩
        have hc6 : c6 ≠ 0 := by
          rcases hf6 with ⟨_, rfl, _⟩ | ⟨h, rfl, _⟩
          · decide
          · exact h
        have HFIN := Lib.hid (HG.out _ _ hf6)
        have hA6 := blk_kp hA hk6 (by omega)
        have hK6 := HK.out.trans hk6
        have hcb : (c6 == 0) = false := by simpa using hc6
        clear hf6 hk6 hr hA hP HF HG hc6 HK
        go_wp2_with fail
        refine (good_any _ _ _ _ _ _ hr6).mono ?_
        rintro en w7 ⟨rfl, hb7⟩
        have hA7 := hA6.below hb7
        have HR7 := Lib.hid (hr6.below hb7)
        have HK7 := Lib.hid (hK6.trans (Kp.of_below (b := b) hb7))
        obtain ⟨x0, x1⟩ := hA7.c2
        have g0 := hA7.free 0
        have g1 := hA7.free 1
        clear hb7 hA6 hA7 hr6 hK6 HPT
        go_wp2
        refine bodyPost_ret (v := pragg 0 none 0 0) (by simp [results, Try.results24, go_sem, x0, x1]) rfl ⟨0, none, 0, 0, [], pk, c6, q6, rfl, ?_, ?_, ⟨rfl, Sq.nil _ _ _ _⟩, by omega, fun _ => rfl, by omega, (fun s h => by simp at h), HFIN.out⟩
        · iterate 2 (refine Kp.far ?_ (by simp) _)
          exact HK7.out
        · iterate 2 (refine IsRd.kp ?_ (Kp.setCell _ w.heap.size _ _) (by omega))
          exact HR7.out
      · have HFIN := Lib.hid (prd_good HS1.out HS3.out HF.out (by omega))
        clear HF
        go_wp2_with fail
        refine (good_any _ _ _ _ _ _ hr).mono ?_
        rintro en w7 ⟨rfl, hb7⟩
        have hA7 := hA.below hb7
        have hP7 := hP.below hb7
        have HR7 := Lib.hid (hr.below hb7)
        have HK7 := Lib.hid (HK.out.trans (Kp.of_below (b := b) hb7))
        have HT7 := Lib.hid (HPT.out.below hb7)
        obtain ⟨x0, x1⟩ := hA7.c2
        obtain ⟨y0, y1⟩ := hP7.c2
        have g0 := hA7.free 0
        have g1 := hA7.free 1
        clear hb7 hA hA7 hP hP7 hr HPT HK hfm
        by_cases hc : ck = 0
        · have hcb : (ck == 0) = true := by simpa using hc
          have HC := Lib.hid hc
          clear hc
          go_wp2
          refine bodyPost_ret (v := pragg e A0 k cv) (by simp [results, Try.results24, go_sem, x0, x1]) rfl ⟨e, A0, k, cv, L, pk, ck, qk, rfl, ?_, ?_, ?_, hle, HNIL.out, by omega, HLE.out, by have := HFIN.out; rw [if_pos HC.out] at this; exact this⟩
          · iterate 2 (refine Kp.far ?_ (by simp) _)
            exact HK7.out
          · iterate 2 (refine IsRd.kp ?_ (Kp.setCell _ w.heap.size _ _) (by omega))
            exact HR7.out
          · refine Pts.mono (Pts.keep HT7.out (fun g hg hl => ?_)) (fun g hg _ => by omega)
            rw [Below.heap_setCell _ _ _ _ (by simp; omega), Below.heap_setCell _ _ _ _ (by simp; omega)]
        · have hcb : (ck == 0) = false := by simpa using hc
          have HC := Lib.hid hc
          clear hc
          go_wp2
          refine bodyPost_ret (v := pragg 0 none 0 0) (by simp [results, Try.results24, go_sem, x0, x1]) rfl ⟨0, none, 0, 0, [], pk, ck, qk, rfl, ?_, ?_, ⟨rfl, Sq.nil _ _ _ _⟩, by omega, fun _ => rfl, by omega, (fun s h => by simp at h), by have := HFIN.out; rw [if_neg HC.out] at this; exact this⟩
          · iterate 2 (refine Kp.far ?_ (by simp) _)
            exact HK7.out
          · iterate 2 (refine IsRd.kp ?_ (Kp.setCell _ w.heap.size _ _) (by omega))
            exact HR7.out
end Go.Proofs.Ytghlediibhnloaa.Cur
