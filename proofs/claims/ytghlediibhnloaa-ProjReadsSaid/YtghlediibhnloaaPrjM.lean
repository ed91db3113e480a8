/- Projections read by the document: Read. -/
import Derived.Test.YtghlediibhnloaaPrjI
import Derived.Test.YtghlediibhnloaaStpN
namespace Go.Proofs.Ytghlediibhnloaa.Cur
open Go.RowKit Mem
set_option linter.unusedVariables false
set_option maxRecDepth 100000


def RPPost (s : Value) (n : Nat) (z : List Int) (p c q : Int) (w : World) (en : Ending) (w' : World) : Prop :=
  ∃ (e : Int) (A : Option Addr) (N m : Nat) (L : List Stp) (p' c' q' : Int), en = .returned (.tuple #[cv s p' c' q', pragg e A N m]) ∧ Below w.heap.size w w' ∧ Pts w' (fun k => w.heap.size ≤ k) A N L ∧ N ≤ m ∧ (A = none → m = 0) ∧
    N ≤ 64 ∧ plen 8 L ∧ St prj0 n (prd z p) p c q (e, L) p' c' q'
/-- The state of the document's loop. -/
def RPL (a : Option Addr) (n m : Nat) (z : List Int) (e : Int) (W : World) (d sx N : Nat) (p2 c2 q2 : Int) (k : Nat) (v : Value) (L : List Stp) (f pk ck qk : Int) (wr : World) : Prop :=
  Blk wr d (scs a n m pk ck qk) 48 ∧ Blk wr sx #[.int .u64 e, v] 25 ∧ Blk wr (W.heap.size + 1) (cvs (.slice none 0 0) 0 0 0) 48 ∧ Blk wr (W.heap.size + 1 + 1) (prc 0 none 0 0) 25 ∧
  OwnPts wr (sx + 1) v L ∧ L.length = k ∧ plen 8 L ∧ Below W.heap.size W wr ∧ 0 ≤ pk ∧ pk ≤ n ∧ PsSt n z N p2 c2 q2 k L f pk ck qk

/-- A fault is there already. -/
theorem prd_stop {n : Nat} {z : List Int} {p c q e p1 c1 q1 p2 c2 q2 f pk ck qk : Int} {N : Nat} {L : List Stp} (h1 : St 0 n (ve epk z p) p c q e p1 c1 q1) (h2 : St 0 n (mny z 64 p1) p1 c1 q1 (N : Int) p2 c2 q2)
    (h3 : St (([] : List Stp), (0 : Int)) n (psg z N 0 p2 []) p2 c2 q2 (if ck = 0 then (L, f) else ([], 0)) pk ck qk) (hc : ck ≠ 0) : St prj0 n (prd z p) p c q prj0 pk ck qk := by
  unfold prd
  refine h1.bind (h2.bind ?_)
  rw [Int.toNat_natCast]
  refine h3.bind ?_
  exact St.stay h3.place.1 h3.place.2 hc
theorem RPPost.zero {s : Value} {n : Nat} {z : List Int} {p c q : Int} {w w' : World} {p' c' q' : Int} (hb : Below w.heap.size w w') (h : St prj0 n (prd z p) p c q prj0 p' c' q') : RPPost s n z p c q w (.returned (.tuple #[cv s p' c' q', pragg 0 none 0 0])) w' :=
  ⟨0, none, 0, 0, [], p', c', q', rfl, hb, ⟨rfl, Sq.nil _ _ _ _⟩, by omega, fun _ => rfl, by omega, fun s h => by simp at h, h⟩
theorem heap6 {w : World} {b1 b2 g : Nat} (h1 : g ≠ b1) (h2 : g ≠ b2) (u0 u1 u2 u3 u4 u5 : Value) :
    ((((((w.setCell ⟨b1, 0, none⟩ u0).setCell ⟨b1, 1, none⟩ u1).setCell ⟨b1, 2, none⟩ u2).setCell ⟨b1, 3, none⟩ u3).setCell ⟨b2, 0, none⟩ u4).setCell ⟨b2, 1, none⟩ u5).heap[g]? = w.heap[g]? := by
  rw [Below.heap_setCell _ _ _ _ h2, Below.heap_setCell _ _ _ _ h2, Below.heap_setCell _ _ _ _ h1, Below.heap_setCell _ _ _ _ h1, Below.heap_setCell _ _ _ _ h1, Below.heap_setCell _ _ _ _ h1]

set_option maxHeartbeats 8000000 in
theorem rpread_any (a : Option Addr) (n m : Nat) (z : List Int) (p c q : Int) (w : World) (hz : Bs w a n z) (h0 : 0 ≤ p) (h1 : p ≤ n) (hm : n ≤ m) (hn : n ≤ 100000) (hby : ∀ x ∈ z, 0 ≤ x ∧ x < 256) :
    Calls Try.prog 22 #[cv (.slice a n m) p c q] w (RPPost (.slice a n m) n z p c q w) := by
  have HBY := Lib.hid hby
  have HZL := Lib.hid hz.1
  have HZ := Lib.hid hz
  clear hby
  go_enter Try.func22, Try.ntmps22
  go_wp2_with fail
  with_reducible refine (rread17_e _ _ _ _ _ _ _ _ (hz.below (below_three _ _ _ _)) h0 h1 hm (by omega) HBY.out).mono ?_
  rintro en w1 ⟨e, p1, c1, q1, rfl, hb, hs⟩
  obtain ⟨_, hR, hY, hbd⟩ := three_new hb
  obtain ⟨p10, p11⟩ := hs.place
  have HS1 := Lib.hid hs
  have hC := Blk.new w1 (scs a n m p1 c1 q1) 48
  have hbC := below_one w1 (.cells (scs a n m p1 c1 q1) 48)
  have hRl := hY.lt
  replace hR := hR.below hbC
  replace hY := hY.below hbC
  replace hbd := hbd.trans (hbC.mono hbd.size)
  have hcl : w1.heap.size < (w1.alloc (.cells (scs a n m p1 c1 q1) 48)).heap.size := by simp
  clear hs hb hbC hz
  obtain ⟨x0, x1, x2, x3⟩ := hC.c4
  go_wp2_with fail
  generalize w1.alloc (.cells (scs a n m p1 c1 q1) 48) = w2 at *
  generalize w1.heap.size = cb at *
  with_reducible refine (rint_any _ _ _ _ _ _ _ _ _ (HZ.out.below hbd) p10 p11 hm (by omega) HBY.out (by omega)).mono ?_
  rintro en w3 ⟨v, p2, c2, q2, rfl, hb3, hs3⟩
  have hst := hs3.st HZL.out p10 p11 HBY.out
  obtain ⟨p20, p21⟩ := hst.place
  obtain ⟨v0, _⟩ := vm_bd hst HBY.out
  have HS3 := Lib.hid hst
  have hD := Blk.new w3 (scs a n m p2 c2 q2) 48
  have hbD := hb3.trans ((below_one w3 (.cells (scs a n m p2 c2 q2) 48)).mono hb3.size)
  have hsz3 := hb3.size
  have hdl : w3.heap.size < (w3.alloc (.cells (scs a n m p2 c2 q2) 48)).heap.size := by simp
  replace hC := hC.below hbD
  replace hR := hR.below hbD
  replace hY := hY.below hbD
  replace hbd := hbd.trans (hbD.mono hbd.size)
  have hcd : cb < w3.heap.size := by omega
  clear hs3 hst hb3 hbD x0 x1 x2 x3
  go_upto_region 3 with (fail)
  generalize w3.alloc (.cells (scs a n m p2 c2 q2) 48) = w4 at *
  generalize w3.heap.size = d at *
  obtain ⟨x0, x1, x2, x3⟩ := hC.c4
  obtain ⟨d0, d1, d2, d3⟩ := hD.c4
  obtain ⟨N, rfl⟩ := Int.eq_ofNat_of_zero_le v0
  clear v0
  by_cases hv : (N : Int) = 0
  · have hvb : ((N : Int) == 0) = true := by simpa using hv
    have HV := Lib.hid hv
    clear hv
    go_wp2_with fail
    with_reducible refine (rfail_any _ _ _ _ _ _ _ _ _).mono ?_
    rintro en w5 ⟨C3, Q3, rfl, hb5, hf⟩
    have HM : Hid (St 0 n (mny z 64 p1) p1 c1 q1 (N : Int) p2 C3 Q3) := Lib.hid (by
      have h9 := HS3.out
      rw [HV.out] at h9 ⊢
      exact h9.bind (f := fun k p2 => if k = 0 then (0, 0, 3, p1) else (k, p2, 0, 0)) (St.fail (d' := 0) (x := 0) (by rw [if_pos rfl]) (by decide) p20 p21 hf))
    replace hC := hC.below hb5
    replace hD := hD.below hb5
    replace hR := hR.below hb5
    replace hY := hY.below hb5
    replace hbd := hbd.trans (hb5.mono hbd.size)
    clear hf hb5 x0 x1 x2 x3 d0 d1 d2 d3
    obtain ⟨d0, d1, d2, d3⟩ := hD.c4
    obtain ⟨l0, l1, l2, l3⟩ := hD.f4
    obtain ⟨hD9, hk9⟩ := set4 hD (.slice a n m) (.int .i64 p2) (.int .i64 C3) (.int .i64 Q3)
    replace hR := blk_kp hR hk9 (by omega)
    replace hY := blk_kp hY hk9 (by omega)
    replace hbd := Kp.below hbd (Nat.le_refl _) hk9 (by omega)
    clear hk9 hD
    go_upto_region 5 with (fail)
    clear d0 d1 d2 d3 l0 l1 l2 l3
    generalize (((w5.setCell ⟨d, 0, none⟩ (.slice a n m)).setCell ⟨d, 1, none⟩ (.int .i64 p2)).setCell ⟨d, 2, none⟩ (.int .i64 C3)).setCell ⟨d, 3, none⟩ (.int .i64 Q3) = wc at *
    have hD := hD9
    clear hD9
    obtain ⟨n0, n8, _⟩ := mny_bd HM.out HZL.out p10 p11 HBY.out
    have hN64 : N ≤ 64 := by omega
    have hP := Blk.new wc (prc e none 0 0) 25
    have hbP := below_one wc (.cells (prc e none 0 0) 25)
    have H0 : Hid (RPL a n m z e w d wc.heap.size N p2 C3 Q3 0 (.slice none 0 0) [] 0 p2 C3 Q3 (wc.alloc (.cells (prc e none 0 0) 25))) := Lib.hid ⟨hD.below hbP, hP, hR.below hbP, hY.below hbP, OwnPts.nil _ _, rfl, (fun s h => by simp at h), hbd.trans (hbP.mono hbd.size), p20, p21, PsSt.start p20 p21⟩
    have hdsx : d < wc.heap.size := hD.lt
    have hwd : w.heap.size + 1 + 1 < d := by omega
    clear hD hR hY hbd hC hP hbP n0 n8
    go_wp2
    generalize wc.alloc (.cells (prc e none 0 0) 25) = w7 at *
    generalize wc.heap.size = sx at *
    go_loopw [9, 10] (fun fv i wr => ∃ (k : Nat) (v : Value) (L : List Stp) (f pk ck qk : Int), k ≤ N ∧ i = .int .i64 k ∧ fv = .int .u64 f ∧ 0 ≤ f ∧ f ≤ 4611686018427387904 ∧ Hid (RPL a n m z e w d sx N p2 C3 Q3 k v L f pk ck qk wr)) (fun _ i _ => N - (intOf i).toNat)
    case atStart => exact ⟨0, _, _, 0, _, _, _, by omega, rfl, rfl, by omega, by omega, H0⟩
    case round =>
      clear H0
      obtain ⟨k, v, L, f, pk, ck, qk, hk, rfl, rfl, f0, f1, HR0⟩ := hrel
      obtain ⟨hD, hP, hR, hY, ho, hLl, hpl, hbd, hp0, hp1, hst⟩ := HR0.out
      have HLL := Lib.hid hLl
      have HLE := Lib.hid hpl
      have HST := Lib.hid hst
      have HVLT := Lib.hid ho.lt
      obtain ⟨Av, cq9, rfl, hcv, hnil, hpts⟩ := ho.pts
      obtain ⟨d0, d1, d2, d3⟩ := hD.c4
      clear HR0 hpl hst hLl
      by_cases hlt : k < N
      · have e4 : (k : Int) < N := by omega
        by_cases hck : ck = 0
        · subst hck
          clear hcv hnil hpts
          go_wp2_with fail
          with_reducible refine (rread19_any a n m z f pk 0 qk wr (HZ.out.below hbd) hp0 hp1 hm hn HBY.out f0).mono ?_
          rintro en w5 ⟨f', t, A5, N5, m5, S5, p5, c5, q5, rfl, hb5, hst5, hm5, hn5, hf5, ht5, hsb5, hl5, hN5, hs5⟩
          have hto := str_to hs5 HZL.out f0 hp0 hp1 HBY.out
          replace hto : 0 ≤ t ∧ t ≤ 4611686018427387904 := hto
          have HNX := Lib.hid (HST.out.next hlt hs5)
          have HPL5 := Lib.hid hs5.place
          have HS5 := Lib.hid hst5.1
          have hE := (Blk.new w5 (scs a n m p5 c5 q5) 48).alloc (.cells (stc f' t A5 N5 m5) 60)
          have hT := Blk.new (w5.alloc (.cells (scs a n m p5 c5 q5) 48)) (stc f' t A5 N5 m5) 60
          rw [show (w5.alloc (.cells (scs a n m p5 c5 q5) 48)).heap.size = w5.heap.size + 1 by simp] at hT
          have hbx := below_two w5 (.cells (scs a n m p5 c5 q5) 48) (.cells (stc f' t A5 N5 m5) 60)
          have hb6 := hb5.trans (hbx.mono hb5.size)
          have hw5 : wr.heap.size ≤ w5.heap.size := hb5.size
          have hsxw : sx < wr.heap.size := hP.lt
          have hst6 := hst5.below hbx
          replace hD := hD.below hb6
          replace hP := hP.below hb6
          replace hR := hR.below hb6
          replace hY := hY.below hb6
          replace ho := ho.below hb6
          replace hbd := hbd.trans (hb6.mono hbd.size)
          have e3 : IntKind.i64.wrap ((k : Int) + 1) = ((k + 1 : Nat) : Int) := IntWalk.i64_in _ (by omega)
          clear hs5 hb5 hbx hb6 hst5 d0 d1 d2 d3 hsb5
          go_upto_region 11 with (fail)
          generalize (w5.alloc (.cells (scs a n m p5 c5 q5) 48)).alloc (.cells (stc f' t A5 N5 m5) 60) = w6 at *
          generalize w5.heap.size = eb at *
          obtain ⟨y0, y1, y2, y3⟩ := hE.c4
          obtain ⟨d0, d1, d2, d3⟩ := hD.c4
          obtain ⟨l0, l1, l2, l3⟩ := hD.f4
          obtain ⟨hD7, hk7⟩ := set4 hD (.slice a n m) (.int .i64 p5) (.int .i64 c5) (.int .i64 q5)
          have hP7 := blk_kp hP hk7 (by omega)
          have hR7 := blk_kp hR hk7 (by omega)
          have hY7 := blk_kp hY hk7 (by omega)
          have hT7 := blk_kp hT hk7 (by omega)
          have ho7 := ho.kp hk7 (by omega)
          have hst7 : Sts _ (fun k => wr.heap.size ≤ k) A5 N5 S5 := hst6.keep fun b hb hl => hk7.block b hl (by have h2 : wr.heap.size ≤ b := hb; omega)
          have hbd7 := Kp.below hbd (Nat.le_refl _) hk7 (by omega)
          have hsz7 := hk7.size
          have htl := hT.lt
          clear hE hT hD hP hR hY ho hst6 hbd hk7
          go_upto_region 12 with (fail)
          clear y0 y1 y2 y3 d0 d1 d2 d3 l0 l1 l2 l3
          generalize (((w6.setCell ⟨d, 0, none⟩ (.slice a n m)).setCell ⟨d, 1, none⟩ (.int .i64 p5)).setCell ⟨d, 2, none⟩ (.int .i64 c5)).setCell ⟨d, 3, none⟩ (.int .i64 q5) = w7 at *
          obtain ⟨y0, y1⟩ := hP7.c2
          obtain ⟨x0, x1, x2⟩ := hT7.c3
          have hb8 := below_one w7 (.cells #[.int .u64 f', .int .u64 t, .slice A5 N5 m5] 60)
          have hrwX := rw_new w7 [.int .u64 f', .int .u64 t, .slice A5 N5 m5] 60
          have ho8 := ho7.below hb8
          have hst8 := hst7.below hb8
          have hD8 := hD7.below hb8
          have hP8 := hP7.below hb8
          have hR8 := hR7.below hb8
          have hY8 := hY7.below hb8
          have hT8 := hT7.below hb8
          have hbd8 := hbd7.trans (hb8.mono hbd7.size)
          have hel := StE.mk hf5 ht5 hst8.1 hm5 hn5 (hst8.mono (Q := fun k => sx + 1 ≤ k ∧ (Value.slice Av L.length cq9).ownBlock ≠ some k) (fun g hg _ => ⟨by have h2 : wr.heap.size ≤ g := hg; omega, fun e => by have := HVLT.out g e; have h2 : wr.heap.size ≤ g := hg; omega⟩))
          obtain ⟨cs, g1, g2', g3⟩ := ho8
          have g2 : (w7.alloc (.cells #[.int .u64 f', .int .u64 t, .slice A5 N5 m5] 60)).ownsRow (sx + 1) 60 3 (.slice Av L.length cq9) L.length cs.flatten := g2'
          clear g2'
          have hge2 := own_ge g2
          have HL1 : Hid (L.length + 1 ≤ 1000000) := Lib.hid (by rw [HLL.out]; omega)
          have hB8 : sx + 1 ≤ (w7.alloc (.cells #[.int .u64 f', .int .u64 t, .slice A5 N5 m5] 60)).heap.size := by simp; omega
          have HHL : Hid (∀ l ∈ S5, l.length ≤ 8) := Lib.hid hl5
          clear hP7 hD7 hR7 hY7 hT7 ho7 hst7 hst8 hb8 hl5 hbd7
          go_wp2_with (at_builtin; go_must (refine list_append_rw kindST rfl (.tmp 50) (.tmp 52) rfl (sx + 1) _ _ _ rfl g2 _ 1 _ [.int .u64 f', .int .u64 t, .slice A5 N5 m5] rfl rfl hrwX (by simp) (by simp [Value.oneCell']) HL1.out (by omega) hB8 ?_; intro v' w9 ho9 hg9 hgr9; have H9 := OwnPts.snoc g1 g3 hel ho9 hg9 hgr9; obtain ⟨A9, c9, hv9, _⟩ := H9.pts; rw [show (L ++ [(f', t, S5)]).length = k + 1 by simp [HLL.out]] at hv9; subst hv9; have hkk : Ks (fun g => sx + 1 ≤ g) _ w9 := Ks.of_grown hg9 (fun g e => hge2 g e); have hD9 := hD8.ks hkk (by omega); have hP9 := hP8.ks hkk (by omega); have hR9 := hR8.ks hkk (by omega); have hY9 := hY8.ks hkk (by omega); have hT9 : Blk w9 (eb + 1) (stc f' t A5 N5 m5) 60 := hT8.ks (Ks.of_grown (S := fun g => (Value.slice Av L.length cq9).ownBlock = some g) hg9 (fun g e => e)) (fun e => by have := HVLT.out (eb + 1) e; omega); have hbd9 := hkk.below hbd8 (Nat.le_refl _) (fun g hg => by omega); have HT9 := Lib.hid (hT9.far (g := sx) 1 (.slice A9 (k + 1) c9) (by omega)); have HEND : Hid (RPL a n m z e w d sx N p2 C3 Q3 (k + 1) (.slice A9 (k + 1) c9) (L ++ [(f', t, S5)]) t p5 c5 q5 (w9.setCell ⟨sx, 1, none⟩ (.slice A9 (k + 1) c9))) := Lib.hid ⟨hD9.far (g := sx) 1 _ (by omega), hP9.set 1 _, hR9.far (g := sx) 1 _ (by omega), hY9.far (g := sx) 1 _ (by omega), H9.ks (Ks.setCell (S := fun k => k = sx) w9 sx 1 _ rfl) (fun g hg => by omega), by simp [HLL.out], (fun s hs => by
                rcases List.mem_append.1 hs with hs | hs
                · exact HLE.out s hs
                · rw [List.mem_singleton] at hs; subst hs; exact ⟨by show S5.length ≤ 8; rw [HS5.out]; exact hN5, HHL.out⟩), below_set hbd9 (b := sx) (by omega) 1 _, HPL5.out.1, HPL5.out.2, HNX.out⟩; clear x0 x1 x2 y0 y1; obtain ⟨y0, y1⟩ := hP9.c2; have yf := hP9.free 1; obtain ⟨x0, x1, x2⟩ := HT9.out.c3; clear g1 g2 g3 hel ho9 hg9 hgr9 hrwX hge2 hB8 H9 hkk hD8 hD9 hP8 hP9 hR8 hR9 hY8 hY9 hT8 hT9 hbd8 hbd9))
          go_roundw
          case rel => exact ⟨k + 1, _, _, t, p5, c5, q5, by omega, by go_num, rfl, hto.1, hto.2, HEND⟩
          case measure => simp [intOf]; omega
        · have hcb : (ck == 0) = false := by simpa using hck
          have hcb' : (ck != 0) = true := by simpa using hck
          have HFZ := Lib.hid (prd_stop HS1.out HM.out (HST.out.fin (.inr hck) hp0 hp1) hck)
          clear hck hcv hnil hpts ho
          obtain ⟨r0, r1, r2, r3⟩ := hR.c4
          obtain ⟨g0, g1, g2, g3⟩ := hR.f4
          obtain ⟨s0, s1⟩ := hY.c2
          obtain ⟨k0, k1⟩ := hY.f2
          clear hR hY
          go_wp2
          refine bodyPost_ret (by simp [results, Try.results22, go_sem, r0, r1, r2, r3, s0, s1]) rfl (RPPost.zero ?_ HFZ.out)
          iterate 6 (refine Below.setCell ?_ (by first | (simp; done) | (simp; omega)) _)
          exact hbd
      · obtain rfl : k = N := by omega
        have HF := Lib.hid (HST.out.fin (.inl rfl) hp0 hp1)
        by_cases hck : ck = 0
        · subst hck
          by_cases hf2 : f = 4611686018427387904
          · have hfb : (f != 4611686018427387904) = false := by simpa using hf2
            have HFY : Hid (St prj0 n (prd z p) p c q (e, L) pk 0 qk) := Lib.hid (by have := prd_good HS1.out HM.out HF.out hf2; rwa [if_pos rfl] at this)
            have HPTS := Lib.hid hpts
            have HNIL := Lib.hid hnil
            have hcv2 : k ≤ cq9 := by rw [← HLL.out]; exact hcv
            clear hf2 HF hnil hpts hcv ho
            obtain ⟨r0, r1, r2, r3⟩ := hR.c4
            obtain ⟨g0, g1, g2, g3⟩ := hR.f4
            obtain ⟨s0, s1⟩ := hY.c2
            obtain ⟨k0, k1⟩ := hY.f2
            obtain ⟨t0, t1⟩ := hP.c2
            clear hD hR hY hP
            go_wp2
            go_region
            all_goals go_wp2
            all_goals (refine bodyPost_ret (v := .tuple #[cv (.slice a n m) pk 0 qk, pragg e Av L.length cq9]) (by simp [results, Try.results22, go_sem, r0, r1, r2, r3, s0, s1]) rfl ⟨e, Av, L.length, cq9, L, pk, 0, qk, rfl, by (with_reducible try refine Below.drew ?_); (iterate 6 (with_reducible refine Below.setCell ?_ (by first | (simp; done) | (simp; omega)) _)); exact hbd, Pts.mono (Pts.keep HPTS.out (fun g hg hl => by have h2 : sx + 1 ≤ g := hg; (try rw [show ∀ w : World, w.drew.heap = w.heap from fun _ => rfl]); (iterate 6 (rw [Below.heap_setCell _ _ _ _ (by simp; omega)])); try rfl)) (fun g hg _ => by have h2 : sx + 1 ≤ g := hg; show w.heap.size ≤ g; omega), by rw [HLL.out]; exact hcv2, HNIL.out, by rw [HLL.out]; exact hN64, HLE.out, HFY.out⟩)
          · have hfb : (f != 4611686018427387904) = true := by simpa using hf2
            have HG := Lib.hid (fun c' q' => prd_bad (c' := c') (q' := q') HS1.out HM.out HF.out (by omega))
            clear hf2 HF hnil hpts hcv ho
            go_wp2_with fail
            with_reducible refine (rfail_any _ _ _ _ _ _ _ _ _).mono ?_
            rintro en w8 ⟨c8, q8, rfl, hb8, hf8⟩
            have HFZ := Lib.hid (HG.out _ _ hf8)
            have hc8 : c8 ≠ 0 := by
              rcases hf8 with ⟨_, rfl, _⟩ | ⟨h, rfl, _⟩
              · decide
              · exact h
            have hcb' : (c8 != 0) = true := by simpa using hc8
            replace hD := hD.below hb8
            replace hR := hR.below hb8
            replace hY := hY.below hb8
            replace hbd := hbd.trans (hb8.mono hbd.size)
            clear hf8 hc8 hb8 d0 d1 d2 d3 HG
            obtain ⟨d0, d1, d2, d3⟩ := hD.c4
            obtain ⟨l0, l1, l2, l3⟩ := hD.f4
            obtain ⟨hD9, hk9⟩ := set4 hD (.slice a n m) (.int .i64 pk) (.int .i64 c8) (.int .i64 q8)
            replace hR := blk_kp hR hk9 (by omega)
            replace hY := blk_kp hY hk9 (by omega)
            replace hbd := Kp.below hbd (Nat.le_refl _) hk9 (by omega)
            clear hk9 hD
            go_upto_region 16 with (fail)
            clear d0 d1 d2 d3 l0 l1 l2 l3
            generalize (((w8.setCell ⟨d, 0, none⟩ (.slice a n m)).setCell ⟨d, 1, none⟩ (.int .i64 pk)).setCell ⟨d, 2, none⟩ (.int .i64 c8)).setCell ⟨d, 3, none⟩ (.int .i64 q8) = w9 at *
            obtain ⟨d0, d1, d2, d3⟩ := hD9.c4
            obtain ⟨r0, r1, r2, r3⟩ := hR.c4
            obtain ⟨g0, g1, g2, g3⟩ := hR.f4
            obtain ⟨s0, s1⟩ := hY.c2
            obtain ⟨k0, k1⟩ := hY.f2
            clear hR hY
            go_wp2
            refine bodyPost_ret (by simp [results, Try.results22, go_sem, r0, r1, r2, r3, s0, s1]) rfl (RPPost.zero ?_ HFZ.out)
            iterate 6 (refine Below.setCell ?_ (by first | (simp; done) | (simp; omega)) _)
            exact hbd
        · have hcb : (ck == 0) = false := by simpa using hck
          have hcb' : (ck != 0) = true := by simpa using hck
          have HFZ := Lib.hid (prd_stop HS1.out HM.out HF.out hck)
          clear hck hcv hnil hpts ho HF
          obtain ⟨r0, r1, r2, r3⟩ := hR.c4
          obtain ⟨g0, g1, g2, g3⟩ := hR.f4
          obtain ⟨s0, s1⟩ := hY.c2
          obtain ⟨k0, k1⟩ := hY.f2
          clear hR hY
          go_wp2
          refine bodyPost_ret (by simp [results, Try.results22, go_sem, r0, r1, r2, r3, s0, s1]) rfl (RPPost.zero ?_ HFZ.out)
          iterate 6 (refine Below.setCell ?_ (by first | (simp; done) | (simp; omega)) _)
          exact hbd
  · have hvb : ((N : Int) == 0) = false := by simpa using hv
    have HM0 : Hid (St 0 n (mny z 64 p1) p1 c1 q1 (N : Int) p2 c2 q2) := Lib.hid (HS3.out.bind (f := fun k p2 => if k = 0 then (0, 0, 3, p1) else (k, p2, 0, 0)) (by
      rw [if_neg hv]
      by_cases hc : c2 = 0
      · subst hc; exact St.done rfl p20 p21
      · exact absurd (HS3.out.nil hc) hv))
    clear hv x0 x1 x2 x3 d0 d1 d2 d3
    obtain ⟨C3, hC3⟩ : ∃ C3, C3 = c2 := ⟨_, rfl⟩
    obtain ⟨Q3, hQ3⟩ : ∃ Q3, Q3 = q2 := ⟨_, rfl⟩
    subst hC3 hQ3
    have HM := HM0
    obtain ⟨wc, hwc⟩ : ∃ wc, wc = w4 := ⟨_, rfl⟩
    subst hwc
    obtain ⟨n0, n8, _⟩ := mny_bd HM.out HZL.out p10 p11 HBY.out
    have hN64 : N ≤ 64 := by omega
    have hP := Blk.new wc (prc e none 0 0) 25
    have hbP := below_one wc (.cells (prc e none 0 0) 25)
    have H0 : Hid (RPL a n m z e w d wc.heap.size N p2 C3 Q3 0 (.slice none 0 0) [] 0 p2 C3 Q3 (wc.alloc (.cells (prc e none 0 0) 25))) := Lib.hid ⟨hD.below hbP, hP, hR.below hbP, hY.below hbP, OwnPts.nil _ _, rfl, (fun s h => by simp at h), hbd.trans (hbP.mono hbd.size), p20, p21, PsSt.start p20 p21⟩
    have hdsx : d < wc.heap.size := hD.lt
    have hwd : w.heap.size + 1 + 1 < d := by omega
    clear hD hR hY hbd hC hP hbP n0 n8
    go_wp2
    generalize wc.alloc (.cells (prc e none 0 0) 25) = w7 at *
    generalize wc.heap.size = sx at *
    go_loopw [9, 10] (fun fv i wr => ∃ (k : Nat) (v : Value) (L : List Stp) (f pk ck qk : Int), k ≤ N ∧ i = .int .i64 k ∧ fv = .int .u64 f ∧ 0 ≤ f ∧ f ≤ 4611686018427387904 ∧ Hid (RPL a n m z e w d sx N p2 C3 Q3 k v L f pk ck qk wr)) (fun _ i _ => N - (intOf i).toNat)
    case atStart => exact ⟨0, _, _, 0, _, _, _, by omega, rfl, rfl, by omega, by omega, H0⟩
    case round =>
      clear H0
      obtain ⟨k, v, L, f, pk, ck, qk, hk, rfl, rfl, f0, f1, HR0⟩ := hrel
      obtain ⟨hD, hP, hR, hY, ho, hLl, hpl, hbd, hp0, hp1, hst⟩ := HR0.out
      have HLL := Lib.hid hLl
      have HLE := Lib.hid hpl
      have HST := Lib.hid hst
      have HVLT := Lib.hid ho.lt
      obtain ⟨Av, cq9, rfl, hcv, hnil, hpts⟩ := ho.pts
      obtain ⟨d0, d1, d2, d3⟩ := hD.c4
      clear HR0 hpl hst hLl
      by_cases hlt : k < N
      · have e4 : (k : Int) < N := by omega
        by_cases hck : ck = 0
        · subst hck
          clear hcv hnil hpts
          go_wp2_with fail
          with_reducible refine (rread19_any a n m z f pk 0 qk wr (HZ.out.below hbd) hp0 hp1 hm hn HBY.out f0).mono ?_
          rintro en w5 ⟨f', t, A5, N5, m5, S5, p5, c5, q5, rfl, hb5, hst5, hm5, hn5, hf5, ht5, hsb5, hl5, hN5, hs5⟩
          have hto := str_to hs5 HZL.out f0 hp0 hp1 HBY.out
          replace hto : 0 ≤ t ∧ t ≤ 4611686018427387904 := hto
          have HNX := Lib.hid (HST.out.next hlt hs5)
          have HPL5 := Lib.hid hs5.place
          have HS5 := Lib.hid hst5.1
          have hE := (Blk.new w5 (scs a n m p5 c5 q5) 48).alloc (.cells (stc f' t A5 N5 m5) 60)
          have hT := Blk.new (w5.alloc (.cells (scs a n m p5 c5 q5) 48)) (stc f' t A5 N5 m5) 60
          rw [show (w5.alloc (.cells (scs a n m p5 c5 q5) 48)).heap.size = w5.heap.size + 1 by simp] at hT
          have hbx := below_two w5 (.cells (scs a n m p5 c5 q5) 48) (.cells (stc f' t A5 N5 m5) 60)
          have hb6 := hb5.trans (hbx.mono hb5.size)
          have hw5 : wr.heap.size ≤ w5.heap.size := hb5.size
          have hsxw : sx < wr.heap.size := hP.lt
          have hst6 := hst5.below hbx
          replace hD := hD.below hb6
          replace hP := hP.below hb6
          replace hR := hR.below hb6
          replace hY := hY.below hb6
          replace ho := ho.below hb6
          replace hbd := hbd.trans (hb6.mono hbd.size)
          have e3 : IntKind.i64.wrap ((k : Int) + 1) = ((k + 1 : Nat) : Int) := IntWalk.i64_in _ (by omega)
          clear hs5 hb5 hbx hb6 hst5 d0 d1 d2 d3 hsb5
          go_upto_region 11 with (fail)
          generalize (w5.alloc (.cells (scs a n m p5 c5 q5) 48)).alloc (.cells (stc f' t A5 N5 m5) 60) = w6 at *
          generalize w5.heap.size = eb at *
          obtain ⟨y0, y1, y2, y3⟩ := hE.c4
          obtain ⟨d0, d1, d2, d3⟩ := hD.c4
          obtain ⟨l0, l1, l2, l3⟩ := hD.f4
          obtain ⟨hD7, hk7⟩ := set4 hD (.slice a n m) (.int .i64 p5) (.int .i64 c5) (.int .i64 q5)
          have hP7 := blk_kp hP hk7 (by omega)
          have hR7 := blk_kp hR hk7 (by omega)
          have hY7 := blk_kp hY hk7 (by omega)
          have hT7 := blk_kp hT hk7 (by omega)
          have ho7 := ho.kp hk7 (by omega)
          have hst7 : Sts _ (fun k => wr.heap.size ≤ k) A5 N5 S5 := hst6.keep fun b hb hl => hk7.block b hl (by have h2 : wr.heap.size ≤ b := hb; omega)
          have hbd7 := Kp.below hbd (Nat.le_refl _) hk7 (by omega)
          have hsz7 := hk7.size
          have htl := hT.lt
          clear hE hT hD hP hR hY ho hst6 hbd hk7
          go_upto_region 12 with (fail)
          clear y0 y1 y2 y3 d0 d1 d2 d3 l0 l1 l2 l3
          generalize (((w6.setCell ⟨d, 0, none⟩ (.slice a n m)).setCell ⟨d, 1, none⟩ (.int .i64 p5)).setCell ⟨d, 2, none⟩ (.int .i64 c5)).setCell ⟨d, 3, none⟩ (.int .i64 q5) = w7 at *
          obtain ⟨y0, y1⟩ := hP7.c2
          obtain ⟨x0, x1, x2⟩ := hT7.c3
          have hb8 := below_one w7 (.cells #[.int .u64 f', .int .u64 t, .slice A5 N5 m5] 60)
          have hrwX := rw_new w7 [.int .u64 f', .int .u64 t, .slice A5 N5 m5] 60
          have ho8 := ho7.below hb8
          have hst8 := hst7.below hb8
          have hD8 := hD7.below hb8
          have hP8 := hP7.below hb8
          have hR8 := hR7.below hb8
          have hY8 := hY7.below hb8
          have hT8 := hT7.below hb8
          have hbd8 := hbd7.trans (hb8.mono hbd7.size)
          have hel := StE.mk hf5 ht5 hst8.1 hm5 hn5 (hst8.mono (Q := fun k => sx + 1 ≤ k ∧ (Value.slice Av L.length cq9).ownBlock ≠ some k) (fun g hg _ => ⟨by have h2 : wr.heap.size ≤ g := hg; omega, fun e => by have := HVLT.out g e; have h2 : wr.heap.size ≤ g := hg; omega⟩))
          obtain ⟨cs, g1, g2', g3⟩ := ho8
          have g2 : (w7.alloc (.cells #[.int .u64 f', .int .u64 t, .slice A5 N5 m5] 60)).ownsRow (sx + 1) 60 3 (.slice Av L.length cq9) L.length cs.flatten := g2'
          clear g2'
          have hge2 := own_ge g2
          have HL1 : Hid (L.length + 1 ≤ 1000000) := Lib.hid (by rw [HLL.out]; omega)
          have hB8 : sx + 1 ≤ (w7.alloc (.cells #[.int .u64 f', .int .u64 t, .slice A5 N5 m5] 60)).heap.size := by simp; omega
          have HHL : Hid (∀ l ∈ S5, l.length ≤ 8) := Lib.hid hl5
          clear hP7 hD7 hR7 hY7 hT7 ho7 hst7 hst8 hb8 hl5 hbd7
          go_wp2_with (at_builtin; go_must (refine list_append_rw kindST rfl (.tmp 50) (.tmp 52) rfl (sx + 1) _ _ _ rfl g2 _ 1 _ [.int .u64 f', .int .u64 t, .slice A5 N5 m5] rfl rfl hrwX (by simp) (by simp [Value.oneCell']) HL1.out (by omega) hB8 ?_; intro v' w9 ho9 hg9 hgr9; have H9 := OwnPts.snoc g1 g3 hel ho9 hg9 hgr9; obtain ⟨A9, c9, hv9, _⟩ := H9.pts; rw [show (L ++ [(f', t, S5)]).length = k + 1 by simp [HLL.out]] at hv9; subst hv9; have hkk : Ks (fun g => sx + 1 ≤ g) _ w9 := Ks.of_grown hg9 (fun g e => hge2 g e); have hD9 := hD8.ks hkk (by omega); have hP9 := hP8.ks hkk (by omega); have hR9 := hR8.ks hkk (by omega); have hY9 := hY8.ks hkk (by omega); have hT9 : Blk w9 (eb + 1) (stc f' t A5 N5 m5) 60 := hT8.ks (Ks.of_grown (S := fun g => (Value.slice Av L.length cq9).ownBlock = some g) hg9 (fun g e => e)) (fun e => by have := HVLT.out (eb + 1) e; omega); have hbd9 := hkk.below hbd8 (Nat.le_refl _) (fun g hg => by omega); have HT9 := Lib.hid (hT9.far (g := sx) 1 (.slice A9 (k + 1) c9) (by omega)); have HEND : Hid (RPL a n m z e w d sx N p2 C3 Q3 (k + 1) (.slice A9 (k + 1) c9) (L ++ [(f', t, S5)]) t p5 c5 q5 (w9.setCell ⟨sx, 1, none⟩ (.slice A9 (k + 1) c9))) := Lib.hid ⟨hD9.far (g := sx) 1 _ (by omega), hP9.set 1 _, hR9.far (g := sx) 1 _ (by omega), hY9.far (g := sx) 1 _ (by omega), H9.ks (Ks.setCell (S := fun k => k = sx) w9 sx 1 _ rfl) (fun g hg => by omega), by simp [HLL.out], (fun s hs => by
                rcases List.mem_append.1 hs with hs | hs
                · exact HLE.out s hs
                · rw [List.mem_singleton] at hs; subst hs; exact ⟨by show S5.length ≤ 8; rw [HS5.out]; exact hN5, HHL.out⟩), below_set hbd9 (b := sx) (by omega) 1 _, HPL5.out.1, HPL5.out.2, HNX.out⟩; clear x0 x1 x2 y0 y1; obtain ⟨y0, y1⟩ := hP9.c2; have yf := hP9.free 1; obtain ⟨x0, x1, x2⟩ := HT9.out.c3; clear g1 g2 g3 hel ho9 hg9 hgr9 hrwX hge2 hB8 H9 hkk hD8 hD9 hP8 hP9 hR8 hR9 hY8 hY9 hT8 hT9 hbd8 hbd9))
          go_roundw
          case rel => exact ⟨k + 1, _, _, t, p5, c5, q5, by omega, by go_num, rfl, hto.1, hto.2, HEND⟩
          case measure => simp [intOf]; omega
        · have hcb : (ck == 0) = false := by simpa using hck
          have hcb' : (ck != 0) = true := by simpa using hck
          have HFZ := Lib.hid (prd_stop HS1.out HM.out (HST.out.fin (.inr hck) hp0 hp1) hck)
          clear hck hcv hnil hpts ho
          obtain ⟨r0, r1, r2, r3⟩ := hR.c4
          obtain ⟨g0, g1, g2, g3⟩ := hR.f4
          obtain ⟨s0, s1⟩ := hY.c2
          obtain ⟨k0, k1⟩ := hY.f2
          clear hR hY
          go_wp2
          refine bodyPost_ret (by simp [results, Try.results22, go_sem, r0, r1, r2, r3, s0, s1]) rfl (RPPost.zero ?_ HFZ.out)
          iterate 6 (refine Below.setCell ?_ (by first | (simp; done) | (simp; omega)) _)
          exact hbd
      · obtain rfl : k = N := by omega
        have HF := Lib.hid (HST.out.fin (.inl rfl) hp0 hp1)
        by_cases hck : ck = 0
        · subst hck
          by_cases hf2 : f = 4611686018427387904
          · have hfb : (f != 4611686018427387904) = false := by simpa using hf2
            have HFY : Hid (St prj0 n (prd z p) p c q (e, L) pk 0 qk) := Lib.hid (by have := prd_good HS1.out HM.out HF.out hf2; rwa [if_pos rfl] at this)
            have HPTS := Lib.hid hpts
            have HNIL := Lib.hid hnil
            have hcv2 : k ≤ cq9 := by rw [← HLL.out]; exact hcv
            clear hf2 HF hnil hpts hcv ho
            obtain ⟨r0, r1, r2, r3⟩ := hR.c4
            obtain ⟨g0, g1, g2, g3⟩ := hR.f4
            obtain ⟨s0, s1⟩ := hY.c2
            obtain ⟨k0, k1⟩ := hY.f2
            obtain ⟨t0, t1⟩ := hP.c2
            clear hD hR hY hP
            go_wp2
            go_region
            all_goals go_wp2
            all_goals (refine bodyPost_ret (v := .tuple #[cv (.slice a n m) pk 0 qk, pragg e Av L.length cq9]) (by simp [results, Try.results22, go_sem, r0, r1, r2, r3, s0, s1]) rfl ⟨e, Av, L.length, cq9, L, pk, 0, qk, rfl, by (with_reducible try refine Below.drew ?_); (iterate 6 (with_reducible refine Below.setCell ?_ (by first | (simp; done) | (simp; omega)) _)); exact hbd, Pts.mono (Pts.keep HPTS.out (fun g hg hl => by have h2 : sx + 1 ≤ g := hg; (try rw [show ∀ w : World, w.drew.heap = w.heap from fun _ => rfl]); (iterate 6 (rw [Below.heap_setCell _ _ _ _ (by simp; omega)])); try rfl)) (fun g hg _ => by have h2 : sx + 1 ≤ g := hg; show w.heap.size ≤ g; omega), by rw [HLL.out]; exact hcv2, HNIL.out, by rw [HLL.out]; exact hN64, HLE.out, HFY.out⟩)
          · have hfb : (f != 4611686018427387904) = true := by simpa using hf2
            have HG := Lib.hid (fun c' q' => prd_bad (c' := c') (q' := q') HS1.out HM.out HF.out (by omega))
            clear hf2 HF hnil hpts hcv ho
            go_wp2_with fail
            with_reducible refine (rfail_any _ _ _ _ _ _ _ _ _).mono ?_
            rintro en w8 ⟨c8, q8, rfl, hb8, hf8⟩
            have HFZ := Lib.hid (HG.out _ _ hf8)
            have hc8 : c8 ≠ 0 := by
              rcases hf8 with ⟨_, rfl, _⟩ | ⟨h, rfl, _⟩
              · decide
              · exact h
            have hcb' : (c8 != 0) = true := by simpa using hc8
            replace hD := hD.below hb8
            replace hR := hR.below hb8
            replace hY := hY.below hb8
            replace hbd := hbd.trans (hb8.mono hbd.size)
            clear hf8 hc8 hb8 d0 d1 d2 d3 HG
            obtain ⟨d0, d1, d2, d3⟩ := hD.c4
            obtain ⟨l0, l1, l2, l3⟩ := hD.f4
            obtain ⟨hD9, hk9⟩ := set4 hD (.slice a n m) (.int .i64 pk) (.int .i64 c8) (.int .i64 q8)
            replace hR := blk_kp hR hk9 (by omega)
            replace hY := blk_kp hY hk9 (by omega)
            replace hbd := Kp.below hbd (Nat.le_refl _) hk9 (by omega)
            clear hk9 hD
            go_upto_region 16 with (fail)
            clear d0 d1 d2 d3 l0 l1 l2 l3
            generalize (((w8.setCell ⟨d, 0, none⟩ (.slice a n m)).setCell ⟨d, 1, none⟩ (.int .i64 pk)).setCell ⟨d, 2, none⟩ (.int .i64 c8)).setCell ⟨d, 3, none⟩ (.int .i64 q8) = w9 at *
            obtain ⟨d0, d1, d2, d3⟩ := hD9.c4
            obtain ⟨r0, r1, r2, r3⟩ := hR.c4
            obtain ⟨g0, g1, g2, g3⟩ := hR.f4
            obtain ⟨s0, s1⟩ := hY.c2
            obtain ⟨k0, k1⟩ := hY.f2
            clear hR hY
            go_wp2
            refine bodyPost_ret (by simp [results, Try.results22, go_sem, r0, r1, r2, r3, s0, s1]) rfl (RPPost.zero ?_ HFZ.out)
            iterate 6 (refine Below.setCell ?_ (by first | (simp; done) | (simp; omega)) _)
            exact hbd
        · have hcb : (ck == 0) = false := by simpa using hck
          have hcb' : (ck != 0) = true := by simpa using hck
          have HFZ := Lib.hid (prd_stop HS1.out HM.out HF.out hck)
          clear hck hcv hnil hpts ho HF
          obtain ⟨r0, r1, r2, r3⟩ := hR.c4
          obtain ⟨g0, g1, g2, g3⟩ := hR.f4
          obtain ⟨s0, s1⟩ := hY.c2
          obtain ⟨k0, k1⟩ := hY.f2
          clear hR hY
          go_wp2
          refine bodyPost_ret (by simp [results, Try.results22, go_sem, r0, r1, r2, r3, s0, s1]) rfl (RPPost.zero ?_ HFZ.out)
          iterate 6 (refine Below.setCell ?_ (by first | (simp; done) | (simp; omega)) _)
          exact hbd
end Go.Proofs.Ytghlediibhnloaa.Cur
