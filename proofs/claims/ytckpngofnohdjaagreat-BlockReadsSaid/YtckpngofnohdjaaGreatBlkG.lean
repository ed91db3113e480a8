/- Blocks: the document's reader, either way. -/
import Derived.Test.YtckpngofnohdjaaGreatK18
import Derived.Test.YtckpngofnohdjaaGreatK6
import Derived.Test.YtckpngofnohdjaaGreatK12
import Derived.Test.YtckpngofnohdjaaGreatK17
namespace Go.Proofs.YtckpngofnohdjaaGreat.Cur
open Go.RowKit Go.Shelf Mem
attribute [local go_sem] Oper.semAt_some
set_option linter.unusedVariables false
set_option maxRecDepth 100000


/-- What the document's readers of bytes hand back: bytes of their own. -/
def RBOPost (s : Value) (n : Nat) (g : Rs (List Int)) (p c q : Int) (w : World) (e : Ending) (w' : World) : Prop :=
  ∃ v l p' c' q', e = .returned (.tuple #[cv s p' c' q', v]) ∧ Below w.heap.size w w' ∧ St [] n g p c q l p' c' q' ∧ Own w' w.heap.size v l
theorem rtake_o (a : Option Addr) (n m : Nat) (z : List Int) (p c q x : Int) (w : World) (hz : Bs w a n z) (ha : a = none → m = 0) (h0 : 0 ≤ p) (h1 : p ≤ n) (hm : n ≤ m) (hn : n ≤ 1000000) :
    Calls Tryz.prog 22 #[cv (.slice a n m) p c q, .int .i64 x] w (RBOPost (.slice a n m) n (tk z x p) p c q w) := by
  refine (rtake_own a n m z p c q x w hz ha h0 h1 hm hn).mono ?_
  rintro e w' ⟨ok, p', c', q', A, k, m', rfl, hb, hs, ho⟩
  exact ⟨_, _, p', c', q', rfl, hb, hs.st hz.1 h0 h1, ho⟩
set_option maxHeartbeats 1000000 in
theorem rbread_o (a : Option Addr) (n m : Nat) (z : List Int) (p c q mo : Int) (w : World) (hz : Bs w a n z) (ha : a = none → m = 0) (h0 : 0 ≤ p) (h1 : p ≤ n) (hm : n ≤ m) (hn : n ≤ 1000000) (hby : ∀ x ∈ z, 0 ≤ x ∧ x < 256) (hmo : mo ≤ 9223372036854775807) :
    Calls Tryz.prog 23 #[cv (.slice a n m) p c q, .int .i64 mo] w (RBOPost (.slice a n m) n (bl z mo p) p c q w) := by
  have HBY := Lib.hid hby
  clear hby
  go_enter Tryz.func23, Tryz.ntmps23
  go_wp2_with fail
  refine (rint_any _ _ _ _ _ _ _ _ _ (hz.below (below_two _ _ _)) h0 h1 hm hn HBY.out hmo).mono ?_
  rintro e w1 ⟨x, p1, c1, q1, rfl, hb1, hs1⟩
  obtain ⟨hC, hR, hbd⟩ := two_new hb1
  have hst := hs1.st hz.1 h0 h1 HBY.out
  obtain ⟨p10, p11⟩ := hst.place
  have HS := Lib.hid hst
  have hbd2 := hbd.alloc hbd.size (.cells (cvs (.slice a n m) p1 c1 q1) 31)
  have hR2 := hR.alloc (.cells (cvs (.slice a n m) p1 c1 q1) 31)
  clear hs1 hst hb1 hC hR hbd
  go_wp2_with fail
  refine (rtake_o _ _ _ _ _ _ _ _ _ (hz.below hbd2) ha p10 p11 hm hn).mono ?_
  rintro e w2 ⟨v2, l, p2, c2, q2, rfl, hb2, hs2, ho2⟩
  have HS2 := Lib.hid (HS.out.bind (f := fun x p1 => tk z x p1) hs2)
  have hR3 := hR2.below hb2
  have hbd3 := hbd2.trans (hb2.mono hbd2.size)
  obtain ⟨r0, r1, r2, r3⟩ := hR3.c4
  obtain ⟨g0, g1, g2, g3⟩ := hR3.f4
  have ho3 : Own ((((w2.setCell ⟨w.heap.size + 1, 0, none⟩ (.slice a n m)).setCell ⟨w.heap.size + 1, 1, none⟩ (.int .i64 p2)).setCell ⟨w.heap.size + 1, 2, none⟩ (.int .i64 c2)).setCell ⟨w.heap.size + 1, 3, none⟩ (.int .i64 q2)) w.heap.size v2 l := by
    obtain ⟨_, hkp⟩ := set4 hR3 (.slice a n m) (.int .i64 p2) (.int .i64 c2) (.int .i64 q2)
    exact own_base0 (own_kp ho2 hkp (own_ne_blk ho2 hR3 (by decide))) hbd2.size
  have HO3 := Lib.hid ho3
  obtain ⟨A2, m2, rfl⟩ := ho2.slice
  clear hs2 hb2 hbd2 hR2 ho2 ho3
  go_wp2
  refine bodyPost_ret (v := .tuple #[cv (.slice a n m) p2 c2 q2, .slice A2 l.length m2]) (by simp [results, Tryz.results23, go_sem, r0, r1, r2, r3]) rfl ⟨_, l, p2, c2, q2, rfl, ?_, HS2.out, HO3.out⟩
  exact set4_below hbd3 (by omega) _ _ _ _

/-- What the document's Loose hands back. -/
def RlPost (s : Value) (z : List Int) (n : Nat) (most : Int) (w : World) (e : Ending) (w' : World) : Prop :=
  ∃ A k m l p' c' q', e = .returned (.tuple #[cv s p' c' q', .slice A k m, .bool (decide (c' = 0) && decide (piece z 0 p'.toNat = bkb l))]) ∧ Below w.heap.size w w' ∧ St [] n (bk z most 0) 0 0 0 l p' c' q' ∧ Bs w' A k l ∧ (∀ x ∈ l, 0 ≤ x ∧ x < 256)
def LzS (eb cb : Nat) (s : Value) (p : Int) (w' : World) : Prop := Blk w' eb (cvs s p 0 0) 31 ∧ Blk w' cb (cvs s 0 0 0) 31
theorem LzS.below {eb cb : Nat} {s : Value} {p : Int} {w' w'' : World} (h : LzS eb cb s p w') (hb : Below w'.heap.size w' w'') : LzS eb cb s p w'' := ⟨h.1.below hb, h.2.below hb⟩



set_option maxHeartbeats 8000000 in
theorem rloose16_any (a : Option Addr) (n m : Nat) (z : List Int) (most : Int) (w : World) (hz : Bs w a n z) (ha : a = none → m = 0) (hm : n ≤ m) (hn : n ≤ 10000) (hby : ∀ x ∈ z, 0 ≤ x ∧ x < 256) (hmo : most ≤ 10000) :
    Calls Tryz.prog 9 #[cv (.slice a n m) 0 0 0, .int .i64 most] w (RlPost (.slice a n m) z n most w) := by
  have hzl := hz.1
  have HBY := Lib.hid hby
  have HZ := Lib.hid hz
  have HA := Lib.hid ha
  have hn1 : n ≤ 1000000 := by omega
  have hmo1 : ¬ 1048576 < most := by omega
  have emin : min most 1048576 = most := by omega
  have EM := Lib.hid emin
  clear hby ha hz emin
  go_enter Tryz.func9, Tryz.ntmps9
  go_wp2_with fail
  refine (rint_any a n m z 0 0 0 most _ (HZ.out.below (below_two _ _ _)) (Int.le_refl _) (by omega) hm hn1 HBY.out (by omega)).mono ?_
  rintro e w1 ⟨N, p1, c1, q1, rfl, hb1, hs1⟩
  obtain ⟨hC, hR, hbd⟩ := two_new hb1
  have hst := hs1.st hzl (Int.le_refl _) (by omega) HBY.out
  obtain ⟨p10, p11⟩ := hst.place
  have hnb := vm_bd hst HBY.out
  have hN : 0 ≤ N ∧ N ≤ 10000 := by omega
  have HS1 : Hid (St 0 n (vm z (min most 1048576) 0) 0 0 0 N p1 c1 q1) := Lib.hid (by rw [EM.out]; exact hst)
  have hlt1 : w.heap.size + 1 < w1.heap.size := hR.lt
  have hD := Blk.new w1 (cvs (.slice a n m) p1 c1 q1) 31
  replace hbd := hbd.alloc hbd.size (.cells (cvs (.slice a n m) p1 c1 q1) 31)
  replace hC := hC.alloc (.cells (cvs (.slice a n m) p1 c1 q1) 31)
  replace hR := hR.alloc (.cells (cvs (.slice a n m) p1 c1 q1) 31)
  clear hb1 hs1 hst hnb hmo1
  go_wp2_with fail
  generalize w1.alloc (.cells (cvs (.slice a n m) p1 c1 q1) 31) = w2 at *
  generalize w1.heap.size = db at *
  refine (rtake_o a n m z p1 c1 q1 1 w2 (HZ.out.below hbd) HA.out p10 p11 hm hn1).mono ?_
  rintro e w3 ⟨v3, wy, p2, c2, q2, rfl, hb3, hs3, ho3⟩
  obtain ⟨A3, m3, rfl, hbs3, _, hcap3⟩ := ho3.parts
  obtain ⟨p20, p21⟩ := hs3.place
  have HS3 := Lib.hid hs3
  have hltd : db < w2.heap.size := hD.lt
  have hlte : w2.heap.size ≤ w3.heap.size := hb3.size
  replace hbd := hbd.trans (hb3.mono hbd.size)
  replace hC := hC.below hb3
  replace hR := hR.below hb3
  replace hD := hD.below hb3
  have hE := Blk.new w3 (cvs (.slice a n m) p2 c2 q2) 31
  replace hbd := hbd.alloc hbd.size (.cells (cvs (.slice a n m) p2 c2 q2) 31)
  replace hC := hC.alloc (.cells (cvs (.slice a n m) p2 c2 q2) 31)
  replace hR := hR.alloc (.cells (cvs (.slice a n m) p2 c2 q2) 31)
  replace hD := hD.alloc (.cells (cvs (.slice a n m) p2 c2 q2) 31)
  replace hbs3 := hbs3.alloc (.cells (cvs (.slice a n m) p2 c2 q2) 31)
  clear hb3 ho3 hs3
  by_cases hc2 : c2 = 0
  · subst hc2
    obtain ⟨hc1, g1, g2, gp2, hq2⟩ := HS3.out.good
    clear gp2
    subst hc1
    obtain ⟨gy1, gy2, gy3, gy4, hq1⟩ := HS1.out.good
    clear gy1 gy2 gy3 gy4
    subst hq1
    subst hq2
    have hwl : wy.length = 1 := by
      obtain ⟨_, t2, t3⟩ := tk_once p10 (by rw [hzl]; exact p11) g1
      rw [g2, t3, length_piece hzl (by omega)]
      omega
    rw [hwl] at hbs3 ⊢
    obtain ⟨g3, o3, rfl, hcell⟩ := hbs3.at_ (k := 0) (by omega)
    rw [Nat.add_zero] at hcell
    obtain ⟨x, hx⟩ : ∃ x, x = wy.getD 0 0 := ⟨_, rfl⟩
    rw [← hx] at hcell
    have HX := Lib.hid hx
    clear hx g1 g2 hwl hbs3
    go_upto_region 7 with (fail)
    generalize w3.alloc (.cells (cvs (.slice a n m) p2 0 0) 31) = w4 at *
    generalize w3.heap.size = eb at *
    by_cases hx1 : 1 < x
    · obtain ⟨d0, d1, d2, d3⟩ := hD.c4
      obtain ⟨e0, e1, e2, e3⟩ := hE.c4
      clear d0 d2 d3 hC hD hE
      have HX1 := Lib.hid hx1
      go_wp2_with fail
      refine (rfail_any _ _ _ _ _ _ _ _ _).mono ?_
      rintro e w5 ⟨c5, q5, rfl, hb5, hf⟩
      have HST : Hid (St [] n (bk z most 0) 0 0 0 [] p2 c5 q5 ∧ c5 ≠ 0) := Lib.hid (by
        have hc5 : c5 ≠ 0 := by
          rcases hf with ⟨_, h, _⟩ | ⟨h, _⟩
          · rw [h]; decide
          · exact absurd rfl h
        exact ⟨bk_st HS1.out HS3.out (.inl ⟨by rw [← HX.out]; exact HX1.out, hf⟩) (St.stay p20 p21 hc5), hc5⟩)
      replace hbd := hbd.trans (hb5.mono hbd.size)
      replace hR := hR.below hb5
      obtain ⟨r0, r1, r2, r3⟩ := hR.c4
      obtain ⟨g0, g1, g2, g3⟩ := hR.f4
      have HBD := Lib.hid (set4_below hbd (show w.heap.size ≤ w.heap.size + 1 by omega) (.slice a n m) (.int .i64 p2) (.int .i64 c5) (.int .i64 q5))
      clear hbd hb5 hf hcell hR e0 e1 e2 e3 d1
      go_wp2
      refine bodyPost_ret (v := .tuple #[cv (.slice a n m) p2 c5 q5, .slice none 0 0, .bool false]) (by simp [results, Tryz.results9, go_sem, r0, r1, r2, r3]) rfl ⟨none, 0, 0, [], p2, c5, q5, by rw [decide_eq_false HST.out.2]; rfl, HBD.out, HST.out.1, Bs.none _, by simp⟩
    · clear hD
      have HBC : Hid (∀ l p' c' q', St [] n (bc z N x p2) p2 0 0 l p' c' q' → St [] n (bk z most 0) 0 0 0 l p' c' q') := Lib.hid (fun l p' c' q' h => bk_st HS1.out HS3.out (.inr ⟨by rw [← HX.out]; exact hx1, rfl, rfl⟩) (by rw [← HX.out]; exact h))
      by_cases hx0 : x = 0
      · subst hx0
        obtain ⟨e0, e1, e2, e3⟩ := hE.c4
        go_wp2_with fail
        refine (rtake_o a n m z p2 0 0 N w4 (HZ.out.below hbd) HA.out p20 p21 hm hn1).mono ?_
        rintro e w5 ⟨v5, l, p3, c3, q3, rfl, hb5, hs5, ho5⟩
        obtain ⟨p30, p31⟩ := hs5.place
        obtain ⟨A11, m11, rfl, hbs, hn11, hk11⟩ := ho5.parts
        have hb := tk_byte HBY.out N p2
        have hll := hs5.val (P := fun l => (∀ y ∈ l, 0 ≤ y ∧ y < 256) ∧ l.length ≤ 10000) ⟨fun y h => absurd h (by simp), by simp⟩ ⟨hb.1, by omega⟩
        have HST : Hid (St [] n (bk z most 0) 0 0 0 l p3 c3 q3) := Lib.hid (HBC.out _ _ _ _ (by unfold bc; rw [if_pos rfl]; exact hs5))
        have HLB := Lib.hid hll.1
        have HN11 := Lib.hid hn11
        have hl2 := hll.2
        have HS5 := Lib.hid hs5
        have hneE := own_ne_blk ho5 (hE.below hb5) (by decide)
        replace hbd := hbd.trans (hb5.mono hbd.size)
        replace hR := hR.below hb5
        replace hC := hC.below hb5
        replace hE := hE.below hb5
        clear e0 e1 e2 e3 hb5 hs5 ho5 hb hll hn11 hcell
        obtain ⟨e0, e1, e2, e3⟩ := hE.c4
        obtain ⟨f0, f1, f2, f3⟩ := hE.f4
        obtain ⟨hE6, hk6⟩ := set4 hE (.slice a n m) (.int .i64 p3) (.int .i64 c3) (.int .i64 q3)
        have hbs6 := hbs.kp4 hE (by intro x; simp) (by intro x; simp) (by intro x; simp) (by intro x; simp) hk6
        have hR6 := blk_kp hR hk6 (by omega)
        have hC6 := blk_kp hC hk6 (by omega)
        have hbd6 := Kp.below hbd (Nat.le_refl _) hk6 (by omega)
        clear hbd hR hC hE hk6 hbs
        obtain ⟨k11, hk⟩ : ∃ k, k = l.length := ⟨_, rfl⟩
        rw [← hk] at hbs6 hk11 hl2 ⊢
        have HK11 := Lib.hid hk
        clear hk
        go_upto_region 21 with (fail)
        generalize (((w5.setCell ⟨eb, 0, none⟩ (.slice a n m)).setCell ⟨eb, 1, none⟩ (.int .i64 p3)).setCell ⟨eb, 2, none⟩ (.int .i64 c3)).setCell ⟨eb, 3, none⟩ (.int .i64 q3) = w6 at *
        have hE := hE6
        have hR := hR6
        have hC := hC6
        have hbd := hbd6
        have hbs := hbs6
        clear e0 e1 e2 e3 f0 f1 f2 f3 hE6 hR6 hC6 hbd6 hbs6
        by_cases hc3 : c3 = 0
        · subst hc3
          obtain ⟨gy1, gy2, gy3, gy4, hq3⟩ := HS5.out.good
          clear gy1 gy2 gy3 gy4
          subst hq3
          have hS : LzS eb w.heap.size (.slice a n m) (p3) (w6).drew := ⟨hE, hC⟩
          have L : ∀ w' : World, LzS eb w.heap.size (.slice a n m) (p3) w' → ((w'.cell? ⟨eb, 0, none⟩ = some (.slice a n m) ∧ w'.cell? ⟨eb, 1, none⟩ = some (.int .i64 (p3)) ∧ w'.cell? ⟨eb, 2, none⟩ = some (.int .i64 0) ∧ w'.cell? ⟨eb, 3, none⟩ = some (.int .i64 0)) ∧ w'.cell? ⟨w.heap.size, 1, none⟩ = some (.int .i64 0)) := fun w' h => ⟨h.1.c4, h.2.c4.2.1⟩
          obtain ⟨A', M, hsl, hA', _, _⟩ := slice_lh (HZ.out.below hbd) m 0 (p3) (Int.le_refl _) (by omega) (by omega) hm
          rw [Int.sub_zero] at hsl hA'
          have hK := fun W (h : Below (w6).heap.size w6 W) => r16bytes_any (A := A11) (n := k11) (m := m11) (z := l) (hbs.below h) HN11.out HLB.out hk11 (by omega)
          have HK := Lib.hid hK
          have HHA := Lib.hid hA'
          have HBS := Lib.hid hbs
          have HR := Lib.hid hR
          have HBD := Lib.hid hbd
          have HPB : Hid (∀ x ∈ piece z (0 : Int).toNat (p3).toNat, 0 ≤ x ∧ x < 256) := Lib.hid (piece_byte HBY.out _ _)
          have HBB : Hid (∀ x ∈ bkb l, 0 ≤ x ∧ x < 256) := Lib.hid (bkb_byte (by have := HBS.out.1; omega) HLB.out)
          obtain ⟨E1, e0, e1, e2, e3⟩ : ∃ u : True, _ := ⟨trivial, hE.c4⟩
          clear E1 hK hA' hbs hR hbd hE hC
          go_wp2_with fail
          clear e0 e1 e2 e3
          refine Seq.wp_region_seq (LzS eb w.heap.size (.slice a n m) (p3)) (by kernel_rfl) (by kernel_rfl) hS ?_
          repeat (first | (refine Seq.Seq.skip (by rfl) ?_; (try simp only [Act.put, List.setIfInBounds_toArray, List.set_cons_zero, List.set_cons_succ])) | (refine Seq.Seq.det ?_ (by rfl) (fun w hS => ?_) ?_; rotate_left; ((try dsimp only at hS); go_simp; (try rw [if_pos (by omega)]); with_reducible rfl); (try simp only [Act.put, List.setIfInBounds_toArray, List.set_cons_zero, List.set_cons_succ])))
          refine Seq.Seq.make (by rfl) (by rfl) (fun K Q' hK => ?_)
          go_simp
          go_at_call 25
          refine (HK.out _ (below_one' _)).mono ?_
          rintro e wb ⟨Ab, mb, rfl, hbb, hbsb, _⟩
          have hSb := hS.below hbb
          have HBd := Lib.hid ((below_one' w6).trans (hbb.mono (below_one' w6).size))
          have HBSb := Lib.hid hbsb
          clear hbb hbsb
          obtain ⟨lb, hlb⟩ : ∃ lb, lb = (bkb l).length := ⟨_, rfl⟩
          rw [← hlb] at HBSb ⊢
          clear hlb
          refine hK.out _ _ (hSb) ?_
          clear hK K
          try simp only [Act.put, List.setIfInBounds_toArray, List.set_cons_zero, List.set_cons_succ]
          repeat (first | (refine Seq.Seq.skip (by rfl) ?_; (try simp only [Act.put, List.setIfInBounds_toArray, List.set_cons_zero, List.set_cons_succ])) | (refine Seq.Seq.det ?_ (by rfl) (fun w hS => ?_) ?_; rotate_left; ((try dsimp only at hS); go_simp; (try rw [if_pos (by omega)]); with_reducible rfl); (try simp only [Act.put, List.setIfInBounds_toArray, List.set_cons_zero, List.set_cons_succ])))
          refine Seq.Seq.make (by rfl) (by rfl) (fun K Q' hK => ?_)
          go_simp
          go_at_call 10
          refine (bsame_any Ab A' lb _ mb M (bkb l) (piece z (0 : Int).toNat (p3).toNat) wb HBSb.out (HHA.out.below HBd.out) HBB.out HPB.out).mono ?_
          rintro e wc ⟨rfl, rfl⟩
          obtain ⟨of, hof⟩ : ∃ of, of = decide (bkb l = piece z (0 : Int).toNat (p3).toNat) := ⟨_, rfl⟩
          rw [← hof]
          have HOF := Lib.hid hof
          clear hof
          refine hK.out _ _ (hSb) ?_
          clear hK K
          try simp only [Act.put, List.setIfInBounds_toArray, List.set_cons_zero, List.set_cons_succ]
          repeat (first | (refine Seq.Seq.skip (by rfl) ?_; (try simp only [Act.put, List.setIfInBounds_toArray, List.set_cons_zero, List.set_cons_succ])) | (refine Seq.Seq.det ?_ (by rfl) (fun w hS => ?_) ?_; rotate_left; ((try dsimp only at hS); go_simp; (try rw [if_pos (by omega)]); with_reducible rfl); (try simp only [Act.put, List.setIfInBounds_toArray, List.set_cons_zero, List.set_cons_succ])))
          have hRb := HR.out.below HBd.out
          obtain ⟨r0, r1, r2, r3⟩ := hRb.c4
          obtain ⟨g0, g1, g2, g3⟩ := hRb.f4
          refine Seq.Seq.make (by rfl) (by rfl) (fun K Q' hK => ?_)
          go_simp
          obtain ⟨hR7, hk7⟩ := set4 hRb (.slice a n m) (.int .i64 (p3)) (.int .i64 0) (.int .i64 0)
          have hS7 : LzS eb w.heap.size (.slice a n m) (p3) _ := ⟨blk_kp hSb.1 hk7 (by omega), blk_kp hSb.2 hk7 (by omega)⟩
          refine hK.out _ _ (hS7) ?_
          clear hK K
          try simp only [Act.put, List.setIfInBounds_toArray, List.set_cons_zero, List.set_cons_succ]
          have hbd7 := Kp.below (HBD.out.trans (HBd.out.mono HBD.out.size)) (Nat.le_refl _) hk7 (by omega)
          have hbs7 := (HBS.out.below HBd.out).kp4 hRb (by intro x; simp) (by intro x; simp) (by intro x; simp) (by intro x; simp) hk7
          obtain ⟨r0, r1, r2, r3⟩ := hR7.c4
          generalize (((wb.setCell ⟨w.heap.size + 1, 0, none⟩ (.slice a n m)).setCell ⟨w.heap.size + 1, 1, none⟩ (.int .i64 (p3))).setCell ⟨w.heap.size + 1, 2, none⟩ (.int .i64 0)).setCell ⟨w.heap.size + 1, 3, none⟩ (.int .i64 0) = w7 at *
          repeat (first | (refine Seq.Seq.skip (by rfl) ?_; (try simp only [Act.put, List.setIfInBounds_toArray, List.set_cons_zero, List.set_cons_succ])) | (refine Seq.Seq.det ?_ (by rfl) (fun w hS => ?_) ?_; rotate_left; ((try dsimp only at hS); go_simp; (try rw [if_pos (by omega)]); with_reducible rfl); (try simp only [Act.put, List.setIfInBounds_toArray, List.set_cons_zero, List.set_cons_succ])))
          refine Seq.Seq.nil ?_
          have HBS7 := Lib.hid hbs7
          have HBD7 := Lib.hid hbd7
          clear L hS hSb hS7 hsl hR7 hRb hbs7 hbd7 g0 g1 g2 g3 hk7
          go_wp2
          refine bodyPost_ret (v := .tuple #[cv (.slice a n m) (p3) 0 0, .slice A11 k11 m11, .bool of]) (by simp [results, Tryz.results9, go_sem, r0, r1, r2, r3]) rfl ⟨A11, k11, m11, l, p3, 0, 0, ?_, HBD7.out, HST.out, HBS7.out, HLB.out⟩
          have eof : decide (bkb l = piece z (0 : Int).toNat (p3).toNat) = decide (piece z 0 (p3).toNat = bkb l) := decide_eq_decide.2 eq_comm
          rw [HOF.out, eof, decide_eq_true (rfl : (0 : Int) = 0), Bool.true_and]
        · have hcb3 : (c3 != 0) = true := by simpa using hc3
          have HNC := Lib.hid hc3
          have hl := HS5.out.nil hc3
          subst hl
          clear hbs hc3
          clear hC
          obtain ⟨e0, e1, e2, e3⟩ := hE.c4
          obtain ⟨r0, r1, r2, r3⟩ := hR.c4
          obtain ⟨g0, g1, g2, g3⟩ := hR.f4
          have HBD := Lib.hid (set4_below hbd (show w.heap.size ≤ w.heap.size + 1 by omega) (.slice a n m) (.int .i64 (p3)) (.int .i64 (c3)) (.int .i64 (q3)))
          clear hbd hE hR
          go_wp2
          refine bodyPost_ret (v := .tuple #[cv (.slice a n m) (p3) (c3) (q3), .slice none 0 0, .bool false]) (by simp [results, Tryz.results9, go_sem, r0, r1, r2, r3]) rfl ⟨none, 0, 0, [], p3, c3, q3, by rw [decide_eq_false HNC.out]; rfl, HBD.out, HST.out, Bs.none _, by simp⟩
      · have hx0b : (x == 0) = false := by simpa using hx0
        have HX0 := Lib.hid hx0
        clear hx0
        obtain ⟨e0, e1, e2, e3⟩ := hE.c4
        go_wp2_with fail
        refine (rbread_o a n m z p2 0 0 1048576 w4 (HZ.out.below hbd) HA.out p20 p21 hm hn1 HBY.out (by omega)).mono ?_
        rintro e w5 ⟨v5, t, p3, c3, q3, rfl, hb5, hs5, ho5⟩
        obtain ⟨p30, p31⟩ := hs5.place
        obtain ⟨A12, m12, rfl, hbs, hn12, hk12⟩ := ho5.parts
        have hb := bl_byte HBY.out 1048576 p2
        obtain ⟨ht1, ht2⟩ := hs5.val (P := fun l => (∀ y ∈ l, 0 ≤ y ∧ y < 256) ∧ l.length ≤ 10000) ⟨fun y h => absurd h (by simp), by simp⟩ ⟨hb.1, by omega⟩
        have HS5 := Lib.hid hs5
        have HTB := Lib.hid ht1
        have HN12 := Lib.hid hn12
        have hltg : eb < w5.heap.size := (hE.below hb5).lt
        have hG := Blk.new w5 (cvs (.slice a n m) p3 c3 q3) 31
        have hbA := below_one w5 (.cells (cvs (.slice a n m) p3 c3 q3) 31)
        replace hbd := (hbd.trans (hb5.mono hbd.size)).trans (hbA.mono (hbd.trans (hb5.mono hbd.size)).size)
        replace hR := (hR.below hb5).below hbA
        replace hC := (hC.below hb5).below hbA
        replace hE := (hE.below hb5).below hbA
        replace hbs := hbs.below hbA
        obtain ⟨tl, htl⟩ : ∃ tl, tl = t.length := ⟨_, rfl⟩
        rw [← htl] at hbs hk12 ht2 ⊢
        have HTL := Lib.hid htl
        clear e0 e1 e2 e3 hb5 hs5 ho5 hb ht1 hn12 hcell hbA htl
        go_upto_region 13 with (fail)
        generalize w5.alloc (.cells (cvs (.slice a n m) p3 c3 q3) 31) = w6 at *
        generalize w5.heap.size = gb at *
        obtain ⟨i0, i1, i2, i3⟩ := hG.c4
        obtain ⟨e0, e1, e2, e3⟩ := hE.c4
        obtain ⟨f0, f1, f2, f3⟩ := hE.f4
        obtain ⟨hE7, hk7⟩ := set4 hE (.slice a n m) (.int .i64 p3) (.int .i64 c3) (.int .i64 q3)
        have hbs7 := hbs.kp4 hE (by intro x; simp) (by intro x; simp) (by intro x; simp) (by intro x; simp) hk7
        have hR7 := blk_kp hR hk7 (by omega)
        have hC7 := blk_kp hC hk7 (by omega)
        have hbd7 := Kp.below hbd (Nat.le_refl _) hk7 (by omega)
        clear hbd hR hC hE hk7 hbs hG
        go_upto_region 14 with (fail)
        generalize (((w6.setCell ⟨eb, 0, none⟩ (.slice a n m)).setCell ⟨eb, 1, none⟩ (.int .i64 p3)).setCell ⟨eb, 2, none⟩ (.int .i64 c3)).setCell ⟨eb, 3, none⟩ (.int .i64 q3) = w7 at *
        have hE := hE7
        have hR := hR7
        have hC := hC7
        have hbd := hbd7
        clear e0 e1 e2 e3 f0 f1 f2 f3 i0 i1 i2 i3 hE7 hR7 hC7 hbd7
        by_cases hc3 : c3 = 0
        · subst hc3
          obtain ⟨gy1, gy2, gy3, gy4, hq3⟩ := HS5.out.good
          subst hq3
          clear gy1 gy2 gy3 gy4
          have hB := reb_le (bound := N) (m := m12) hbs7 HN12.out hk12 (by omega) HTB.out (by omega)
          obtain ⟨g1, g2, _, _⟩ := exv_fine (z := t) (bound := N) HTB.out
          have g5 := exv_fp (z := t) (bound := N) HTB.out
          obtain ⟨G, hG⟩ : ∃ G, G = exv t N := ⟨_, rfl⟩
          rw [← hG] at hB g1 g2 g5
          have HG := Lib.hid hG
          clear hG hbs7
          obtain ⟨y, c4, q4⟩ := G
          simp only at g1 g2 g5
          rw [← HTL.out] at g5
          have HYB := Lib.hid g2
          obtain ⟨e0, e1, e2, e3⟩ := hE.c4
          clear g2
          go_wp2_with fail
          refine hB.mono ?_
          rintro e w8 ⟨v8, rfl, ho8, hb8⟩
          replace ho8 : Own w8 w7.heap.size v8 y := ho8
          obtain ⟨A11, m11, rfl, hbs, hn11, hk11⟩ := ho8.parts
          have hneE := hE.below hb8
          have hltf : eb < w8.heap.size := hneE.lt
          have hF := Blk.new w8 #[.int .i64 c4, .int .i64 q4] 29
          have hbA := below_one w8 (.cells #[.int .i64 c4, .int .i64 q4] 29)
          replace hbd := (hbd.trans (hb8.mono hbd.size)).trans (hbA.mono (hbd.trans (hb8.mono hbd.size)).size)
          replace hR := (hR.below hb8).below hbA
          replace hC := (hC.below hb8).below hbA
          replace hE := hneE.below hbA
          replace hbs := hbs.below hbA
          have HN11 := Lib.hid hn11
          have hyl : y.length ≤ 10000 := by omega
          obtain ⟨k11, hk⟩ : ∃ k, k = y.length := ⟨_, rfl⟩
          rw [← hk] at hbs hk11 hyl ⊢
          have HK11 := Lib.hid hk
          clear e0 e1 e2 e3 hb8 ho8 hbA hneE hn11 hB hk g1
          go_upto_region 16 with (fail)
          generalize w8.alloc (.cells #[.int .i64 c4, .int .i64 q4] 29) = w9 at *
          generalize w8.heap.size = fb at *
          obtain ⟨j0, j1⟩ := hF.c2
          obtain ⟨e0, e1, e2, e3⟩ := hE.c4
          by_cases hc4 : c4 = 0
          · subst hc4
            by_cases hlt : (k11 : Int) < N
            · clear hF j1
              go_wp2_with fail
              refine (rfail_any _ _ _ _ _ _ _ _ _).mono ?_
              rintro e w10 ⟨c9, q9, rfl, hb10, hf⟩
              have hc9 : c9 ≠ 0 := by
                rcases hf with ⟨_, h, _⟩ | ⟨h, _⟩
                · rw [h]; decide
                · exact absurd rfl h
              have HST : Hid (St [] n (bk z most 0) 0 0 0 [] p3 c9 q9) := Lib.hid (by
                obtain ⟨l', hl1, hl2⟩ := bc_st (q8 := q9) (c8 := c9) (c7 := 0) (q7 := 0) HX0.out HS5.out HG.out.symm (fun _ => rfl) (.inl ⟨rfl, rfl, rfl⟩) (.inl ⟨by rw [← HK11.out]; exact hlt, hf⟩)
                have := hl1.nil hc9
                subst this
                exact HBC.out _ _ _ _ hl1)
              clear hlt hf j0
              replace hbd := hbd.trans (hb10.mono hbd.size)
              replace hR := hR.below hb10
              replace hC := hC.below hb10
              replace hE := hE.below hb10
              clear e0 e1 e2 e3 hb10
              obtain ⟨e0, e1, e2, e3⟩ := hE.c4
              obtain ⟨f0, f1, f2, f3⟩ := hE.f4
              obtain ⟨hE6, hk6⟩ := set4 hE (.slice a n m) (.int .i64 p3) (.int .i64 c9) (.int .i64 q9)
              have hR6 := blk_kp hR hk6 (by omega)
              have hC6 := blk_kp hC hk6 (by omega)
              have hbd6 := Kp.below hbd (Nat.le_refl _) hk6 (by omega)
              clear hbd hR hC hE hk6 hbs
              go_upto_region 21 with (fail)
              generalize (((w10.setCell ⟨eb, 0, none⟩ (.slice a n m)).setCell ⟨eb, 1, none⟩ (.int .i64 p3)).setCell ⟨eb, 2, none⟩ (.int .i64 c9)).setCell ⟨eb, 3, none⟩ (.int .i64 q9) = w11 at *
              have hE := hE6
              have hR := hR6
              have hC := hC6
              have hbd := hbd6
              clear e0 e1 e2 e3 f0 f1 f2 f3 hE6 hR6 hC6 hbd6
              have hcb9 : (c9 != 0) = true := by simpa using hc9
              have HNC := Lib.hid hc9
              clear hc9
              clear hC
              obtain ⟨e0, e1, e2, e3⟩ := hE.c4
              obtain ⟨r0, r1, r2, r3⟩ := hR.c4
              obtain ⟨g0, g1, g2, g3⟩ := hR.f4
              have HBD := Lib.hid (set4_below hbd (show w.heap.size ≤ w.heap.size + 1 by omega) (.slice a n m) (.int .i64 (p3)) (.int .i64 (c9)) (.int .i64 (q9)))
              clear hbd hE hR
              go_wp2
              refine bodyPost_ret (v := .tuple #[cv (.slice a n m) (p3) (c9) (q9), .slice none 0 0, .bool false]) (by simp [results, Tryz.results9, go_sem, r0, r1, r2, r3]) rfl ⟨none, 0, 0, [], p3, c9, q9, by rw [decide_eq_false HNC.out]; rfl, HBD.out, HST.out, Bs.none _, by simp⟩
            · have HST : Hid (St [] n (bk z most 0) 0 0 0 y p3 0 0) := Lib.hid (by
                obtain ⟨l', hl1, hl2⟩ := bc_st (q8 := 0) (c8 := 0) (c7 := 0) (q7 := 0) HX0.out HS5.out HG.out.symm (fun _ => rfl) (.inl ⟨rfl, rfl, rfl⟩) (.inr ⟨by rw [← HK11.out]; exact hlt, rfl, rfl⟩)
                rw [← hl2 rfl]
                exact HBC.out _ _ _ _ hl1)
              have HLB := HYB
              have hl2 := hyl
              obtain ⟨l, hl⟩ : ∃ l, l = y := ⟨_, rfl⟩
              rw [← hl] at HST HLB hbs
              clear hl HG HYB
              clear e0 e1 e2 e3 hF
              go_upto_region 21 with (fail)
              clear j0 j1 hlt
              have hS : LzS eb w.heap.size (.slice a n m) (p3) (w9).drew := ⟨hE, hC⟩
              have L : ∀ w' : World, LzS eb w.heap.size (.slice a n m) (p3) w' → ((w'.cell? ⟨eb, 0, none⟩ = some (.slice a n m) ∧ w'.cell? ⟨eb, 1, none⟩ = some (.int .i64 (p3)) ∧ w'.cell? ⟨eb, 2, none⟩ = some (.int .i64 0) ∧ w'.cell? ⟨eb, 3, none⟩ = some (.int .i64 0)) ∧ w'.cell? ⟨w.heap.size, 1, none⟩ = some (.int .i64 0)) := fun w' h => ⟨h.1.c4, h.2.c4.2.1⟩
              obtain ⟨A', M, hsl, hA', _, _⟩ := slice_lh (HZ.out.below hbd) m 0 (p3) (Int.le_refl _) (by omega) (by omega) hm
              rw [Int.sub_zero] at hsl hA'
              have hK := fun W (h : Below (w9).heap.size w9 W) => r16bytes_any (A := A11) (n := k11) (m := m11) (z := l) (hbs.below h) HN11.out HLB.out hk11 (by omega)
              have HK := Lib.hid hK
              have HHA := Lib.hid hA'
              have HBS := Lib.hid hbs
              have HR := Lib.hid hR
              have HBD := Lib.hid hbd
              have HPB : Hid (∀ x ∈ piece z (0 : Int).toNat (p3).toNat, 0 ≤ x ∧ x < 256) := Lib.hid (piece_byte HBY.out _ _)
              have HBB : Hid (∀ x ∈ bkb l, 0 ≤ x ∧ x < 256) := Lib.hid (bkb_byte (by have := HBS.out.1; omega) HLB.out)
              obtain ⟨E1, e0, e1, e2, e3⟩ : ∃ u : True, _ := ⟨trivial, hE.c4⟩
              clear E1 hK hA' hbs hR hbd hE hC
              go_wp2_with fail
              clear e0 e1 e2 e3
              refine Seq.wp_region_seq (LzS eb w.heap.size (.slice a n m) (p3)) (by kernel_rfl) (by kernel_rfl) hS ?_
              repeat (first | (refine Seq.Seq.skip (by rfl) ?_; (try simp only [Act.put, List.setIfInBounds_toArray, List.set_cons_zero, List.set_cons_succ])) | (refine Seq.Seq.det ?_ (by rfl) (fun w hS => ?_) ?_; rotate_left; ((try dsimp only at hS); go_simp; (try rw [if_pos (by omega)]); with_reducible rfl); (try simp only [Act.put, List.setIfInBounds_toArray, List.set_cons_zero, List.set_cons_succ])))
              refine Seq.Seq.make (by rfl) (by rfl) (fun K Q' hK => ?_)
              go_simp
              go_at_call 25
              refine (HK.out _ (below_one' _)).mono ?_
              rintro e wb ⟨Ab, mb, rfl, hbb, hbsb, _⟩
              have hSb := hS.below hbb
              have HBd := Lib.hid ((below_one' w9).trans (hbb.mono (below_one' w9).size))
              have HBSb := Lib.hid hbsb
              clear hbb hbsb
              obtain ⟨lb, hlb⟩ : ∃ lb, lb = (bkb l).length := ⟨_, rfl⟩
              rw [← hlb] at HBSb ⊢
              clear hlb
              refine hK.out _ _ (hSb) ?_
              clear hK K
              try simp only [Act.put, List.setIfInBounds_toArray, List.set_cons_zero, List.set_cons_succ]
              repeat (first | (refine Seq.Seq.skip (by rfl) ?_; (try simp only [Act.put, List.setIfInBounds_toArray, List.set_cons_zero, List.set_cons_succ])) | (refine Seq.Seq.det ?_ (by rfl) (fun w hS => ?_) ?_; rotate_left; ((try dsimp only at hS); go_simp; (try rw [if_pos (by omega)]); with_reducible rfl); (try simp only [Act.put, List.setIfInBounds_toArray, List.set_cons_zero, List.set_cons_succ])))
              refine Seq.Seq.make (by rfl) (by rfl) (fun K Q' hK => ?_)
              go_simp
              go_at_call 10
              refine (bsame_any Ab A' lb _ mb M (bkb l) (piece z (0 : Int).toNat (p3).toNat) wb HBSb.out (HHA.out.below HBd.out) HBB.out HPB.out).mono ?_
              rintro e wc ⟨rfl, rfl⟩
              obtain ⟨of, hof⟩ : ∃ of, of = decide (bkb l = piece z (0 : Int).toNat (p3).toNat) := ⟨_, rfl⟩
              rw [← hof]
              have HOF := Lib.hid hof
              clear hof
              refine hK.out _ _ (hSb) ?_
              clear hK K
              try simp only [Act.put, List.setIfInBounds_toArray, List.set_cons_zero, List.set_cons_succ]
              repeat (first | (refine Seq.Seq.skip (by rfl) ?_; (try simp only [Act.put, List.setIfInBounds_toArray, List.set_cons_zero, List.set_cons_succ])) | (refine Seq.Seq.det ?_ (by rfl) (fun w hS => ?_) ?_; rotate_left; ((try dsimp only at hS); go_simp; (try rw [if_pos (by omega)]); with_reducible rfl); (try simp only [Act.put, List.setIfInBounds_toArray, List.set_cons_zero, List.set_cons_succ])))
              have hRb := HR.out.below HBd.out
              obtain ⟨r0, r1, r2, r3⟩ := hRb.c4
              obtain ⟨g0, g1, g2, g3⟩ := hRb.f4
              refine Seq.Seq.make (by rfl) (by rfl) (fun K Q' hK => ?_)
              go_simp
              obtain ⟨hR7, hk7⟩ := set4 hRb (.slice a n m) (.int .i64 (p3)) (.int .i64 0) (.int .i64 0)
              have hS7 : LzS eb w.heap.size (.slice a n m) (p3) _ := ⟨blk_kp hSb.1 hk7 (by omega), blk_kp hSb.2 hk7 (by omega)⟩
              refine hK.out _ _ (hS7) ?_
              clear hK K
              try simp only [Act.put, List.setIfInBounds_toArray, List.set_cons_zero, List.set_cons_succ]
              have hbd7 := Kp.below (HBD.out.trans (HBd.out.mono HBD.out.size)) (Nat.le_refl _) hk7 (by omega)
              have hbs7 := (HBS.out.below HBd.out).kp4 hRb (by intro x; simp) (by intro x; simp) (by intro x; simp) (by intro x; simp) hk7
              obtain ⟨r0, r1, r2, r3⟩ := hR7.c4
              generalize (((wb.setCell ⟨w.heap.size + 1, 0, none⟩ (.slice a n m)).setCell ⟨w.heap.size + 1, 1, none⟩ (.int .i64 (p3))).setCell ⟨w.heap.size + 1, 2, none⟩ (.int .i64 0)).setCell ⟨w.heap.size + 1, 3, none⟩ (.int .i64 0) = w7 at *
              repeat (first | (refine Seq.Seq.skip (by rfl) ?_; (try simp only [Act.put, List.setIfInBounds_toArray, List.set_cons_zero, List.set_cons_succ])) | (refine Seq.Seq.det ?_ (by rfl) (fun w hS => ?_) ?_; rotate_left; ((try dsimp only at hS); go_simp; (try rw [if_pos (by omega)]); with_reducible rfl); (try simp only [Act.put, List.setIfInBounds_toArray, List.set_cons_zero, List.set_cons_succ])))
              refine Seq.Seq.nil ?_
              have HBS7 := Lib.hid hbs7
              have HBD7 := Lib.hid hbd7
              clear L hS hSb hS7 hsl hR7 hRb hbs7 hbd7 g0 g1 g2 g3 hk7
              go_wp2
              refine bodyPost_ret (v := .tuple #[cv (.slice a n m) (p3) 0 0, .slice A11 k11 m11, .bool of]) (by simp [results, Tryz.results9, go_sem, r0, r1, r2, r3]) rfl ⟨A11, k11, m11, l, p3, 0, 0, ?_, HBD7.out, HST.out, HBS7.out, HLB.out⟩
              have eof : decide (bkb l = piece z (0 : Int).toNat (p3).toNat) = decide (piece z 0 (p3).toNat = bkb l) := decide_eq_decide.2 eq_comm
              rw [HOF.out, eof, decide_eq_true (rfl : (0 : Int) = 0), Bool.true_and]
          · have hcb4 : (c4 != 0) = true := by simpa using hc4
            have ew1 : IntKind.i64.wrap (p3 - tl) = p3 - tl := IntWalk.i64_in _ (by omega)
            have ew2 : IntKind.i64.wrap (p3 - tl + q4) = p3 - tl + q4 := IntWalk.i64_in _ (by omega)
            have HC4 := Lib.hid hc4
            clear hF hc4
            go_wp2_with fail
            refine (rfail_any _ _ _ _ _ _ _ _ _).mono ?_
            rintro e w10 ⟨c9, q9, rfl, hb10, hf⟩
            have hc9 : c9 ≠ 0 := by
              rcases hf with ⟨_, h, _⟩ | ⟨h, _⟩
              · rw [h]; exact HC4.out
              · exact absurd rfl h
            have HST : Hid (St [] n (bk z most 0) 0 0 0 [] p3 c9 q9) := Lib.hid (by
              have hf7 : FailSt 0 0 c4 (fq c4 (q4 + (p3 - t.length))) c9 q9 := by
                have e : fq c4 (q4 + (p3 - t.length)) = p3 - tl + q4 := by
                  unfold fq
                  rw [if_neg HC4.out, HTL.out]
                  omega
                rw [e]
                exact hf
              obtain ⟨l', hl1, hl2⟩ : ∃ l', St [] n (bc z N x p2) p2 0 0 l' p3 c9 q9 ∧ (c9 = 0 → l' = y) := by
                by_cases hlt : (y.length : Int) < N
                · exact bc_st HX0.out HS5.out HG.out.symm (fun _ => rfl) hf7 (.inl ⟨hlt, .inr ⟨hc9, rfl, rfl⟩⟩)
                · exact bc_st HX0.out HS5.out HG.out.symm (fun _ => rfl) hf7 (.inr ⟨hlt, rfl, rfl⟩)
              have := hl1.nil hc9
              subst this
              exact HBC.out _ _ _ _ hl1)
            clear hf j0 j1 ew1 ew2
            replace hbd := hbd.trans (hb10.mono hbd.size)
            replace hR := hR.below hb10
            replace hC := hC.below hb10
            replace hE := hE.below hb10
            clear e0 e1 e2 e3 hb10
            obtain ⟨e0, e1, e2, e3⟩ := hE.c4
            obtain ⟨f0, f1, f2, f3⟩ := hE.f4
            obtain ⟨hE6, hk6⟩ := set4 hE (.slice a n m) (.int .i64 p3) (.int .i64 c9) (.int .i64 q9)
            have hR6 := blk_kp hR hk6 (by omega)
            have hC6 := blk_kp hC hk6 (by omega)
            have hbd6 := Kp.below hbd (Nat.le_refl _) hk6 (by omega)
            clear hbd hR hC hE hk6 hbs
            go_upto_region 21 with (fail)
            generalize (((w10.setCell ⟨eb, 0, none⟩ (.slice a n m)).setCell ⟨eb, 1, none⟩ (.int .i64 p3)).setCell ⟨eb, 2, none⟩ (.int .i64 c9)).setCell ⟨eb, 3, none⟩ (.int .i64 q9) = w11 at *
            have hE := hE6
            have hR := hR6
            have hC := hC6
            have hbd := hbd6
            clear e0 e1 e2 e3 f0 f1 f2 f3 hE6 hR6 hC6 hbd6
            have hcb9 : (c9 != 0) = true := by simpa using hc9
            have HNC := Lib.hid hc9
            clear hc9
            clear hC
            obtain ⟨e0, e1, e2, e3⟩ := hE.c4
            obtain ⟨r0, r1, r2, r3⟩ := hR.c4
            obtain ⟨g0, g1, g2, g3⟩ := hR.f4
            have HBD := Lib.hid (set4_below hbd (show w.heap.size ≤ w.heap.size + 1 by omega) (.slice a n m) (.int .i64 (p3)) (.int .i64 (c9)) (.int .i64 (q9)))
            clear hbd hE hR
            go_wp2
            refine bodyPost_ret (v := .tuple #[cv (.slice a n m) (p3) (c9) (q9), .slice none 0 0, .bool false]) (by simp [results, Tryz.results9, go_sem, r0, r1, r2, r3]) rfl ⟨none, 0, 0, [], p3, c9, q9, by rw [decide_eq_false HNC.out]; rfl, HBD.out, HST.out, Bs.none _, by simp⟩
        · have hcb3 : (c3 == 0) = false := by simpa using hc3
          have hcb3' : (c3 != 0) = true := by simpa using hc3
          have HNC := Lib.hid hc3
          have HST : Hid (St [] n (bk z most 0) 0 0 0 [] p3 c3 q3) := Lib.hid (by
            have ht := HS5.out.nil hc3
            have hE0 : exv t N = ([], 0, 0) := by rw [ht]; exact exv_nil N
            obtain ⟨l', hl1, hl2⟩ : ∃ l', St [] n (bc z N x p2) p2 0 0 l' p3 c3 q3 ∧ (c3 = 0 → l' = []) := by
              by_cases hlt : (([] : List Int).length : Int) < N
              · exact bc_st (c7 := c3) (q7 := q3) HX0.out HS5.out hE0 (fun _ => rfl) (.inr ⟨hc3, rfl, rfl⟩) (.inl ⟨hlt, .inr ⟨hc3, rfl, rfl⟩⟩)
              · exact bc_st (c7 := c3) (q7 := q3) HX0.out HS5.out hE0 (fun _ => rfl) (.inr ⟨hc3, rfl, rfl⟩) (.inr ⟨hlt, rfl, rfl⟩)
            have := hl1.nil hc3
            subst this
            exact HBC.out _ _ _ _ hl1)
          clear hbs7 hc3
          clear hC
          obtain ⟨e0, e1, e2, e3⟩ := hE.c4
          obtain ⟨r0, r1, r2, r3⟩ := hR.c4
          obtain ⟨g0, g1, g2, g3⟩ := hR.f4
          have HBD := Lib.hid (set4_below hbd (show w.heap.size ≤ w.heap.size + 1 by omega) (.slice a n m) (.int .i64 (p3)) (.int .i64 (c3)) (.int .i64 (q3)))
          clear hbd hE hR
          go_wp2
          refine bodyPost_ret (v := .tuple #[cv (.slice a n m) (p3) (c3) (q3), .slice none 0 0, .bool false]) (by simp [results, Tryz.results9, go_sem, r0, r1, r2, r3]) rfl ⟨none, 0, 0, [], p3, c3, q3, by rw [decide_eq_false HNC.out]; rfl, HBD.out, HST.out, Bs.none _, by simp⟩
  · have hcb : (c2 != 0) = true := by simpa using hc2
    have HNC := Lib.hid hc2
    have HST : Hid (St [] n (bk z most 0) 0 0 0 [] p2 c2 q2) := Lib.hid (by
      by_cases hy : 1 < wy.getD 0 0
      · exact bk_st HS1.out HS3.out (.inl ⟨hy, .inr ⟨hc2, rfl, rfl⟩⟩) (St.stay p20 p21 hc2)
      · exact bk_st HS1.out HS3.out (.inr ⟨hy, rfl, rfl⟩) (St.stay p20 p21 hc2))
    have hE0 := hE.c4
    clear hD hbs3 hc2
    go_upto_region 6 with (fail)
    clear hE0
    generalize w3.alloc (.cells (cvs (.slice a n m) p2 c2 q2) 31) = w4 at *
    generalize w3.heap.size = eb at *
    clear hC
    obtain ⟨e0, e1, e2, e3⟩ := hE.c4
    obtain ⟨r0, r1, r2, r3⟩ := hR.c4
    obtain ⟨g0, g1, g2, g3⟩ := hR.f4
    have HBD := Lib.hid (set4_below hbd (show w.heap.size ≤ w.heap.size + 1 by omega) (.slice a n m) (.int .i64 (p2)) (.int .i64 (c2)) (.int .i64 (q2)))
    clear hbd hE hR
    go_wp2
    refine bodyPost_ret (v := .tuple #[cv (.slice a n m) (p2) (c2) (q2), .slice none 0 0, .bool false]) (by simp [results, Tryz.results9, go_sem, r0, r1, r2, r3]) rfl ⟨none, 0, 0, [], p2, c2, q2, by rw [decide_eq_false HNC.out]; rfl, HBD.out, HST.out, Bs.none _, by simp⟩
end Go.Proofs.YtckpngofnohdjaaGreat.Cur
