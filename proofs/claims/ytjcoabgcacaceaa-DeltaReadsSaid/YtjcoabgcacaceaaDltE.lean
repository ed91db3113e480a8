/- Falling lists: the document's reader. -/
import Derived.Test.YtjcoabgcacaceaaDltD
import Derived.Deep.Cut
namespace Go.Proofs.Ytjcoabgcacaceaa.Cur
open Go.RowKit Mem
set_option linter.unusedVariables false

theorem copied3 {w wr : World} {D R B : Nat} {v : Value} {acc : List Int} {s : Value} {p c q : Int} (p' c' q' : Int) {a' : Array Value}
    (hC : Blk wr D (cvs s p c q) 49) (hR : Blk wr R a' 49) (hne : R ≠ D) (ho : OwnU wr B v acc) (hB : D < B) (hb : Below w.heap.size w wr) (hD : w.heap.size ≤ D) :
    ∃ w1, (((((wr.setCell ⟨D, 0, none⟩ s).setCell ⟨D, 1, none⟩ (.int .i64 p')).setCell ⟨D, 2, none⟩ (.int .i64 c')).setCell ⟨D, 3, none⟩ (.int .i64 q'))) = w1 ∧
    Blk w1 D (cvs s p' c' q') 49 ∧ Blk w1 R a' 49 ∧ OwnU w1 B v acc ∧ Below w.heap.size w w1 := by
  obtain ⟨h1, h2⟩ := set4 hC s (.int .i64 p') (.int .i64 c') (.int .i64 q')
  have h3 := Kp.below hb (Nat.le_refl _) h2 hD
  exact ⟨_, rfl, h1, blk_kp hR h2 hne, own_kp ho h2 (fun e => by have := own_ge ho _ e; omega), h3⟩

def DS (a : Option Addr) (n m : Nat) (z : List Int) (mo be p c q : Int) (NN : Nat) (w : World) (D : Nat) (bv v i : Value) (wr : World) : Prop :=
  ∃ (pk ck qk bk : Int) (acc : List Int), bv = .int .u64 bk ∧ OwnU wr (D + 1) v acc ∧ i = .int .i64 acc.length ∧ acc.length ≤ NN ∧ Blk wr D (cvs (.slice a n m) pk ck qk) 49 ∧ Blk wr (w.heap.size + 1) (cvs (.slice none 0 0) 0 0 0) 49 ∧ Below w.heap.size w wr ∧ 0 ≤ pk ∧ pk ≤ n ∧ 0 ≤ bk ∧ bk < 18446744073709551616 ∧
    (((acc.length : Int) ≤ pk ∧ ck = 0 ∧ qk = q ∧ c = 0 ∧ Hid (dl z mo be p = dgo z (NN - acc.length) pk bk acc ∧ ∀ x ∈ acc, 0 ≤ x ∧ x < 18446744073709551616)) ∨
     (ck ≠ 0 ∧ acc.length ≤ 200000 ∧ Hid (St [] n (dl z mo be p) p c q [] pk ck qk)))

set_option maxRecDepth 100000 in
set_option maxHeartbeats 2000000 in
theorem rdread_any (a : Option Addr) (n m : Nat) (z : List Int) (p c q be mo : Int) (w : World) (hz : Bs w a n z) (h0 : 0 ≤ p) (h1 : p ≤ n) (hm : n ≤ m) (hn : n ≤ 100000) (hby : ∀ x ∈ z, 0 ≤ x ∧ x < 256) (hmo : mo ≤ 9223372036854775807) (be0 : 0 ≤ be) (be1 : be < 18446744073709551616) :
    Calls Try.prog 24 #[cv (.slice a n m) p c q, .int .u64 be, .int .i64 mo] w (RRLPost (.slice a n m) n (dl z mo be p) p c q w) := by
  have HBY := Lib.hid hby
  have HBE := Lib.hid (And.intro be0 be1)
  clear hby be0 be1
  go_enter Try.func24, Try.ntmps24
  go_wp2_with fail
  refine (rint_any _ _ _ _ _ _ _ _ _ (hz.below (below_two _ _ _)) h0 h1 hm (by omega) HBY.out hmo).mono ?_
  rintro e w1 ⟨N, p1, c1, q1, rfl, hb1, hs1⟩
  obtain ⟨hC0, hR0, hbd0⟩ := two_new hb1
  have hst := hs1.st hz.1 h0 h1 HBY.out
  obtain ⟨p10, p11⟩ := hst.place
  obtain ⟨n0, _⟩ := vm_bd hst HBY.out
  have HS := Lib.hid hst
  obtain ⟨NN, rfl⟩ := Int.eq_ofNat_of_zero_le n0
  have hbd := hbd0.alloc hbd0.size (.cells (cvs (.slice a n m) p1 c1 q1) 49)
  have hR := hR0.alloc (.cells (cvs (.slice a n m) p1 c1 q1) 49)
  have hD := Blk.new w1 (cvs (.slice a n m) p1 c1 q1) 49
  have hlt1 : w.heap.size + 1 < w1.heap.size := hR0.lt
  clear hb1 hC0 hR0 hbd0 hs1 hst
  go_wp2
  generalize w1.alloc (.cells (cvs (.slice a n m) p1 c1 q1) 49) = w2 at *
  generalize w1.heap.size = D at *
  go_loopw [1, 10, 11] (fun bv v i wr => DS a n m z mo be p c q NN w D bv v i wr) (fun _ _ i _ => NN - (intOf i).toNat)
  case atStart =>
    by_cases hc1 : c1 = 0
    · have hg := HS.out
      rw [hc1] at hg
      obtain ⟨hc, g0, gv, gp, gq⟩ := hg.good
      subst hc1
      subst hc
      rw [gq] at hD
      refine ⟨p1, 0, q, be, [], rfl, OwnU.nil _ _, rfl, by simp, hD, hR, hbd, p10, p11, HBE.out.1, HBE.out.2, .inl ⟨by simpa using p10, rfl, rfl, rfl, Lib.hid ⟨?_, by simp⟩⟩⟩
      have := vm_shape g0
      unfold dl
      rw [Rs.bind_of (v := (NN : Int)) (p' := p1) (by rw [gv, gp]; exact this), Int.toNat_natCast]
      rfl
    · have hb := St.bind (f := fun x p1 => dgo z x.toNat p1 be []) HS.out (St.stay (d := []) p10 p11 hc1)
      exact ⟨p1, c1, q1, be, [], rfl, OwnU.nil _ _, rfl, by simp, hD, hR, hbd, p10, p11, HBE.out.1, HBE.out.2, .inr ⟨hc1, by simp, Lib.hid hb⟩⟩
  case round =>
    obtain ⟨pk, ck, qk, bk, acc, rfl, ho, rfl, hkN, hC, hR, hbd, k0, k1, bk0, bk1, hst⟩ := hrel
    clear hD
    rcases hst with ⟨hkp, hck, hqk, hc, H⟩ | ⟨hck, hal, H⟩
    · subst hck
      subst hqk
      subst hc
      obtain ⟨c0, c1, c2, c3⟩ := hC.c4
      obtain ⟨f0, f1, f2, f3⟩ := hC.f4
      by_cases hkE : acc.length = NN
      · have hz0 : NN - acc.length = 0 := by omega
        have e := H.out.1
        rw [hz0] at e
        have HE := Lib.hid (show dl z mo be p = (acc, pk, 0, 0) from e)
        have hnl : ¬ (acc.length : Int) < (NN : Int) := by omega
        have hnd : decide ((acc.length : Int) < (NN : Int)) = false := by simp; omega
        have hnd2 : decide (acc.length < NN) = false := by simp; omega
        obtain ⟨r0, r1, r2, r3⟩ := hR.c4
        obtain ⟨g0, g1, g2, g3⟩ := hR.f4
        clear e hz0 hkE
        go_wp2
        refine bodyPost_ret (v := .tuple #[cv (.slice a n m) pk 0 qk, _]) (by simp [results, Try.results24, go_sem, r0, r1, r2, r3]; rfl) rfl ⟨_, acc, _, _, _, rfl, ?_, ?_, St.done HE.out k0 k1, H.out.2⟩
        · exact (set4_own ho (by omega) _ _ _ _).base (by omega)
        · exact set4_below hbd (by omega) _ _ _ _
      · have hlt : (acc.length : Int) < (NN : Int) := by omega
        have hN : NN - acc.length = (NN - (acc.length + 1)) + 1 := by omega
        have hlt2 : decide (acc.length < NN) = true := by simp; omega
        have HLT : Hid (acc.length + 1 ≤ NN) := Lib.hid (by omega)
        have HN := Lib.hid hN
        clear hkE hN
        go_wp2_with fail
        refine (rread_any _ _ _ _ _ _ _ _ (hz.below hbd) k0 k1 hm (by omega) HBY.out).mono ?_
        rintro e w3 ⟨x, p', c', q', rfl, hb3, hs3⟩
        have hst3 := hs3.st hz.1 k0 k1 HBY.out
        have hx := rd_lt hs3 hz.1 k0 k1 HBY.out
        have hmv : c' = 0 → pk + 1 ≤ p' := fun hc => by
          rcases rd_ways hs3 hz.1 k0 k1 HBY.out with ⟨_, _, _, _, _, h, _⟩ | ⟨h, _, hc2, _⟩
          · exact h
          · rw [hc] at hc2; exact absurd hc2.symm h
        obtain ⟨p0', p1'⟩ := hst3.place
        have HST := Lib.hid hst3
        have HMV := Lib.hid hmv
        have hC3 := hC.below hb3
        have hR3 := hR.below hb3
        have ho3 : OwnU w3 (D + 1) _ acc := own_below ho hb3
        have hbd3 := hbd.trans (hb3.mono hbd.size)
        have hn3 : D < w3.heap.size := hC3.lt
        clear hs3 hst3 hmv hC hR ho hbd hb3 c0 c1 c2 c3 f0 f1 f2 f3 hlt hlt2
        go_upto_region 7 with (fail)
        have hE := Blk.new w3 (cvs (.slice a n m) p' c' q') 49
        have hbX := below_one w3 (.cells (cvs (.slice a n m) p' c' q') 49)
        replace hC := hC3.below hbX
        replace hR := hR3.below hbX
        replace ho : OwnU _ (D + 1) _ acc := own_below ho3 hbX
        replace hbd := hbd3.trans (hbX.mono hbd3.size)
        clear hC3 hR3 ho3 hbd3 hbX
        generalize w3.alloc (.cells (cvs (.slice a n m) p' c' q') 49) = w4 at *
        generalize w3.heap.size = E at *
        obtain ⟨V, e4⟩ : ∃ V, IntKind.u64.wrap (bk - x) = V := ⟨_, rfl⟩
        obtain ⟨Y, e5⟩ : ∃ Y, IntKind.u64.wrap (V - 1) = Y := ⟨_, rfl⟩
        have HY : Hid (0 ≤ Y ∧ Y < 18446744073709551616) := Lib.hid (by rw [← e5, wrapu]; omega)
        have HLEN : Hid (acc.length + 1 ≤ 1000000) := Lib.hid (by omega)
        obtain ⟨c0, c1, c2, c3⟩ := hE.c4
        by_cases hc : c' = 0
        · have hcb : (c' == 0) = true := by simp [hc]
          by_cases hle : bk ≤ x
          · have d1 : decide (bk ≤ x) = true := by simpa using hle
            have hD1 := (hC.c4).2.1
            have HST2 : Hid (∀ c2 q2, FailSt c' q' 13 pk c2 q2 → St 0 n (db z bk pk) pk 0 qk 0 p' c2 q2 ∧ c2 ≠ 0) := Lib.hid fun c2 q2 hf => ⟨HST.out.tst (bad := fun x => bk ≤ x) (r := fun x => bk - x - 1) (by decide) (.inl ⟨hle, rfl, hf⟩), hf.nz (by decide)⟩
            clear hc hle
            go_wp2_with fail
            refine (rfail_any _ _ _ _ _ _ _ _ _).mono ?_
            rintro e w5 ⟨c5, q5, rfl, hb5, hf5⟩
            obtain ⟨hst5, hc5⟩ := HST2.out _ _ hf5
            have HST5 := Lib.hid hst5
            replace hE := hE.below hb5
            replace hC := hC.below hb5
            replace hR := hR.below hb5
            replace ho : OwnU _ (D + 1) _ acc := own_below ho hb5
            replace hbd := hbd.trans (hb5.mono hbd.size)
            obtain ⟨f0, f1, f2, f3⟩ := hE.f4
            clear hf5 hst5 hb5 hD1 c0 c1 c2 c3
            obtain ⟨c0, c1, c2, c3⟩ := hE.c4
            go_upto_region 9 with (fail)
            obtain ⟨hE2, hkE⟩ := set4 hE (.slice a n m) (.int .i64 p') (.int .i64 c5) (.int .i64 q5)
            replace hC := blk_kp hC hkE (by omega)
            replace hR := blk_kp hR hkE (by omega)
            have hneE := own_ne_blk ho hE (by decide)
            replace ho : OwnU _ (D + 1) _ acc := own_kp ho hkE hneE
            replace hbd := Kp.below hbd (Nat.le_refl _) hkE (by omega)
            clear hE hkE hneE f0 f1 f2 f3 c0 c1 c2 c3
            generalize ((((w5.setCell ⟨E, 0, none⟩ (.slice a n m)).setCell ⟨E, 1, none⟩ (.int .i64 p')).setCell ⟨E, 2, none⟩ (.int .i64 c5)).setCell ⟨E, 3, none⟩ (.int .i64 q5)) = w6 at *
            have hE := hE2
            clear hE2
            have hB9 : D + 1 ≤ (w6.alloc (.cells #[.int .u64 Y] 22)).heap.size := by have := hC.lt; simp; omega
            have hbA := below_one w6 (.cells #[.int .u64 Y] 22)
            have hoA := own_below ho hbA
            have hrwA := rw_new w6 (uv [Y]) 22
            have hCA := hC.below hbA
            have hRA := hR.below hbA
            have hEA := hE.below hbA
            have hbdA := hbd.trans (hbA.mono hbd.size)
            have hgeA := own_ge hoA
            have hneA := own_ne_blk hoA hEA (by decide)
            clear hC hR hE ho hbd hbA
            go_wp2_with (at_builtin; go_must (refine list_append_rw kindU rfl (.tmp 53) (.tmp 55) rfl (D + 1) _ _ _ rfl hoA _ 1 _ (uv [Y]) rfl rfl hrwA (by simp) (uv_one _) HLEN.out (by omega) hB9 ?_; intro v' w10 ho' hg' hgr; have hC10 := hCA.ks (Ks.of_grown (S := fun k => D + 1 ≤ k) hg' hgeA) (by omega); have hR10 := hRA.ks (Ks.of_grown (S := fun k => D + 1 ≤ k) hg' hgeA) (by omega); have hbd10 := hbdA.grown hg' (by omega) (fun k hk => by have := hgeA k hk; omega); have hE10 := (hg'.block E hEA.lt (fun e => hneA e.symm)).trans hEA; obtain ⟨x0, x1, x2, x3⟩ := Blk.c4 hE10; obtain ⟨f0, f1, f2, f3⟩ := hC10.f4; obtain ⟨y0, y1, y2, y3⟩ := Blk.c4 hC10; clear hrwA hoA hCA hRA hEA hbdA hgeA hneA))
            go_roundw
            case rel =>
              have hou : OwnU w10 (D + 1) v' (acc ++ [Y]) := by unfold OwnU; rw [List.length_append, uv, List.map_append]; exact ho'
              obtain ⟨wd, hwd, hCd, hRd, hod, hbdd⟩ := copied3 p' c5 q5 hC10 hR10 (by omega) hou (by omega) hbd10 (by omega)
              rw [hwd]
              refine ⟨p', c5, q5, Y, acc ++ [Y], rfl, ?_, by rw [List.length_append]; go_num, by rw [List.length_append]; exact HLT.out, hCd, hRd, hbdd, p0', p1', HY.out.1, HY.out.2, .inr ⟨hc5, by rw [List.length_append]; simp; omega, Lib.hid ?_⟩⟩
              · exact hod
              · have hb := St.bind (f := fun y p1 => dgo z (NN - (acc.length + 1)) p1 y (acc ++ [y])) HST5.out (St.stay (d := []) p0' p1' hc5)
                rw [H.out.1, HN.out, dgo_succ]
                exact hb
            case measure => simp [intOf]; have := HLT.out; omega
          · have d1 : decide (bk ≤ x) = false := by simpa using hle
            have hYe : Y = bk - x - 1 := by rw [← e5, ← e4, wrapu, wrapu]; omega
            have h1 := HST.out
            have h2 := HMV.out hc
            subst hc
            obtain ⟨_, g0, gv, gp, gq⟩ := h1.good
            subst gq
            have HG : Hid (dgo z (NN - acc.length) pk bk acc = dgo z (NN - (acc.length + 1)) p' Y (acc ++ [Y])) := Lib.hid (by
              rw [HN.out, dgo, Rs.bind_of (v := x) (p' := p') (by rw [gv, gp]; exact vg_shape g0), if_neg hle, hYe])
            have HLE := Lib.hid hle
            clear h1 g0 gv gp hYe hle
            have hB9 : D + 1 ≤ (w4.alloc (.cells #[.int .u64 Y] 22)).heap.size := by have := hC.lt; simp; omega
            have hbA := below_one w4 (.cells #[.int .u64 Y] 22)
            have hoA := own_below ho hbA
            have hrwA := rw_new w4 (uv [Y]) 22
            have hCA := hC.below hbA
            have hRA := hR.below hbA
            have hEA := hE.below hbA
            have hbdA := hbd.trans (hbA.mono hbd.size)
            have hgeA := own_ge hoA
            have hneA := own_ne_blk hoA hEA (by decide)
            clear hC hR hE ho hbd hbA
            go_wp2_with (at_builtin; go_must (refine list_append_rw kindU rfl (.tmp 53) (.tmp 55) rfl (D + 1) _ _ _ rfl hoA _ 1 _ (uv [Y]) rfl rfl hrwA (by simp) (uv_one _) HLEN.out (by omega) hB9 ?_; intro v' w10 ho' hg' hgr; have hC10 := hCA.ks (Ks.of_grown (S := fun k => D + 1 ≤ k) hg' hgeA) (by omega); have hR10 := hRA.ks (Ks.of_grown (S := fun k => D + 1 ≤ k) hg' hgeA) (by omega); have hbd10 := hbdA.grown hg' (by omega) (fun k hk => by have := hgeA k hk; omega); have hE10 := (hg'.block E hEA.lt (fun e => hneA e.symm)).trans hEA; obtain ⟨x0, x1, x2, x3⟩ := Blk.c4 hE10; obtain ⟨f0, f1, f2, f3⟩ := hC10.f4; obtain ⟨y0, y1, y2, y3⟩ := Blk.c4 hC10; clear hrwA hoA hCA hRA hEA hbdA hgeA hneA))
            go_roundw
            case rel =>
              have hou : OwnU w10 (D + 1) v' (acc ++ [Y]) := by unfold OwnU; rw [List.length_append, uv, List.map_append]; exact ho'
              obtain ⟨wd, hwd, hCd, hRd, hod, hbdd⟩ := copied3 p' 0 q' hC10 hR10 (by omega) hou (by omega) hbd10 (by omega)
              rw [hwd]
              refine ⟨p', 0, q', Y, acc ++ [Y], rfl, ?_, by rw [List.length_append]; go_num, by rw [List.length_append]; exact HLT.out, hCd, hRd, hbdd, p0', p1', HY.out.1, HY.out.2, .inl ⟨by rw [List.length_append]; simp; omega, rfl, rfl, rfl, Lib.hid ⟨?_, ?_⟩⟩⟩
              · exact hod
              · rw [H.out.1, HG.out, List.length_append]; rfl
              · intro t ht
                rcases List.mem_append.1 ht with ht | ht
                · exact H.out.2 t ht
                · simp at ht; subst ht; exact HY.out
            case measure => simp [intOf]; have := HLT.out; omega
        · have hcb : (c' == 0) = false := by simpa using hc
          have HCN := Lib.hid hc
          clear hc
          have hB9 : D + 1 ≤ (w4.alloc (.cells #[.int .u64 Y] 22)).heap.size := by have := hC.lt; simp; omega
          have hbA := below_one w4 (.cells #[.int .u64 Y] 22)
          have hoA := own_below ho hbA
          have hrwA := rw_new w4 (uv [Y]) 22
          have hCA := hC.below hbA
          have hRA := hR.below hbA
          have hEA := hE.below hbA
          have hbdA := hbd.trans (hbA.mono hbd.size)
          have hgeA := own_ge hoA
          have hneA := own_ne_blk hoA hEA (by decide)
          clear hC hR hE ho hbd hbA
          go_wp2_with (at_builtin; go_must (refine list_append_rw kindU rfl (.tmp 53) (.tmp 55) rfl (D + 1) _ _ _ rfl hoA _ 1 _ (uv [Y]) rfl rfl hrwA (by simp) (uv_one _) HLEN.out (by omega) hB9 ?_; intro v' w10 ho' hg' hgr; have hC10 := hCA.ks (Ks.of_grown (S := fun k => D + 1 ≤ k) hg' hgeA) (by omega); have hR10 := hRA.ks (Ks.of_grown (S := fun k => D + 1 ≤ k) hg' hgeA) (by omega); have hbd10 := hbdA.grown hg' (by omega) (fun k hk => by have := hgeA k hk; omega); have hE10 := (hg'.block E hEA.lt (fun e => hneA e.symm)).trans hEA; obtain ⟨x0, x1, x2, x3⟩ := Blk.c4 hE10; obtain ⟨f0, f1, f2, f3⟩ := hC10.f4; obtain ⟨y0, y1, y2, y3⟩ := Blk.c4 hC10; clear hrwA hoA hCA hRA hEA hbdA hgeA hneA))
          go_roundw
          case rel =>
            have hou : OwnU w10 (D + 1) v' (acc ++ [Y]) := by unfold OwnU; rw [List.length_append, uv, List.map_append]; exact ho'
            obtain ⟨wd, hwd, hCd, hRd, hod, hbdd⟩ := copied3 p' c' q' hC10 hR10 (by omega) hou (by omega) hbd10 (by omega)
            rw [hwd]
            refine ⟨p', c', q', Y, acc ++ [Y], rfl, ?_, by rw [List.length_append]; go_num, by rw [List.length_append]; exact HLT.out, hCd, hRd, hbdd, p0', p1', HY.out.1, HY.out.2, .inr ⟨HCN.out, by rw [List.length_append]; simp; omega, Lib.hid ?_⟩⟩
            · exact hod
            · have hb := St.bind (f := fun x p1 => if bk ≤ x then ([], 0, 13, pk) else dgo z (NN - (acc.length + 1)) p1 (bk - x - 1) (acc ++ [bk - x - 1])) HST.out (St.stay (d := []) p0' p1' HCN.out)
              rw [H.out.1, HN.out, dgo]
              exact hb
          case measure => simp [intOf]; have := HLT.out; omega
    · have hcb : (ck == 0) = false := by simpa using hck
      have hcb' : (ck != 0) = true := by simpa using hck
      clear hck
      by_cases hkE : acc.length < NN
      · have hlt2 : decide (acc.length < NN) = true := by simpa using hkE
        obtain ⟨c0, c1, c2, c3⟩ := hC.c4
        obtain ⟨r0, r1, r2, r3⟩ := hR.c4
        obtain ⟨g0, g1, g2, g3⟩ := hR.f4
        go_wp2
        refine bodyPost_ret (v := .tuple #[cv (.slice a n m) pk ck qk, .slice none 0 0]) (by simp [results, Try.results24, go_sem, r0, r1, r2, r3]) rfl ⟨_, [], _, _, _, rfl, OwnU.nil _ _, ?_, H.out, by simp⟩
        exact set4_below hbd (by omega) _ _ _ _
      · have hlt2 : decide (acc.length < NN) = false := by simpa using hkE
        obtain ⟨c0, c1, c2, c3⟩ := hC.c4
        obtain ⟨r0, r1, r2, r3⟩ := hR.c4
        obtain ⟨g0, g1, g2, g3⟩ := hR.f4
        go_wp2
        refine bodyPost_ret (v := .tuple #[cv (.slice a n m) pk ck qk, .slice none 0 0]) (by simp [results, Try.results24, go_sem, r0, r1, r2, r3]) rfl ⟨_, [], _, _, _, rfl, OwnU.nil _ _, ?_, H.out, by simp⟩
        exact set4_below hbd (by omega) _ _ _ _
end Go.Proofs.Ytjcoabgcacaceaa.Cur
