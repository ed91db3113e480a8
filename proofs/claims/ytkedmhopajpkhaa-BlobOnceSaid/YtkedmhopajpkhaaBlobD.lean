/- Lists: the document's reader. -/
import Derived.Test.YtkedmhopajpkhaaBlobC
import Derived.Deep.Cut
import Derived.Deep.LoopGhost
namespace Go.Proofs.Ytkedmhopajpkhaa.Cur
open Go.RowKit Mem
set_option linter.unusedVariables false

theorem copied2 {w wr : World} {D R B : Nat} {v : Value} {acc : List Int} {s : Value} {p c q : Int} (p' c' q' : Int) {a' : Array Value}
    (hC : Blk wr D (cvs s p c q) 43) (hR : Blk wr R a' 43) (hne : R ≠ D) (ho : OwnU wr B v acc) (hB : D < B) (hb : Below w.heap.size w wr) (hD : w.heap.size ≤ D) :
    ∃ w1, (((((wr.setCell ⟨D, 0, none⟩ s).setCell ⟨D, 1, none⟩ (.int .i64 p')).setCell ⟨D, 2, none⟩ (.int .i64 c')).setCell ⟨D, 3, none⟩ (.int .i64 q'))).alloc (.cells #[s, .int .i64 p', .int .i64 c', .int .i64 q'] 43) = w1 ∧
    Blk w1 D (cvs s p' c' q') 43 ∧ Blk w1 R a' 43 ∧ OwnU w1 B v acc ∧ Below w.heap.size w w1 := by
  obtain ⟨h1, h2⟩ := set4 hC s (.int .i64 p') (.int .i64 c') (.int .i64 q')
  have h3 := Kp.below hb (Nat.le_refl _) h2 hD
  exact ⟨_, rfl, h1.alloc _, (blk_kp hR h2 hne).alloc _, own_below (own_kp ho h2 (fun e => by have := own_ge ho _ e; omega)) (below_one _ _), h3.alloc h3.size _⟩

def LS2 (a : Option Addr) (n m : Nat) (z : List Int) (mo p c q : Int) (NN : Nat) (w : World) (D : Nat) (gk : Nat) (v i : Value) (wr : World) : Prop :=
  ∃ (pk ck qk : Int) (acc : List Int), OwnU wr (D + 1) v acc ∧ i = .int .i64 acc.length ∧ Blk wr D (cvs (.slice a n m) pk ck qk) 43 ∧ Blk wr (w.heap.size + 1) (cvs (.slice none 0 0) 0 0 0) 43 ∧ Below w.heap.size w wr ∧ 0 ≤ pk ∧ pk ≤ n ∧
    ((gk = (n - pk).toNat + 1 ∧ (acc.length : Int) + (n - pk) ≤ n + 1 ∧ ck = 0 ∧ qk = q ∧ c = 0 ∧ Hid (acc.length ≤ NN ∧ rl z mo p = lgo z (NN - acc.length) pk acc ∧ ∀ x ∈ acc, 0 ≤ x ∧ x < 18446744073709551616)) ∨
     (ck ≠ 0 ∧ acc.length ≤ 200000 ∧ Hid (St [] n (rl z mo p) p c q [] pk ck qk)))
def RRLPost (s : Value) (n : Nat) (g : Rs (List Int)) (p c q : Int) (w : World) (e : Ending) (w' : World) : Prop :=
  ∃ v l p' c' q', e = .returned (.tuple #[cv s p' c' q', v]) ∧ OwnU w' w.heap.size v l ∧ Below w.heap.size w w' ∧ St [] n g p c q l p' c' q' ∧ ∀ x ∈ l, 0 ≤ x ∧ x < 18446744073709551616


set_option maxRecDepth 100000 in
set_option maxHeartbeats 2000000 in
theorem rreadlist_any (a : Option Addr) (n m : Nat) (z : List Int) (p c q mo : Int) (w : World) (hz : Bs w a n z) (h0 : 0 ≤ p) (h1 : p ≤ n) (hm : n ≤ m) (hn : n ≤ 100000) (hby : ∀ x ∈ z, 0 ≤ x ∧ x < 256) (hmo : mo ≤ 9223372036854775807) :
    Calls Try.prog 19 #[cv (.slice a n m) p c q, .int .i64 mo] w (RRLPost (.slice a n m) n (rl z mo p) p c q w) := by
  have HBY := Lib.hid hby
  clear hby
  go_enter Try.func19, Try.ntmps19
  go_wp2_with fail
  refine (rint_any _ _ _ _ _ _ _ _ _ (hz.below (below_two _ _ _)) h0 h1 hm (by omega) HBY.out hmo).mono ?_
  rintro e w1 ⟨N, p1, c1, q1, rfl, hb1, hs1⟩
  obtain ⟨hC0, hR0, hbd0⟩ := two_new hb1
  have hst := hs1.st hz.1 h0 h1 HBY.out
  obtain ⟨p10, p11⟩ := hst.place
  obtain ⟨n0, _⟩ := vm_bd hst HBY.out
  have HS := Lib.hid hst
  obtain ⟨NN, rfl⟩ := Int.eq_ofNat_of_zero_le n0
  have hbd := hbd0.alloc hbd0.size (.cells (cvs (.slice a n m) p1 c1 q1) 43)
  have hR := hR0.alloc (.cells (cvs (.slice a n m) p1 c1 q1) 43)
  have hD := Blk.new w1 (cvs (.slice a n m) p1 c1 q1) 43
  have hlt1 : w.heap.size + 1 < w1.heap.size := hR0.lt
  clear hb1 hC0 hR0 hbd0 hs1 hst
  go_wp2
  generalize w1.alloc (.cells (cvs (.slice a n m) p1 c1 q1) 43) = w2 at *
  generalize w1.heap.size = D at *
  go_loopg [8, 9] ((n - p1).toNat + 1) (fun gk v i wr => LS2 a n m z mo p c q NN w D gk v i wr)
  case atStart =>
    by_cases hc1 : c1 = 0
    · have hg := HS.out
      rw [hc1] at hg
      obtain ⟨hc, g0, gv, gp, gq⟩ := hg.good
      subst hc1
      subst hc
      rw [gq] at hD
      refine ⟨p1, 0, q, [], OwnU.nil _ _, rfl, hD, hR, hbd, p10, p11, .inl ⟨rfl, by simp; omega, rfl, rfl, rfl, Lib.hid ⟨by simp, ?_, by simp⟩⟩⟩
      have := vm_shape g0
      unfold rl
      rw [Rs.bind_of (v := (NN : Int)) (p' := p1) (by rw [gv, gp]; exact this), Int.toNat_natCast]
      rfl
    · have hb := St.bind (f := fun x p1 => lgo z x.toNat p1 []) HS.out (St.stay (d := []) p10 p11 hc1)
      exact ⟨p1, c1, q1, [], OwnU.nil _ _, rfl, hD, hR, hbd, p10, p11, .inr ⟨hc1, by simp, Lib.hid hb⟩⟩
  case round =>
    obtain ⟨pk, ck, qk, acc, ho, rfl, hC, hR, hbd, k0, k1, hst⟩ := hrel
    clear hD
    rcases hst with ⟨hg, hal, hck, hqk, hc, H⟩ | ⟨hck, hal, H⟩
    · subst hck
      subst hqk
      subst hc
      obtain ⟨c0, c1, c2, c3⟩ := hC.c4
      obtain ⟨f0, f1, f2, f3⟩ := hC.f4
      by_cases hkN : acc.length = NN
      · have hz0 : NN - acc.length = 0 := by omega
        have e := H.out.2.1
        rw [hz0] at e
        have HE := Lib.hid (show rl z mo p = (acc, pk, 0, 0) from e)
        have hnl : ¬ (acc.length : Int) < (NN : Int) := by omega
        have hnd : decide ((acc.length : Int) < (NN : Int)) = false := by simp; omega
        have hnd2 : decide (acc.length < NN) = false := by simp; omega
        obtain ⟨r0, r1, r2, r3⟩ := hR.c4
        obtain ⟨g0, g1, g2, g3⟩ := hR.f4
        clear e hz0 hkN
        go_wp2
        refine bodyPost_ret (v := .tuple #[cv (.slice a n m) pk 0 qk, _]) (by simp [results, Try.results19, go_sem, r0, r1, r2, r3]; rfl) rfl ⟨_, acc, _, _, _, rfl, ?_, ?_, St.done HE.out k0 k1, H.out.2.2⟩
        · exact (set4_own ho (by omega) _ _ _ _).base (by omega)
        · exact set4_below hbd (by omega) _ _ _ _
      · have hlt : (acc.length : Int) < (NN : Int) := by have := H.out.1; omega
        have hN : NN - acc.length = (NN - (acc.length + 1)) + 1 := by have := H.out.1; omega
        have hlt2 : decide (acc.length < NN) = true := by simp; omega
        have HLT : Hid (acc.length + 1 ≤ NN) := Lib.hid (by have := H.out.1; omega)
        have HN := Lib.hid hN
        clear hkN hN
        go_wp2_with fail
        refine (rread_any _ _ _ _ _ _ _ _ (hz.below hbd) k0 k1 hm (by omega) HBY.out).mono ?_
        rintro e w3 ⟨x, p', c', q', rfl, hb3, hs3⟩
        have hst3 := hs3.st hz.1 k0 k1 HBY.out
        have hx := rd_lt hs3 hz.1 k0 k1 HBY.out
        have hmv : c' = 0 → pk + 1 ≤ p' := fun hc => by
          rcases rd_ways hs3 hz.1 k0 k1 HBY.out with ⟨_, _, _, _, _, h, _⟩ | ⟨h, _, hc2, _⟩
          · exact h
          · rw [hc] at hc2; exact absurd hc2.symm h
        obtain ⟨p0', p1'⟩ := hst3.place
        have HST := Lib.hid hst3
        have HMV := Lib.hid hmv
        have hC3 := hC.below hb3
        have hR3 := hR.below hb3
        have ho3 : OwnU w3 (D + 1) _ acc := own_below ho hb3
        have hbd3 := hbd.trans (hb3.mono hbd.size)
        have hn3 : D < w3.heap.size := hC3.lt
        clear hs3 hst3 hmv hC hR ho hbd hb3 c0 c1 c2 c3 f0 f1 f2 f3 hlt hlt2
        obtain ⟨c0, c1, c2, c3⟩ := hC3.c4
        obtain ⟨f0, f1, f2, f3⟩ := hC3.f4
        go_upto_region 8 with (fail)
        obtain ⟨wd, hwd, hC, hR, ho, hbd⟩ := copied2 p' c' q' hC3 hR3 (by omega) ho3 (by omega) hbd3 (by omega)
        rw [hwd]
        clear hwd hC3 hR3 ho3 hbd3 c0 c1 c2 c3 f0 f1 f2 f3
        have hB9 : D + 1 ≤ (wd.alloc (.cells #[.int .u64 x] 48)).heap.size := by have := hC.lt; simp; omega
        have hbA := below_one wd (.cells #[.int .u64 x] 48)
        have hoA := own_below ho hbA
        have hrwA := rw_new wd (uv [x]) 48
        have hCA := hC.below hbA
        have hRA := hR.below hbA
        have hbdA := hbd.trans (hbA.mono hbd.size)
        have hgeA := own_ge hoA
        have HLEN : Hid (acc.length + 1 ≤ 1000000) := Lib.hid (by omega)
        clear hC hR ho hbd hbA
        go_wp2_with (at_builtin; go_must (refine list_append_rw kindU rfl (.tmp 35) (.tmp 37) rfl (D + 1) _ _ _ rfl hoA _ 1 _ (uv [x]) rfl rfl hrwA (by simp) (uv_one _) HLEN.out (by omega) hB9 ?_; intro v' w10 ho' hg' hgr; have hC10 := hCA.ks (Ks.of_grown (S := fun k => D + 1 ≤ k) hg' hgeA) (by omega); have hR10 := hRA.ks (Ks.of_grown (S := fun k => D + 1 ≤ k) hg' hgeA) (by omega); have hbd10 := hbdA.grown hg' (by omega) (fun k hk => by have := hgeA k hk; omega); clear hrwA hoA hCA hRA hbdA hgeA))
        by_cases hc : c' = 0
        · have h1 := HST.out
          have h2 := HMV.out hc
          subst hc
          obtain ⟨_, g0, gv, gp, gq⟩ := h1.good
          subst gq
          go_roundg ((n - p').toNat + 1)
          case measure => omega
          case rel =>
            refine ⟨p', 0, _, acc ++ [x], ?_, by rw [List.length_append]; go_num, hC10, hR10, hbd10, p0', p1', .inl ⟨rfl, by rw [List.length_append]; simp; omega, rfl, rfl, rfl, Lib.hid ⟨by rw [List.length_append]; exact HLT.out, ?_, ?_⟩⟩⟩
            · unfold OwnU; rw [List.length_append, uv, List.map_append]; exact ho'
            · rw [H.out.2.1, HN.out, lgo, Rs.bind_of (v := x) (p' := p') (by rw [gv, gp]; exact vg_shape g0), List.length_append]; rfl
            · intro t ht
              rcases List.mem_append.1 ht with ht | ht
              · exact H.out.2.2 t ht
              · simp at ht; subst ht; exact hx
        · go_roundg 0
          case measure => omega
          case rel =>
            refine ⟨p', c', q', acc ++ [x], ?_, by rw [List.length_append]; go_num, hC10, hR10, hbd10, p0', p1', .inr ⟨hc, by rw [List.length_append]; simp; omega, Lib.hid ?_⟩⟩
            · unfold OwnU; rw [List.length_append, uv, List.map_append]; exact ho'
            · have hb := St.bind (f := fun x p1 => lgo z (NN - (acc.length + 1)) p1 (acc ++ [x])) HST.out (St.stay (d := []) p0' p1' hc)
              rw [H.out.2.1, HN.out, lgo]
              exact hb
    · have hcb : (ck == 0) = false := by simpa using hck
      have hcb' : (ck != 0) = true := by simpa using hck
      clear hck
      by_cases hkN : acc.length < NN
      · have hlt2 : decide (acc.length < NN) = true := by simpa using hkN
        obtain ⟨c0, c1, c2, c3⟩ := hC.c4
        obtain ⟨r0, r1, r2, r3⟩ := hR.c4
        obtain ⟨g0, g1, g2, g3⟩ := hR.f4
        go_wp2
        refine bodyPost_ret (v := .tuple #[cv (.slice a n m) pk ck qk, .slice none 0 0]) (by simp [results, Try.results19, go_sem, r0, r1, r2, r3]) rfl ⟨_, [], _, _, _, rfl, OwnU.nil _ _, ?_, H.out, by simp⟩
        exact set4_below hbd (by omega) _ _ _ _
      · have hlt2 : decide (acc.length < NN) = false := by simpa using hkN
        obtain ⟨c0, c1, c2, c3⟩ := hC.c4
        obtain ⟨r0, r1, r2, r3⟩ := hR.c4
        obtain ⟨g0, g1, g2, g3⟩ := hR.f4
        go_wp2
        refine bodyPost_ret (v := .tuple #[cv (.slice a n m) pk ck qk, .slice none 0 0]) (by simp [results, Try.results19, go_sem, r0, r1, r2, r3]) rfl ⟨_, [], _, _, _, rfl, OwnU.nil _ _, ?_, H.out, by simp⟩
        exact set4_below hbd (by omega) _ _ _ _
end Go.Proofs.Ytkedmhopajpkhaa.Cur
