/- As the seat's text, without what nothing here names. -/
import Derived.Test.YtlealkfkddhnnaaGreatBtcBv
import Derived.Test.YtlealkfkddhnnaaGreatK18v
namespace Go.Proofs.YtlealkfkddhnnaaGreat.Cur
open Go.RowKit Mem
set_option linter.unusedVariables false
set_option maxRecDepth 100000
def bhis (e b : Int) (L : List En) : Nat → List (List Int)
  | 0 => [vz e, vz b, vz L.length]
  | k + 1 => bhis e b L k ++ (lkis (b + k) (L.getD k en0).1 (L.getD k en0).1.length ++ [vz (L.getD k en0).2.length])
def btis (e b : Int) (L : List En) : List (List Int) := bhis e b L L.length ++ bki (jn L)
theorem hhz_snoc : ∀ (H : List Hd) (b : Int) (h : Hd), hhz b (H ++ [h]) = hhz b H ++ (lkz (b + H.length) h.1 ++ vz h.2)
  | [], b, h => by simp [hhz]
  | x :: H, b, h => by
    show (lkz b x.1 ++ vz x.2) ++ hhz (b + 1) (H ++ [h]) = (lkz b x.1 ++ vz x.2) ++ hhz (b + 1) H ++ _
    rw [hhz_snoc H (b + 1) h, List.append_assoc, List.length_cons]
    rw [show b + 1 + (H.length : Int) = b + ((H.length + 1 : Nat) : Int) by omega]
    simp only [List.append_assoc]
theorem bhis_flat (e b : Int) (L : List En) : ∀ k, k ≤ L.length → (bhis e b L k).flatten = vz e ++ (vz b ++ (vz L.length ++ hhz b (hds (L.take k))))
  | 0, _ => by simp [bhis, hds, hhz]
  | k + 1, h => by
    rw [bhis, List.flatten_append, bhis_flat e b L k (by omega), List.flatten_append, lkis_end]
    have hk : k < L.length := by omega
    have h1 : hds (L.take (k + 1)) = hds (L.take k) ++ [((L.getD k en0).1, ((L.getD k en0).2.length : Int))] := by
      unfold hds
      rw [List.take_succ_eq_append_getElem hk, List.map_append, List.getD_eq_getElem?_getD, List.getElem?_eq_getElem hk]
      rfl
    have h2 : (hds (L.take k)).length = k := by rw [hds_length, List.length_take]; omega
    rw [h1, hhz_snoc, h2]
    simp
theorem bhis_end (e b : Int) (L : List En) : (bhis e b L L.length).flatten = bthz (e, b, L) := by
  rw [bhis_flat e b L _ (Nat.le_refl _), List.take_length]; rfl
theorem bhis_len {e b : Int} {L : List En} (h : enall b L = true) : ∀ k, k ≤ L.length → (bhis e b L k).flatten.length ≤ 30 + 980 * k
  | 0, _ => by
    have h1 := vsz_le e
    have h2 := vsz_le b
    have h3 := vsz_le (L.length : Int)
    simp [bhis, vz_length]
    omega
  | k + 1, hk => by
    have ih := bhis_len (e := e) h k (by omega)
    have h1 := enall_at h k (by omega)
    have hok : lkok (b + k) (L.getD k en0).1 = true := by unfold enok at h1; simp only [Bool.and_eq_true] at h1; exact h1.2
    have h2 := lkz_len hok
    have h3 := vsz_le ((L.getD k en0).2.length : Int)
    rw [bhis, List.flatten_append, List.length_append, List.flatten_append, List.length_append, lkis_end]
    simp only [List.flatten_cons, List.flatten_nil, List.append_nil, vz_length]
    omega
theorem btk_parts {B : Bt} (h : btk B = true) : epk B.1 = true ∧ psk B.2.1 = true ∧ fitn B.2.1 B.2.2.length = true ∧ (jn B.2.2).length ≤ 1048576 ∧ enall B.2.1 B.2.2 = true := by
  unfold btk at h
  simp only [Bool.and_eq_true, decide_eq_true_eq] at h
  exact ⟨h.1.1.1.1, h.1.1.1.2, h.1.1.2, h.1.2, h.2⟩
theorem Ens.ks_cells {S0 : Nat → Prop} {w : World} {P : Nat → Prop} {g o n : Nat} {L : List En} (h : Ens w P (some ⟨g, o, none⟩) n L) (hoff : ∀ b, P b → b < w.heap.size → ¬ S0 b) {k : Nat} (hk : k < n) :
    ∃ K D a l m b r j, L.getD k en0 = (K, D) ∧ D.length = r ∧ ∀ w', Ks S0 w w' → w'.cell? ⟨g, o + k * 2, none⟩ = some (.slice a l m) ∧ w'.cell? ⟨g, o + k * 2 + 1, none⟩ = some (.slice b r j) ∧ Lks w' (fun b => P b ∧ b < w.heap.size) a l K := by
  obtain ⟨g', o', e, hP, hg, hc⟩ := h.cells (by omega)
  injection e with e
  injection e with e1 e2
  subst e1 e2
  obtain ⟨K, D, a, l, m, b, r, j, he, hlm, hnl, hks, hrk, hnb, hbs, hbb, hsq, hcell⟩ := hc k hk
  refine ⟨K, D, a, l, m, b, r, j, he, hbs.1, fun w' hk' => ⟨?_, ?_, ?_⟩⟩
  · have hcl : ∀ x, w'.cell? ⟨g, x, none⟩ = w.cell? ⟨g, x, none⟩ := fun x => World.cell?_of_block (hk'.block g hg (hoff g hP hg))
    exact (hcl _).trans (hcell w (Below.refl _ _)).1
  · have hcl : ∀ x, w'.cell? ⟨g, x, none⟩ = w.cell? ⟨g, x, none⟩ := fun x => World.cell?_of_block (hk'.block g hg (hoff g hP hg))
    exact (hcl _).trans (hcell w (Below.refl _ _)).2
  · exact (hks.mono fun b' h1 h2 => ⟨h1, h2⟩).keep fun b' hb' hl' => hk'.block b' hl' (hoff b' hb'.1 hl')
theorem ws_gr {w : World} {b : Nat} {r r' : Option Nat} {x : Nat} (h : ¬ WS b r x) (hx : x < w.heap.size) (hg : Gr r r' w) : ¬ WS b r' x := fun hs => by
  rcases hs with e | e
  · exact h (.inl e)
  · rcases hg with e2 | ⟨g', e2, hg'⟩
    · exact h (.inr (by rw [← e2]; exact e))
    · rw [e2] at e; injection e with e; omega
theorem bput_no {w : World} {B0 wb : Nat} {r0 : Option Nat} {y : List Int} {M c : Int} (P : Nat → Prop) (e b : Int) (A : Option Addr) (n m : Nat) (L : List En) (h : Wr w B0 wb r0 y M c) (hz : Ens w P A n L) (hn : n ≤ 1000000) (hs : esm L) (b0 : 0 ≤ b) (b1 : b < 18446744073709551616) (hok : btk (e, b, L) = false) :
    Calls Tryz.prog 11 #[.pointer (some ⟨wb, 0, none⟩), btagg e b A n m] w (WFailPost B0 wb r0 y M c 3 w) := by
  have hX := Blk.new w (btenc e b A n m) 25
  have hb := below_one w (.cells (btenc e b A n m) 25)
  have HX := Lib.hid hX
  obtain ⟨x0, x1, x2⟩ := hX.c3
  clear hX
  have hrc := bright_any P e b A n m L _ (hz.below hb) hn hs b0 b1
  rw [hok] at hrc
  unfold BPost at hrc
  have h1 := h.below hb
  clear hz hok h hs
  go_enter Tryz.func11, Tryz.ntmps11
  go_wp2_with fail
  refine hrc.mono ?_
  rintro en w1 ⟨rfl, hb1⟩
  have h2 := h1.below hb1
  have hbd1 := hb.trans (hb1.mono hb.size)
  clear hrc hb1 h1 x0 x1 x2 hb
  go_wp2_with fail
  refine (wfail_any 3 h2).mono ?_
  rintro en w' ⟨rfl, hk, hw⟩
  have HW := Lib.hid hw
  clear hw
  go_wp2
  go_end0
  exact ⟨rfl, (Ks.of_below hbd1).trans hk, HW.out⟩
set_option maxHeartbeats 8000000 in
theorem bput_yes {w : World} {B0 wb : Nat} {r0 : Option Nat} {y : List Int} {M c : Int} (P : Nat → Prop) (e b : Int) (A : Option Addr) (n m : Nat) (L : List En) (h : Wr w B0 wb r0 y M c) (hz : Ens w P A n L) (hs : esm L) (e0 : 0 ≤ e) (e9 : e < 18446744073709551616) (b0 : 0 ≤ b) (b1 : b < 18446744073709551616) (hok : btk (e, b, L) = true)
    (hoff : ∀ b', P b' → b' < w.heap.size → ¬ WS wb r0 b') (hy : y.length ≤ 50000) (hBw : B0 ≤ w.heap.size) (hjl : (jn L).length ≤ 10000) :
    Calls Tryz.prog 11 #[.pointer (some ⟨wb, 0, none⟩), btagg e b A n m] w (WPutsPost B0 wb r0 y (btis e b L) M c w) := by
  have hX := Blk.new w (btenc e b A n m) 25
  have hb := below_one w (.cells (btenc e b A n m) 25)
  have HX := Lib.hid hX
  obtain ⟨x0, x1, x2⟩ := hX.c3
  clear hX
  obtain ⟨k1, k2, k3, k4, k5⟩ := btk_parts hok
  dsimp only at k1 k2 k3 k4 k5
  rw [hz.1] at k3
  obtain ⟨f1, f2, f3⟩ := fitn_bd k3
  have hrc := bright_any P e b A n m L _ (hz.below hb) (by omega) hs b0 b1
  rw [hok] at hrc
  unfold BPost at hrc
  have hl := hz.1
  have HOK := Lib.hid (fun k (hk : k < L.length) => enall_at k5 k hk)
  have HLE := Lib.hid (fun k (hk : k ≤ L.length) => bhis_len (e := e) k5 k hk)
  have H0 : Hid (bhis e b L 0 = [vz e, vz b, vz n]) := Lib.hid (by rw [bhis, hl])
  have HSU : Hid (∀ k, bhis e b L (k + 1) = bhis e b L k ++ (lkis (b + k) (L.getD k en0).1 (L.getD k en0).1.length ++ [vz (L.getD k en0).2.length])) := Lib.hid (fun k => by rw [bhis])
  have HFI : Hid (btis e b L = bhis e b L n ++ bki (jn L)) := Lib.hid (by unfold btis; rw [hl])
  have HJ : Hid (jn L = jk L n) := Lib.hid (jn_of_jk hl)
  have HJB : Hid (∀ x ∈ jn L, 0 ≤ x ∧ x < 256) := Lib.hid (by
    intro x hx
    unfold jn at hx
    obtain ⟨l, hl2, hx⟩ := List.mem_flatten.1 hx
    obtain ⟨en, hen, rfl⟩ := List.mem_map.1 hl2
    exact (hz.bds en hen).2 x hx)
  have HL := Lib.hid hl
  have HZ := Lib.hid hz
  have HSM := Lib.hid hs
  have HOFF := Lib.hid hoff
  have HE := Lib.hid k1
  have HP := Lib.hid k2
  have HJL := Lib.hid hjl
  have e2 : IntKind.u64.wrap (n : Int) = n := IntWalk.u64_in _ (by omega)
  have hn0 : (0 : Int) ≤ n := by omega
  have hn1 : (n : Int) < 18446744073709551616 := by omega
  have hks0 : Ks (WS wb r0) w (w.alloc (.cells (btenc e b A n m) 25)) := Ks.of_below hb
  have h1 := h.below hb
  have hXo : ¬ WS wb r0 w.heap.size := h.off (Nat.le_refl _)
  have hXl : w.heap.size < (w.alloc (.cells (btenc e b A n m) 25)).heap.size := HX.out.lt
  have HE0 := Lib.hid (And.intro e0 e9)
  generalize btis e b L = FI at *
  generalize bhis e b L = sk at *
  clear hz hok hoff k1 k2 k3 k4 k5 h hb hs hl hjl
  go_enter Tryz.func11, Tryz.ntmps11
  go_wp2_with fail
  refine hrc.mono ?_
  rintro en w1 ⟨rfl, hb1⟩
  have hX := HX.out.below hb1
  have hks1 := hks0.trans (Ks.of_below hb1)
  replace h1 := h1.below hb1
  have hXl1 : w.heap.size < w1.heap.size := Nat.lt_of_lt_of_le hXl hb1.size
  have hB1 := Nat.le_trans hBw hks1.size
  clear hrc hb1 hks0 x0 x1 x2 HX hXl
  obtain ⟨x0, x1, x2⟩ := hX.c3
  go_wp2_with fail
  refine (eput_any e h1 HE0.out.1 HE0.out.2 (by omega) hB1).mono ?_
  rintro en w2 (⟨_, r2, rfl, hk2, hg2, hw2⟩ | ⟨hf, _⟩)
  case inr => exact absurd hf (by rw [HE.out]; simp)
  replace hX := hX.ks hk2 hXo
  have hks2 := Ks.wr hks1 (Gr.refl _ _) hk2
  have hgr2 : Gr r0 r2 w := (Gr.refl _ _).trans hg2 hks1.size
  have hXo2 : ¬ WS wb r2 w.heap.size := ws_gr hXo hXl1 hg2
  have hXl2 : w.heap.size < w2.heap.size := Nat.lt_of_lt_of_le hXl1 hk2.size
  have hB2 := Nat.le_trans hBw hks2.size
  have hp2 := putZ_le y (vz e) M c
  have v2 := vsz_le e
  rw [vz_length] at hp2
  clear hk2 hg2 h1 hks1 hXl1 x0 x1 x2
  obtain ⟨x0, x1, x2⟩ := hX.c3
  go_wp2_with fail
  refine (eputpos_any b hw2 b0 b1 (by omega) hB2).mono ?_
  rintro en w3 (⟨_, r3, rfl, hk3, hg3, hw3⟩ | ⟨hf, _⟩)
  case inr => exact absurd hf (by rw [HP.out]; simp)
  replace hX := hX.ks hk3 hXo2
  have hks3 := Ks.wr hks2 hgr2 hk3
  have hgr3 := hgr2.trans hg3 hks2.size
  have hXo3 : ¬ WS wb r3 w.heap.size := ws_gr hXo2 hXl2 hg3
  have hXl3 : w.heap.size < w3.heap.size := Nat.lt_of_lt_of_le hXl2 hk3.size
  have hB3 := Nat.le_trans hBw hks3.size
  have hp3 := putZ_le (putZ y (vz e) M c) (vz b) M (putC y (vz e) M c)
  have v3 := vsz_le b
  rw [vz_length] at hp3
  clear hk3 hg3 hw2 hks2 hgr2 hXl2 x0 x1 x2
  obtain ⟨x0, x1, x2⟩ := hX.c3
  go_wp2_with fail
  refine (vput_any _ hw3 hn0 hn1 (by omega) hB3).mono ?_
  rintro en w4 ⟨r4, rfl, hk4, hg4, hw4⟩
  replace hX := hX.ks hk4 hXo3
  have hks4 := Ks.wr hks3 hgr3 hk4
  have hgr4 := hgr3.trans hg4 hks3.size
  have hXo4 : ¬ WS wb r4 w.heap.size := ws_gr hXo3 hXl3 hg4
  have hXl4 : w.heap.size < w4.heap.size := Nat.lt_of_lt_of_le hXl3 hk4.size
  have H4 : Hid (Wr w4 B0 wb r4 (puts (sk 0) y M c).1 M (puts (sk 0) y M c).2) := Lib.hid (by rw [H0.out]; exact hw4)
  clear hk4 hg4 hw3 hks3 hgr3 hXl3 x0 x1 x2 hw4 hp2 hp3 v2 v3 e2 hn0 hn1
  obtain ⟨x0, x1, x2⟩ := hX.c3
  go_wp2
  clear x0 x1 x2
  go_loopw [28] (fun i wr => ∃ (k : Nat) (r' : Option Nat), k ≤ n ∧ i = .int .i64 k ∧ Ks (WS wb r0) w wr ∧ Gr r0 r' w ∧ Hid (Wr wr B0 wb r' (puts (sk k) y M c).1 M (puts (sk k) y M c).2) ∧ Hid (Blk wr w.heap.size (btenc e b A n m) 25) ∧ ¬ WS wb r' w.heap.size ∧ w.heap.size < wr.heap.size) (fun i _ => n - (intOf i).toNat)
  case atStart => exact ⟨0, r4, by omega, rfl, hks4, hgr4, H4, Lib.hid hX, hXo4, hXl4⟩
  case round =>
    clear hX hks4 hgr4 H4 hXo4 hXl4
    obtain ⟨k, r', hk, rfl, hks, hgr, HW, HXk, hXo', hXl'⟩ := hrel
    by_cases hlt : k < n
    · obtain ⟨g, o, rfl, hPg, hg, _⟩ := HZ.out.cells (by omega)
      obtain ⟨K, D, a1, l1, m1, b1', r1, j1, he, hD, hcell⟩ := HZ.out.ks_cells (S0 := WS wb r0) HOFF.out hlt
      obtain ⟨c0, c1, hlk⟩ := hcell wr hks
      have hkL : k < L.length := by rw [HL.out]; exact hlt
      have ho := HOK.out k hkL
      have hle := HLE.out k (by omega)
      have hpl := puts_le (sk k) y M c
      have hsu := HSU.out k
      rw [he] at ho hsu
      replace ho : enok (b + k) K D.length = true := ho
      replace hsu : sk (k + 1) = sk k ++ (lkis (b + k) K K.length ++ [vz (D.length : Int)]) := hsu
      rw [hD] at ho hsu
      rw [hlk.1] at hsu
      have HO := Lib.hid ho
      have HSN := Lib.hid hsu
      have hX2 := Blk.new wr (enc' a1 l1 m1 b1' r1 j1) 62
      have hbX := below_one wr (.cells (enc' a1 l1 m1 b1' r1 j1) 62)
      have hXb := HXk.out.below hbX
      have hwX := HW.out.below hbX
      have hksX := hks.trans (Ks.of_below hbX)
      have hBX := Nat.le_trans hBw hksX.size
      have hlkX := hlk.below hbX
      obtain ⟨y0, y1⟩ := hX2.c2
      obtain ⟨x0, x1, x2⟩ := hXb.c3
      have ek : (k : Int) < n := by omega
      have e3 : IntKind.i64.wrap ((k : Int) + 1) = ((k + 1 : Nat) : Int) := IntWalk.i64_in _ (by omega)
      have e4 : IntKind.u64.wrap (k : Int) = k := IntWalk.u64_in _ (by omega)
      have e5 : IntKind.u64.wrap (b + k) = b + k := IntWalk.u64_in _ (by omega)
      have hXl2 : w.heap.size < (wr.alloc (.cells (enc' a1 l1 m1 b1' r1 j1) 62)).heap.size := Nat.lt_of_lt_of_le hXl' hbX.size
      have hpl2 : (puts (sk k) y M c).1.length ≤ 500000 := by omega
      have hcon := puthead_yes (fun b' => P b' ∧ b' < w.heap.size) (b + k) a1 l1 m1 K b1' r1 j1 hwX hlkX (by omega) (by omega) HO.out (fun b' hp hl' => ws_gr (HOFF.out b' hp.1 hp.2) hp.2 hgr) hpl2 hBX
      clear hcell ho hsu hlk he hD HW HXk hks hlkX hle hpl hpl2 hwX hX2 hbX
      go_wp2_with fail
      refine hcon.mono ?_
      rintro en w6 ⟨r6, rfl, hk6, hg6, hw6⟩
      have hks6 := Ks.wr hksX hgr hk6
      have hgr6 := hgr.trans hg6 hksX.size
      have HX6 := Lib.hid (hXb.ks hk6 hXo')
      have hXo6 : ¬ WS wb r6 w.heap.size := ws_gr hXo' hXl2 hg6
      have hXl6 : w.heap.size < w6.heap.size := Nat.lt_of_lt_of_le hXl2 hk6.size
      have H6 : Hid (Wr w6 B0 wb r6 (puts (sk (k + 1)) y M c).1 M (puts (sk (k + 1)) y M c).2) := Lib.hid (by rw [HSN.out, puts_append]; exact hw6)
      clear hcon hk6 hg6 hw6 hksX hXb y0 y1 x0 x1 x2 c0 c1
      go_wp2
      go_roundw
      case rel => exact ⟨k + 1, r6, by omega, by go_num, hks6, hgr6, H6, HX6, hXo6, hXl6⟩
      case measure => simp [intOf]; omega
    · obtain rfl : k = n := by omega
      obtain ⟨x0, x1, x2⟩ := HXk.out.c3
      have hzr : Ens wr P A k L := HZ.out.keep fun b' hb' hl' => hks.block b' hl' (HOFF.out b' hb' hl')
      have hcon := join_any24 P A k m L wr hzr (by omega) HSM.out
      unfold RowPost at hcon
      rw [← HJ.out] at hcon
      have hle := HLE.out k (by rw [HL.out]; exact Nat.le_refl _)
      have hpl := puts_le (sk k) y M c
      have hpl2 : (puts (sk k) y M c).1.length ≤ 100000 := by omega
      obtain ⟨jl, hjl⟩ : ∃ jl, jl = (jn L).length := ⟨_, rfl⟩
      rw [← hjl] at hcon HJL
      have HJ2 := Lib.hid hjl
      clear hzr hle hpl hjl
      go_wp2_with fail
      refine hcon.mono ?_
      rintro en w6 ⟨A6, m6, rfl, hb6, hbs6, hnil6, hge6, ho6⟩
      have hw6 := HW.out.below hb6
      have hks6 := hks.trans (Ks.of_below hb6)
      have hB6 := Nat.le_trans hBw hks6.size
      obtain ⟨A7, c7, e7, _, _, hc7⟩ := own_parts24 ho6
      have hm6 : jl ≤ m6 := by
        rw [← HJ2.out] at hc7 e7
        injection e7 with _ _ e7
        omega
      have hcon2 := kput_any A6 jl m6 hw6 hbs6 hnil6 (fun _ a ha => HW.out.off (hge6 a ha)) HJB.out hm6 (by have := HJL.out; omega) hpl2 hB6
      clear hcon hb6 hbs6 hnil6 hge6 ho6 hw6 e7 hc7 x0 x1 x2 hpl2 HW
      go_wp2_with fail
      refine hcon2.mono ?_
      rintro en w7 ⟨r7, rfl, hk7, hg7, hw7⟩
      go_wp2
      go_end0
      exact ⟨r7, rfl, Ks.wr hks6 hgr hk7, hgr.trans hg7 hks6.size, by rw [HFI.out, puts_append]; exact hw7⟩
end Go.Proofs.YtlealkfkddhnnaaGreat.Cur
