/- A projection that has grown: ahead of the cut nothing moves; the example. -/
import Derived.Test.YthpgandifeiejaaLocG
import Derived.Test.YthpgandifeiejaaK31
namespace Go.Proofs.Ythpgandifeiejaa.Cur
open Go.RowKit Mem
set_option linter.unusedVariables false
set_option maxRecDepth 100000

/-- Ahead of the cut each position is where it was. -/
theorem grown_same {e e2 : Int} {L : List Stp} {t : Int} {S : List (List Int)} (h1 : prok (e, L) = true) (h2 : prok (e2, grown L t S) = true) {p : Int} (p0 : 0 ≤ p) (p1 : p < t) (p2 : p < 4611686018427387904) :
    wsi (grown L t S) p = wsi L p ∧ wset (grown L t S) p = wset L p ∧ wloc (grown L t S) p = wloc L p ∧ wsn (grown L t S) p = wsn L p := by
  have hv := vd_of h1
  have hv2 := vd_of h2
  obtain ⟨q1, q2, q3⟩ := hv.wsi p0 p2
  obtain ⟨u, g1, g2⟩ := grown_at (L := L) (t := t) (S := S) q1
  have hlen := grown_len L t S
  have hu : p < u := by
    rcases Nat.lt_or_ge (wsi L p + 1) L.length with h | h
    · obtain ⟨v, g3, _⟩ := grown_at (L := L) (t := t) (S := S) h
      have n1 := hv.next _ h
      have n2 := hv2.next (wsi L p) (by omega)
      rw [g1, g3] at n2
      have n3 : (L.getD (wsi L p + 1) stp0).1 = u := n2
      omega
    · rw [g2 (by omega)]; exact p1
  have hw : wsi (grown L t S) p = wsi L p := hv2.only (p := p) (by omega) (by rw [g1]; exact q2) (by rw [g1]; exact hu)
  have hs : wset (grown L t S) p = wset L p := by unfold wset; rw [hw, g1]
  refine ⟨hw, hs, by unfold wloc; rw [hw, g1], by unfold wsn; rw [hs, hw, g1]⟩

abbrev twop : List Stp := [(0, 5, [[7]]), (5, 4611686018427387904, [[8]])]
set_option maxHeartbeats 4000000 in
theorem lives11_any (w : World) : Calls Try.prog 6 #[] w fun e w' => e = .returned (.bool true) ∧ Below w.heap.size w w' := by
  have hG : grw 1 onep 5 [[8]] = (0, (2, twop)) := by decide +kernel
  have hok : prok (2, twop) = true := by decide +kernel
  have s4 : psk 4 = true := by decide
  have s5 : psk 5 = true := by decide
  have n4 : wsn twop 4 = [7] := by decide +kernel
  have n5 : wsn twop 5 = [8] := by decide +kernel
  have hpl : plen 900 onep := fun s hs => by
    rw [List.mem_singleton] at hs; subst hs
    exact ⟨by decide, fun l hl => by rw [List.mem_singleton] at hl; subst hl; decide⟩
  have hpl2 : plen 1000000 twop := fun s hs => by
    rcases List.mem_cons.1 hs with rfl | hs
    · exact ⟨by decide, fun l hl => by rw [List.mem_singleton] at hl; subst hl; decide⟩
    · rw [List.mem_singleton] at hs; subst hs
      exact ⟨by decide, fun l hl => by rw [List.mem_singleton] at hl; subst hl; decide⟩
  have ho := one_any w
  go_enter Try.func6, Try.ntmps6
  go_wp2_with fail
  refine ho.mono ?_
  rintro en w0 ⟨g0, rfl, hb0, hpt⟩
  have h0 := (Blk.new w0 #[.int .u64 8] 22).alloc (.cells #[.slice (some ⟨w0.heap.size, 0, none⟩) 1 1] 46)
  have h1 := Blk.new (w0.alloc (.cells #[.int .u64 8] 22)) #[.slice (some ⟨w0.heap.size, 0, none⟩) 1 1] 46
  have hbx := below_two w0 (.cells #[.int .u64 8] 22) (.cells #[.slice (some ⟨w0.heap.size, 0, none⟩) 1 1] 46)
  have hsz : ((w0.alloc (.cells #[.int .u64 8] 22)).alloc (.cells #[.slice (some ⟨w0.heap.size, 0, none⟩) 1 1] 46)).heap.size = w0.heap.size + 2 := by simp
  rw [World.size_alloc] at h1
  have hpt' := hpt.below hbx
  have hbd := hb0.trans (hbx.mono hb0.size)
  clear ho hpt hb0
  go_wp2_with fail
  generalize (w0.alloc (.cells #[.int .u64 8] 22)).alloc (.cells #[.slice (some ⟨w0.heap.size, 0, none⟩) 1 1] 46) = w1 at *
  have hu0 : Us w1 (some ⟨w0.heap.size, 0, none⟩) 1 [8] := ⟨rfl, fun _ => ⟨_, 0, rfl, fun i v hv => by rw [Nat.zero_add]; exact h0.cell i (by simpa [uv] using hv)⟩⟩
  have hst : Sts w1 (fun b => b < w1.heap.size) (some ⟨w0.heap.size + 1, 0, none⟩) 1 [[8]] := sts_of_cells rfl (by show w0.heap.size + 1 < _; omega) fun i hi => by
    obtain rfl : i = 0 := by omega
    exact ⟨_, h1.cell 0 rfl, _, 1, rfl, by decide, (fun e => by cases e), hu0.sq (by decide) fun _ a ha => by injection ha with ha; subst ha; show w0.heap.size < w1.heap.size; omega⟩
  have hg := grow_any 1 (some ⟨g0, 0, none⟩) 1 1 onep 5 (some ⟨w0.heap.size + 1, 0, none⟩) 1 1 [[8]] w1 (hpt'.mono fun b h9 _ => by have h8 : b < w0.heap.size := h9; show b < w1.heap.size; omega) (Nat.le_refl _) (fun h => by cases h) (by decide) hpl (by decide) (by decide) (by decide) (by decide) hst (Nat.le_refl _) (fun h => by cases h) (by decide) (fun s hs => by rw [List.mem_singleton] at hs; subst hs; decide)
  unfold PePost at hg
  rw [hG] at hg
  clear hst hu0 h0 h1 hpt' hbx hG
  refine hg.mono ?_
  rintro en w2 ⟨A, N, m, rfl, hb2, hpt, hNm, hnil⟩
  have hbx := below_one w2 (.cells (prc 2 A N m) 25)
  have hX := Blk.new w2 (prc 2 A N m) 25
  have hP := Lib.hid (fun w' h => hpt.below (hbx.trans ((h : Below (w2.alloc (.cells (prc 2 A N m) 25)).heap.size _ w').mono hbx.size)))
  have hN : N ≤ 1000000 := by have h2 : N = 2 := hpt.1.symm; omega
  replace hbd := hbd.trans (hb2.mono hbd.size)
  replace hbd := hbd.trans (hbx.mono hbd.size)
  clear hg hb2 hbx hpt
  go_upto_region 2 with (fail)
  generalize w2.alloc (.cells (prc 2 A N m) 25) = w3 at *
  generalize w2.heap.size = xb at *
  obtain ⟨x0, x1⟩ := hX.c2
  have hr := Below.refl w3.heap.size w3
  go_wp2_with fail
  refine (lat_any _ 2 A N m twop 4 w3 (hP.out _ hr) hN hpl2 (by decide) (by decide)).mono ?_
  rintro en w4 ⟨hb4, ⟨hh, _⟩ | ⟨_, v4, rfl, ho4⟩⟩
  · exact absurd ⟨hok, s4⟩ hh
  obtain ⟨A4, c4, rfl⟩ := ho4.slice
  have hu4 := (OwnU.us ho4).2.2.2
  rw [n4] at hu4 ⊢
  replace hX := hX.below hb4
  replace hr := hr.trans (hb4.mono hr.size)
  clear x0 x1 ho4 hb4
  generalize (wsi twop 4 : Int) = P0
  generalize (wset twop 4 : Int) = P1
  generalize wloc twop 4 = P2
  have hY := Blk.new w4 #[.int .i64 P0, .int .i64 P1, .int .u64 P2, .slice A4 ([7] : List Int).length c4] 48
  have hbx := below_one w4 (.cells #[.int .i64 P0, .int .i64 P1, .int .u64 P2, .slice A4 ([7] : List Int).length c4] 48)
  replace hX := hX.below hbx
  replace hu4 := hu4.below hbx
  replace hr := hr.trans (hbx.mono hr.size)
  go_upto_region 3 with (fail)
  generalize w4.alloc (.cells #[.int .i64 P0, .int .i64 P1, .int .u64 P2, .slice A4 ([7] : List Int).length c4] 48) = w5 at *
  generalize w4.heap.size = yb at *
  obtain ⟨x0, x1⟩ := hX.c2
  go_wp2_with fail
  refine (lat_any _ 2 A N m twop 5 w5 (hP.out _ hr) hN hpl2 (by decide) (by decide)).mono ?_
  rintro en w6 ⟨hb6, ⟨hh, _⟩ | ⟨_, v6, rfl, ho6⟩⟩
  · exact absurd ⟨hok, s5⟩ hh
  obtain ⟨A6, c6, rfl⟩ := ho6.slice
  have hu6 := (OwnU.us ho6).2.2.2
  rw [n5] at hu6 ⊢
  replace hY := hY.below hb6
  replace hu4 := hu4.below hb6
  replace hr := hr.trans (hb6.mono hr.size)
  clear x0 x1 ho6 hb6 hX
  generalize (wsi twop 5 : Int) = Q0
  generalize (wset twop 5 : Int) = Q1
  generalize wloc twop 5 = Q2
  have hZ := Blk.new w6 #[.int .i64 Q0, .int .i64 Q1, .int .u64 Q2, .slice A6 ([8] : List Int).length c6] 48
  have hbx := below_one w6 (.cells #[.int .i64 Q0, .int .i64 Q1, .int .u64 Q2, .slice A6 ([8] : List Int).length c6] 48)
  replace hY := hY.below hbx
  replace hu4 := hu4.below hbx
  replace hu6 := hu6.below hbx
  replace hr := hr.trans (hbx.mono hr.size)
  go_upto_region 4 with (fail)
  generalize w6.alloc (.cells #[.int .i64 Q0, .int .i64 Q1, .int .u64 Q2, .slice A6 ([8] : List Int).length c6] 48) = w7 at *
  generalize w6.heap.size = zb at *
  obtain ⟨y0, y1, y2, y3⟩ := hY.c4
  obtain ⟨z0, z1, z2, z3⟩ := hZ.c4
  obtain ⟨g4, o4, rfl, k4⟩ := hu4.at_ (k := 0) (by decide)
  obtain ⟨g6, o6, rfl, k6⟩ := hu6.at_ (k := 0) (by decide)
  rw [Nat.add_zero] at k4 k6
  replace hbd := hbd.trans (hr.mono hbd.size)
  clear hbx hok s4 s5 n4 n5 hpl hpl2 hu4 hu6 hY hZ hP hnil hNm hN hr
  go_wp2
  go_ret
  exact ⟨rfl, hbd⟩
end Go.Proofs.Ythpgandifeiejaa.Cur
