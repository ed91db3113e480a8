/- Locate: At. -/
import Derived.Test.YtmcabaebdloakaaLocB
import Derived.Test.YtmcabaebdloakaaK25
namespace Go.Proofs.Ytmcabaebdloakaa.Cur
open Go.RowKit Mem
set_option linter.unusedVariables false
set_option maxRecDepth 100000


/-- The number that a position has in its set. -/
def wloc (L : List Stp) (p : Int) : Int := (p - (L.getD (wsi L p) stp0).1) / ((L.getD (wsi L p) stp0).2.2.length : Int)
/-- What At tells: the code; the place. -/
def atc (e : Int) (L : List Stp) (p : Int) : Int := if prok (e, L) = true then (if psk p = true then 0 else 17) else 3
def AtPost (e : Int) (L : List Stp) (p : Int) (w : World) (en : Ending) (w' : World) : Prop :=
  Below w.heap.size w w' ∧ ((¬ (prok (e, L) = true ∧ psk p = true) ∧ en = .returned (.tuple #[.agg #[.int .i64 0, .int .i64 0, .int .u64 0, .slice none 0 0], .int .i64 (atc e L p)])) ∨
    ((prok (e, L) = true ∧ psk p = true) ∧ ∃ v, en = .returned (.tuple #[.agg #[.int .i64 (wsi L p), .int .i64 (wset L p), .int .u64 (wloc L p), v], .int .i64 0]) ∧ OwnU w' w.heap.size v (wsn L p)))
abbrev plz : Array Value := #[.int .i64 0, .int .i64 0, .int .u64 0, .slice none 0 0]

set_option maxHeartbeats 4000000 in
theorem lat_any (P : Nat → Prop) (e : Int) (A : Option Addr) (n m : Nat) (L : List Stp) (p : Int) (w : World) (hz : Pts w P A n L) (hn : n ≤ 1000000) (hlen : plen 1000000 L) (p0 : 0 ≤ p) (p1 : p < 18446744073709551616) :
    Calls Try.prog 10 #[pragg e A n m, .int .u64 p] w (AtPost e L p w) := by
  have hX := (Blk.new w (prc e A n m) 25).alloc (.cells plz 32)
  have hR := Blk.new (w.alloc (.cells (prc e A n m) 25)) plz 32
  rw [World.size_alloc] at hR
  have hb := below_two w (.cells (prc e A n m) 25) (.cells plz 32)
  have hcon := prright_any P e A n m L _ (hz.below hb) hn hlen
  have hec := fun w' => epos_any p w'
  unfold BPost at hcon
  cases hp : prok (e, L)
  · have HN : Hid (¬ (prok (e, L) = true ∧ psk p = true)) := Lib.hid (fun h => by rw [hp] at h; cases h.1)
    have HCD : Hid (atc e L p = 3) := Lib.hid (if_neg (by rw [hp]; decide))
    rw [hp] at hcon
    obtain ⟨x0, x1⟩ := hX.c2
    clear hz hlen hp
    go_enter Try.func10, Try.ntmps10
    go_wp2_with fail
    refine hcon.mono ?_
    rintro en w1 ⟨rfl, hb1⟩
    replace hb := hb.trans (hb1.mono hb.size)
    replace hR := hR.below hb1
    clear hcon hb1 x0 x1 hX hec
    obtain ⟨r0, r1, r2, r3⟩ := hR.c4
    obtain ⟨s0, s1, s2, s3⟩ := hR.f4
    go_wp2
    refine bodyPost_ret (v := .tuple #[.agg #[.int .i64 0, .int .i64 0, .int .u64 0, .slice none 0 0], .int .i64 3]) (by simp [results, Try.results10, go_sem, r0, r1, r2, r3]) rfl ⟨?_, .inl ⟨HN.out, by rw [HCD.out]⟩⟩
    exact set4_below hb (by omega) _ _ _ _
  cases hs : psk p
  · have HN : Hid (¬ (prok (e, L) = true ∧ psk p = true)) := Lib.hid (fun h => by rw [hs] at h; cases h.2)
    have HCD : Hid (atc e L p = 17) := Lib.hid (by unfold atc; rw [if_pos hp, if_neg (by rw [hs]; decide)])
    rw [hp] at hcon
    rw [hs] at hec
    obtain ⟨x0, x1⟩ := hX.c2
    clear hz hlen hp hs
    go_enter Try.func10, Try.ntmps10
    go_wp2_with fail
    refine hcon.mono ?_
    rintro en w1 ⟨rfl, hb1⟩
    replace hb := hb.trans (hb1.mono hb.size)
    replace hR := hR.below hb1
    clear hcon hb1 x0 x1 hX
    go_wp2_with fail
    refine (hec _).mono ?_
    rintro en w2 ⟨rfl, rfl⟩
    clear hec
    obtain ⟨r0, r1, r2, r3⟩ := hR.c4
    obtain ⟨s0, s1, s2, s3⟩ := hR.f4
    go_wp2
    refine bodyPost_ret (v := .tuple #[.agg #[.int .i64 0, .int .i64 0, .int .u64 0, .slice none 0 0], .int .i64 17]) (by simp [results, Try.results10, go_sem, r0, r1, r2, r3]) rfl ⟨?_, .inl ⟨HN.out, by rw [HCD.out]⟩⟩
    exact set4_below hb (by omega) _ _ _ _
  have HY := Lib.hid (And.intro hp hs)
  have hv := vd_of hp
  have HS := Lib.hid (fun (w' : World) (h : Below w.heap.size w w') => lsearch_any P e A n m L p w' (hz.below h) hn hv)
  obtain ⟨q1, q2, q3⟩ := hv.wsi p0 (psk_lt hs)
  rw [hz.1] at q1
  obtain ⟨g, o, rfl, _, hg, hc⟩ := hz.cells (by omega)
  obtain ⟨f, t, S, a, l, mm, he, ⟨f0, _⟩, _, hl, hlm, _, hst, hcell⟩ := hc _ q1
  rw [he] at q2 q3
  have hok := hv.ok _ (show wsi L p < L.length by rw [hz.1]; exact q1)
  rw [he] at hok
  obtain ⟨k1, k2, k3, k4, _⟩ := stok_parts hok
  replace k2 : t ≤ 4611686018427387904 := k2
  replace k3 : 1 ≤ l := by rw [← hl]; exact k3
  replace k4 : l ≤ 8 := by rw [← hl]; exact k4
  replace q2 : f ≤ p := q2
  replace q3 : p < t := q3
  have hll := hlen.at_ (wsi L p)
  rw [he] at hll
  have HDL := Lib.hid (fun (w' : World) (h : Below w.heap.size w w') => dealt_any P f t a l mm S p w' (hst.below h) hlm (by omega) hll.2 f0 p0 p1)
  have hdv := dlv_yes (s := (f, t, S)) (p := p) ⟨hok, q2, q3⟩
  have hj : wset L p = ((p - f) % (l : Int)).toNat := by unfold wset; rw [he, ← hl]
  have hu : wloc L p = (p - f) / (l : Int) := by unfold wloc; rw [he, ← hl]
  have hsn : wsn L p = S.getD (wset L p) [] := by unfold wsn; rw [he]
  rw [show ((f, t, S).2.2.length : Int) = (l : Int) by rw [← hl]] at hdv
  replace hdv : dlv (f, t, S) p = .tuple #[.int .i64 ((p - f) % (l : Int)), .int .u64 ((p - f) / (l : Int)), .bool true] := hdv
  have r0 := Int.emod_nonneg (p - f) (show (l : Int) ≠ 0 by omega)
  have r1 := Int.emod_lt_of_pos (p - f) (show (0 : Int) < l by omega)
  obtain ⟨g2, o2, rfl, _, hg2, hc2⟩ := hst.cells (by omega)
  obtain ⟨a3, l3, m3, hl3, hlm3, hnil3, hus, _, hub, hcell2⟩ := hc2 (wset L p) (by rw [hj]; omega)
  rw [← hsn] at hus hub
  obtain ⟨r, hr⟩ : ∃ r, r = (p - f) % (l : Int) := ⟨_, rfl⟩
  rw [← hr] at hj r0 r1 hdv
  rw [← hu] at hdv
  obtain ⟨j, rfl⟩ := Int.eq_ofNat_of_zero_le r0
  rw [Int.toNat_natCast] at hj
  rw [hj] at hcell2
  rw [hdv] at HDL
  have hsl := stok_parts hok
  have hl38 : l3 ≤ 8 := by
    have h5 := sok_lens hsl.2.2.2.2 (S.getD j []) (by rw [List.getD_eq_getElem?_getD, List.getElem?_eq_getElem (by rw [hl]; omega)]; exact List.getElem_mem _)
    rw [← hj, hl3] at h5
    exact h5
  have HCL := Lib.hid (fun (w' : World) (h : Below w.heap.size w w') => cloneu_any a3 l3 m3 (uv (wsn L p)) w' (by rw [List.length_map]; exact hus.1) (hus.below h).2 (uv_one _) hnil3 (by omega))
  have HUL := Lib.hid hus.1
  have HJ := Lib.hid hj
  have HCS := Lib.hid (fun w' (h : Below w.heap.size w w') => hcell w' h)
  have HC2 := Lib.hid (fun w' (h : Below w.heap.size w w') => hcell2 w' h)
  unfold BPost at HS HDL
  generalize hK : wsi L p = K at *
  generalize hU : wloc L p = U at *
  have HK := Lib.hid hK
  have HU := Lib.hid hU
  clear hK hU
  have e6 : (j : Int) < l := by omega
  have e9 : (K : Int) < n := by omega
  rw [hp] at hcon
  rw [hs] at hec
  obtain ⟨x0, x1⟩ := hX.c2
  clear hz hlen hp hs hc hc2 he hl hst hcell hcell2 hus hub hsn hr hj hv hok hu hdv hsl hll hl3 hnil3
  go_enter Try.func10, Try.ntmps10
  go_wp2_with fail
  refine hcon.mono ?_
  rintro en w1 ⟨rfl, hb1⟩
  replace hb := hb.trans (hb1.mono hb.size)
  replace hX := hX.below hb1
  replace hR := hR.below hb1
  clear hcon hb1 x0 x1
  obtain ⟨x0, x1⟩ := hX.c2
  go_wp2_with fail
  refine (hec _).mono ?_
  rintro en w2 ⟨rfl, rfl⟩
  clear hec
  go_wp2_with fail
  refine (HS.out _ hb).mono ?_
  rintro en w3 ⟨rfl, hb3⟩
  replace hb := hb.trans (hb3.mono hb.size)
  replace hX := hX.below hb3
  replace hR := hR.below hb3
  clear hb3 x0 x1
  obtain ⟨x0, x1⟩ := hX.c2
  obtain ⟨c0, c1, c2⟩ := HCS.out _ hb
  go_upto_region 7 with (fail)
  have hS := Blk.new w3 (stc f t (some ⟨g2, o2, none⟩) l mm) 39
  have hbx := below_one w3 (.cells (stc f t (some ⟨g2, o2, none⟩) l mm) 39)
  replace hb := hb.trans (hbx.mono hb.size)
  replace hR := hR.below hbx
  clear hbx c0 c1 c2 x0 x1 hX
  generalize w3.alloc (.cells (stc f t (some ⟨g2, o2, none⟩) l mm) 39) = w4 at *
  generalize w3.heap.size = bs at *
  obtain ⟨c0, c1, c2⟩ := hS.c3
  go_wp2_with fail
  refine (HDL.out _ hb).mono ?_
  rintro en w5 ⟨rfl, hb5⟩
  replace hb := hb.trans (hb5.mono hb.size)
  replace hS := hS.below hb5
  replace hR := hR.below hb5
  clear hb5 c0 c1 c2
  obtain ⟨c0, c1, c2⟩ := hS.c3
  have d0 := HC2.out _ hb
  go_wp2_with fail
  refine (HCL.out _ hb).mono ?_
  rintro en w6 ⟨v6, rfl, ho6, hb6⟩
  have hs5 := hb.size
  have hs6 := hR.lt
  replace hb := hb.trans (hb6.mono hb.size)
  replace hR := hR.below hb6
  clear hb6 c0 c1 c2 d0 hS
  obtain ⟨A6, m6, rfl, _⟩ := own_slice ho6
  obtain ⟨r0', r1', r2', r3'⟩ := hR.c4
  obtain ⟨s0, s1, s2, s3⟩ := hR.f4
  go_wp2
  refine bodyPost_ret (v := .tuple #[.agg #[.int .i64 (K : Int), .int .i64 (j : Int), .int .u64 U, .slice A6 l3 m6], .int .i64 0]) (by simp [results, Try.results10, go_sem, r0', r1', r2', r3']) rfl ⟨?_, .inr ⟨HY.out, _, by rw [HJ.out, HK.out, HU.out], ?_⟩⟩
  · exact set4_below hb (by omega) _ _ _ _
  · have ho7 : OwnU w6 w5.heap.size (.slice A6 l3 m6) (wsn L p) := by
      unfold OwnU; rw [HUL.out]; exact ho6
    exact (set4_own ho7 (by omega) _ _ _ _).base hs5
end Go.Proofs.Ytmcabaebdloakaa.Cur
