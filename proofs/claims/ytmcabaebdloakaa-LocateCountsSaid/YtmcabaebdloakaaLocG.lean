/- Locate: Moved; First. -/
import Derived.Test.YtmcabaebdloakaaLocF
import Derived.Test.YtmcabaebdloakaaSeqH
namespace Go.Proofs.Ytmcabaebdloakaa.Cur
open Go.RowKit Mem
set_option linter.unusedVariables false
set_option maxRecDepth 100000


/-- Has a position other nodes in one projection than in the other. -/
def mvv (e : Int) (L : List Stp) (e2 : Int) (M : List Stp) (p : Int) : Bool := (prok (e, L) && psk p) && (prok (e2, M) && psk p) && decide (wsn L p ≠ wsn M p)
theorem atc_ne {e : Int} {L : List Stp} {p : Int} (h : ¬ (prok (e, L) = true ∧ psk p = true)) : (atc e L p == 0) = false := by
  unfold atc
  by_cases h1 : prok (e, L) = true
  · rw [if_pos h1, if_neg (fun h2 => h ⟨h1, h2⟩)]; decide
  · rw [if_neg h1]; decide
theorem mvv_no1 {e : Int} {L : List Stp} {e2 : Int} {M : List Stp} {p : Int} (h : ¬ (prok (e, L) = true ∧ psk p = true)) : mvv e L e2 M p = false := by
  unfold mvv
  have : (prok (e, L) && psk p) = false := by simpa using h
  rw [this]; rfl
theorem mvv_no2 {e : Int} {L : List Stp} {e2 : Int} {M : List Stp} {p : Int} (h : ¬ (prok (e2, M) = true ∧ psk p = true)) : mvv e L e2 M p = false := by
  unfold mvv
  have : (prok (e2, M) && psk p) = false := by simpa using h
  rw [this, Bool.and_false]; rfl
theorem mvv_yes {e : Int} {L : List Stp} {e2 : Int} {M : List Stp} {p : Int} (h : prok (e, L) = true ∧ psk p = true) (h2 : prok (e2, M) = true ∧ psk p = true) : mvv e L e2 M p = !decide (wsn L p = wsn M p) := by
  unfold mvv
  rw [h.1, h.2, h2.1]
  simp
/-- The nodes of a position are few. -/
theorem wsn_len {e : Int} {L : List Stp} {p : Int} (h : prok (e, L) = true ∧ psk p = true) (p0 : 0 ≤ p) : (wsn L p).length ≤ 8 := by
  have hv := vd_of h.1
  obtain ⟨q1, _, _⟩ := hv.wsi p0 (psk_lt h.2)
  obtain ⟨_, _, _, _, k5⟩ := stok_parts (hv.ok _ q1)
  unfold wsn
  rw [List.getD_eq_getElem?_getD]
  rcases hk : (L.getD (wsi L p) stp0).2.2[wset L p]? with _ | l
  · simp
  · exact sok_lens k5 l (List.mem_of_getElem? hk)
def S2p (b1 b2 : Nat) (x y : Array Value) (w' : World) : Prop := Blk w' b1 x 25 ∧ Blk w' b2 y 25
theorem S2p.below {b1 b2 : Nat} {x y : Array Value} {w' w'' : World} (h : S2p b1 b2 x y w') (hb : Below w'.heap.size w' w'') : S2p b1 b2 x y w'' := ⟨h.1.below hb, h.2.below hb⟩

set_option maxHeartbeats 8000000 in
theorem moved_any (P Q : Nat → Prop) (e : Int) (A : Option Addr) (n m : Nat) (L : List Stp) (e2 : Int) (B : Option Addr) (k c : Nat) (M : List Stp) (p : Int) (w : World) (hz : Pts w P A n L) (hz2 : Pts w Q B k M) (hn : n ≤ 1000000) (hk : k ≤ 1000000) (hlen : plen 1000000 L) (hlen2 : plen 1000000 M) (p0 : 0 ≤ p) (p1 : p < 18446744073709551616) :
    Calls Try.prog 22 #[pragg e A n m, pragg e2 B k c, .int .u64 p] w (BPost (.bool (mvv e L e2 M p)) w) := by
  unfold BPost
  have hX := (Blk.new w (prc e A n m) 25).alloc (.cells (prc e2 B k c) 25)
  have hY := Blk.new (w.alloc (.cells (prc e A n m) 25)) (prc e2 B k c) 25
  rw [World.size_alloc] at hY
  have hb := below_two w (.cells (prc e A n m) 25) (.cells (prc e2 B k c) 25)
  have h2 : S2p w.heap.size (w.heap.size + 1) _ _ _ := ⟨hX, hY⟩
  have hA := lat_any P e A n m L p _ (hz.below hb) hn hlen p0 p1
  have HB := Lib.hid (fun w' (h : Below w.heap.size w w') => lat_any Q e2 B k c M p w' (hz2.below h) hk hlen2 p0 p1)
  have HL1 := Lib.hid (fun h => wsn_len (e := e) (L := L) (p := p) h p0)
  have HL2 := Lib.hid (fun h => wsn_len (e := e2) (L := M) (p := p) h p0)
  clear hz hz2 hX hY hlen hlen2
  obtain ⟨x0, x1⟩ := h2.1.c2
  go_enter Try.func22, Try.ntmps22
  go_wp2_with fail
  refine hA.mono ?_
  rintro en w1 ⟨hb1, hq⟩
  replace h2 := h2.below hb1
  replace hb := hb.trans (hb1.mono hb.size)
  clear hA x0 x1 hb1
  obtain ⟨hno, rfl⟩ | ⟨hyes, v, rfl, ho⟩ := hq
  · have HV : Hid (mvv e L e2 M p = false) := Lib.hid (mvv_no1 hno)
    have d1 := atc_ne hno
    generalize atc e L p = C1 at *
    clear hno
    have hbx := below_one w1 (.cells plz 32)
    replace h2 := h2.below hbx
    replace hb := hb.trans (hbx.mono hb.size)
    obtain ⟨y0, y1⟩ := h2.2.c2
    clear hbx
    go_upto_region 2 with (fail)
    generalize w1.alloc (.cells plz 32) = wx at *
    go_wp2_with fail
    refine (HB.out _ hb).mono ?_
    rintro en w2 ⟨hb2, hq⟩
    replace hb := hb.trans (hb2.mono hb.size)
    clear hb2 y0 y1 h2
    obtain ⟨hno, rfl⟩ | ⟨hyes, v, rfl, ho⟩ := hq
    · generalize atc e2 M p = C2 at *
      have hbx := below_one w2 (.cells plz 32)
      replace hb := hb.trans (hbx.mono hb.size)
      go_wp2
      go_ret
      exact ⟨by rw [HV.out]; rfl, hb⟩
    · obtain ⟨A2, c2, rfl⟩ := ho.slice
      have hbx := below_one w2 (.cells #[.int .i64 (wsi M p : Int), .int .i64 (wset M p : Int), .int .u64 (wloc M p), .slice A2 (wsn M p).length c2] 32)
      replace hb := hb.trans (hbx.mono hb.size)
      clear ho hbx hyes
      generalize (wsi M p : Int) = V0 at *
      generalize (wset M p : Int) = V1 at *
      generalize wloc M p = V2 at *
      generalize (wsn M p).length = V3 at *
      go_wp2
      go_ret
      exact ⟨by rw [HV.out]; rfl, hb⟩
  · obtain ⟨A1, c1, rfl⟩ := ho.slice
    have hu1 := (OwnU.us ho).2.2.2
    have hl1 := HL1.out hyes
    have HY1 := Lib.hid hyes
    obtain ⟨N, hN⟩ : ∃ N, N = wsn L p := ⟨_, rfl⟩
    have HN := Lib.hid hN
    rw [← hN] at hu1 hl1 ⊢
    have hP := Blk.new w1 #[.int .i64 (wsi L p : Int), .int .i64 (wset L p : Int), .int .u64 (wloc L p), .slice A1 N.length c1] 32
    have hbx := below_one w1 (.cells #[.int .i64 (wsi L p : Int), .int .i64 (wset L p : Int), .int .u64 (wloc L p), .slice A1 N.length c1] 32)
    replace h2 := h2.below hbx
    replace hu1 := hu1.below hbx
    replace hb := hb.trans (hbx.mono hb.size)
    clear ho hbx hyes hN
    generalize (wsi L p : Int) = V0 at *
    generalize (wset L p : Int) = V1 at *
    generalize wloc L p = V2 at *
    obtain ⟨y0, y1⟩ := h2.2.c2
    go_upto_region 2 with (fail)
    generalize w1.alloc (.cells #[.int .i64 V0, .int .i64 V1, .int .u64 V2, .slice A1 N.length c1] 32) = wx at *
    generalize w1.heap.size = b7 at *
    go_wp2_with fail
    refine (HB.out _ hb).mono ?_
    rintro en w2 ⟨hb2, hq⟩
    replace hb := hb.trans (hb2.mono hb.size)
    replace hu1 := hu1.below hb2
    replace hP := hP.below hb2
    clear hb2 y0 y1 h2
    obtain ⟨hno, rfl⟩ | ⟨hyes, v, rfl, ho⟩ := hq
    · have HV : Hid (mvv e L e2 M p = false) := Lib.hid (mvv_no2 hno)
      have d1 := atc_ne hno
      generalize atc e2 M p = C2 at *
      have hbx := below_one w2 (.cells plz 32)
      replace hb := hb.trans (hbx.mono hb.size)
      clear hno hbx
      go_wp2
      go_ret
      exact ⟨by rw [HV.out]; rfl, hb⟩
    · obtain ⟨A2, c2, rfl⟩ := ho.slice
      have hu2 := (OwnU.us ho).2.2.2
      have hl2 := HL2.out hyes
      have HV : Hid (mvv e L e2 M p = !decide (N = wsn M p)) := Lib.hid (by rw [mvv_yes HY1.out hyes, HN.out])
      generalize wsn M p = N2 at *
      have hR := Blk.new w2 #[.int .i64 (wsi M p : Int), .int .i64 (wset M p : Int), .int .u64 (wloc M p), .slice A2 N2.length c2] 32
      have hbx := below_one w2 (.cells #[.int .i64 (wsi M p : Int), .int .i64 (wset M p : Int), .int .u64 (wloc M p), .slice A2 N2.length c2] 32)
      replace hu1 := hu1.below hbx
      replace hu2 := hu2.below hbx
      replace hP := hP.below hbx
      replace hb := hb.trans (hbx.mono hb.size)
      clear ho hbx hyes
      generalize (wsi M p : Int) = U0 at *
      generalize (wset M p : Int) = U1 at *
      generalize wloc M p = U2 at *
      go_upto_region 3 with (fail)
      generalize w2.alloc (.cells #[.int .i64 U0, .int .i64 U1, .int .u64 U2, .slice A2 N2.length c2] 32) = wy at *
      generalize w2.heap.size = b9 at *
      obtain ⟨x0, x1, x2, x3⟩ := hP.c4
      obtain ⟨y0, y1, y2, y3⟩ := hR.c4
      go_wp2_with fail
      refine (sequal_any A1 A2 _ _ c1 c2 N N2 _ hu1 hu2 (by omega) (by omega)).mono ?_
      rintro en w3 ⟨rfl, hb3⟩
      replace hb := hb.trans (hb3.mono hb.size)
      clear hb3 x0 x1 x2 x3 y0 y1 y2 y3
      obtain ⟨bv, hbv⟩ : ∃ bv, bv = decide (N = N2) := ⟨_, rfl⟩
      rw [← hbv] at HV ⊢
      clear hbv
      go_wp2
      go_ret
      exact ⟨by rw [HV.out]; rfl, hb⟩

theorem set3h {w : World} {b : Nat} {v0 v1 v2 : Value} {t : Nat} (h : Blk w b #[v0, v1, v2] t) (u0 u1 u2 : Value) : Blk (((w.setCell ⟨b, 0, none⟩ u0).setCell ⟨b, 1, none⟩ u1).setCell ⟨b, 2, none⟩ u2) b #[u0, u1, u2] t ∧ Kp b w (((w.setCell ⟨b, 0, none⟩ u0).setCell ⟨b, 1, none⟩ u1).setCell ⟨b, 2, none⟩ u2) :=
  ⟨((h.set 0 u0).set 1 u1).set 2 u2, ((Kp.setCell _ _ _ _).trans (Kp.setCell _ _ _ _)).trans (Kp.setCell _ _ _ _)⟩
/-- What First tells. -/
def FiPost (e : Int) (L : List Stp) (e2 : Int) (M : List Stp) (w : World) (en : Ending) (w' : World) : Prop :=
  ∃ r ok, en = .returned (.tuple #[.int .u64 r, .bool ok]) ∧ Below w.heap.size w w' ∧ (¬ (prok (e, L) = true ∧ prok (e2, M) = true) → ok = false ∧ r = 0) ∧
    (prok (e, L) = true → prok (e2, M) = true → (ok = true → 0 ≤ r ∧ r < 4611686018427387904 ∧ wsn L r ≠ wsn M r ∧ ∀ q, 0 ≤ q → q < r → wsn L q = wsn M q) ∧ (ok = false → r = 0 ∧ ∀ q, 0 ≤ q → q < 4611686018427387904 → wsn L q = wsn M q))
set_option maxHeartbeats 8000000 in
theorem first_any (P Q : Nat → Prop) (e : Int) (A : Option Addr) (n m : Nat) (L : List Stp) (e2 : Int) (B : Option Addr) (k c : Nat) (M : List Stp) (w : World) (hz : Pts w P A n L) (hz2 : Pts w Q B k M) (hn : n ≤ 1000000) (hk : k ≤ 1000000) (hlen : plen 1000000 L) (hlen2 : plen 1000000 M) :
    Calls Try.prog 21 #[pragg e A n m, pragg e2 B k c] w (FiPost e L e2 M w) := by
  have hX := (Blk.new w (prc e A n m) 25).alloc (.cells (prc e2 B k c) 25)
  have hY := Blk.new (w.alloc (.cells (prc e A n m) 25)) (prc e2 B k c) 25
  rw [World.size_alloc] at hY
  have hb := below_two w (.cells (prc e A n m) 25) (.cells (prc e2 B k c) 25)
  have h2 : S2p w.heap.size (w.heap.size + 1) _ _ _ := ⟨hX, hY⟩
  have hcA := prright_any P e A n m L _ (hz.below hb) hn hlen
  have HCB := Lib.hid (fun w' (h : Below w.heap.size w w') => prright_any Q e2 B k c M w' (hz2.below h) hk hlen2)
  unfold BPost at hcA HCB
  clear hX hY
  cases hp : prok (e, L)
  · have HN : Hid (¬ (prok (e, L) = true ∧ prok (e2, M) = true)) := Lib.hid (fun h => by rw [hp] at h; cases h.1)
    rw [hp] at hcA
    obtain ⟨x0, x1⟩ := h2.1.c2
    clear hp hz hz2 hlen hlen2
    go_enter Try.func21, Try.ntmps21
    go_wp2_with fail
    refine hcA.mono ?_
    rintro en w1 ⟨rfl, hb1⟩
    replace hb := hb.trans (hb1.mono hb.size)
    clear hcA hb1 x0 x1 h2
    go_wp2
    go_ret2
    exact ⟨0, false, rfl, hb, fun _ => ⟨rfl, rfl⟩, fun h1 h2 => absurd ⟨h1, h2⟩ HN.out⟩
  cases hp2 : prok (e2, M)
  · have HN : Hid (¬ (prok (e, L) = true ∧ prok (e2, M) = true)) := Lib.hid (fun h => by rw [hp2] at h; cases h.2)
    rw [hp] at hcA
    rw [hp2] at HCB
    obtain ⟨x0, x1⟩ := h2.1.c2
    clear hp hp2 hz hz2 hlen hlen2
    go_enter Try.func21, Try.ntmps21
    go_wp2_with fail
    refine hcA.mono ?_
    rintro en w1 ⟨rfl, hb1⟩
    replace hb := hb.trans (hb1.mono hb.size)
    replace h2 := h2.below hb1
    clear hcA hb1 x0 x1
    obtain ⟨x0, x1⟩ := h2.2.c2
    go_wp2_with fail
    refine (HCB.out _ hb).mono ?_
    rintro en w2 ⟨rfl, hb2⟩
    replace hb := hb.trans (hb2.mono hb.size)
    clear hb2 x0 x1 h2
    go_wp2
    go_ret2
    exact ⟨0, false, rfl, hb, fun _ => ⟨rfl, rfl⟩, fun h1 h2 => absurd ⟨h1, h2⟩ HN.out⟩
  have HP := Lib.hid (And.intro hp hp2)
  have hv := vd_of hp
  have hv2 := vd_of hp2
  have HV := Lib.hid hv
  have HV2 := Lib.hid hv2
  have HS1 := Lib.hid (fun (w' : World) (h : Below w.heap.size w w') (p : Int) => lsearch_any P e A n m L p w' (hz.below h) hn hv)
  have HS2 := Lib.hid (fun (w' : World) (h : Below w.heap.size w w') (p : Int) => lsearch_any Q e2 B k c M p w' (hz2.below h) hk hv2)
  have HL1 := Lib.hid hz.1
  have HL2 := Lib.hid hz2.1
  have HC1 := Lib.hid (fun h => hz.cells h)
  have HC2 := Lib.hid (fun h => hz2.cells h)
  rw [hp] at hcA
  rw [hp2] at HCB
  unfold BPost at HS1 HS2
  obtain ⟨x0, x1⟩ := h2.1.c2
  clear hp hp2 hz hz2 hlen hlen2 hv hv2
  go_enter Try.func21, Try.ntmps21
  go_wp2_with fail
  refine hcA.mono ?_
  rintro en w1 ⟨rfl, hb1⟩
  replace hb := hb.trans (hb1.mono hb.size)
  replace h2 := h2.below hb1
  clear hcA hb1 x0 x1
  obtain ⟨x0, x1⟩ := h2.2.c2
  go_wp2_with fail
  refine (HCB.out _ hb).mono ?_
  rintro en w2 ⟨rfl, hb2⟩
  replace hb := hb.trans (hb2.mono hb.size)
  replace h2 := h2.below hb2
  clear hb2 x0 x1
  go_wp2
  go_loopw [6] (fun pv wr => ∃ q : Int, pv = .int .u64 q ∧ 0 ≤ q ∧ q ≤ 4611686018427387904 ∧ Hid (∀ r, 0 ≤ r → r < q → wsn L r = wsn M r) ∧ S2p w.heap.size (w.heap.size + 1) (prc e A n m) (prc e2 B k c) wr ∧ Below w.heap.size w wr) (fun pv _ => (4611686018427387904 - intOf pv).toNat)
  case atStart => exact ⟨0, rfl, Int.le_refl _, by omega, Lib.hid (by intro r h1 h2; omega), h2, hb⟩
  case round =>
    clear h2 hb
    obtain ⟨q, rfl, hq0, hq1, hj, h2, hb⟩ := hrel
    have hec := fun w' => epos_any q w'
    cases hs : psk q
    · rw [hs] at hec
      have HQ : Hid (4611686018427387904 ≤ q) := Lib.hid (by have := of_decide_eq_false hs; omega)
      clear hs
      go_wp2_with fail
      refine (hec _).mono ?_
      rintro en w3 ⟨rfl, rfl⟩
      go_wp2
      go_ret2
      exact ⟨0, false, rfl, hb, fun h => absurd HP.out h, fun _ _ => ⟨fun h => (by cases h), fun _ => ⟨rfl, fun r h1 h2 => hj.out r h1 (by have := HQ.out; omega)⟩⟩⟩
    · rw [hs] at hec
      have hq2 := psk_lt hs
      clear hs
      go_wp2_with fail
      refine (hec _).mono ?_
      rintro en w3 ⟨rfl, rfl⟩
      go_wp2
      have HQ2 := Lib.hid (And.intro hq0 hq2)
      have hn1 : n ≠ 0 := by have := HV.out.pos; rw [HL1.out] at this; omega
      have hk1 : k ≠ 0 := by have := HV2.out.pos; rw [HL2.out] at this; omega
      obtain ⟨i1, i2, i3⟩ := HV.out.wsi hq0 hq2
      obtain ⟨j1, j2, j3⟩ := HV2.out.wsi hq0 hq2
      obtain ⟨g, o, hAe, _, hg, hc⟩ := HC1.out hn1
      obtain ⟨g', o', hBe, _, hg', hc'⟩ := HC2.out hk1
      subst hAe hBe
      obtain ⟨f, t, S, a, l, mm, he, ⟨f0, _⟩, ⟨t0, _⟩, hl, hlm, _, hst, hcell⟩ := hc (wsi L q) (by rw [HL1.out] at i1; exact i1)
      obtain ⟨f', t', S', a', l', mm', he', ⟨f0', _⟩, ⟨t0', _⟩, hl', hlm', _, hst', hcell'⟩ := hc' (wsi M q) (by rw [HL2.out] at j1; exact j1)
      have ok1 := HV.out.ok _ i1
      have ok2 := HV2.out.ok _ j1
      have HO1 := Lib.hid (fun r (h1 : f ≤ r) (h2 : r < t) => show wsn L r = snds (f, t, S) r by
        rw [wsn_snds, HV.out.only (p := r) i1 (by rw [he]; exact h1) (by rw [he]; exact h2), he])
      have HO2 := Lib.hid (fun r (h1 : f' ≤ r) (h2 : r < t') => show wsn M r = snds (f', t', S') r by
        rw [wsn_snds, HV2.out.only (p := r) j1 (by rw [he']; exact h1) (by rw [he']; exact h2), he'])
      rw [he] at i2 i3 ok1
      rw [he'] at j2 j3 ok2
      replace i2 : f ≤ q := i2
      replace i3 : q < t := i3
      replace j2 : f' ≤ q := j2
      replace j3 : q < t' := j3
      have tk := (stok_parts ok1).2.1
      have tk' := (stok_parts ok2).2.1
      replace tk : t ≤ 4611686018427387904 := tk
      replace tk' : t' ≤ 4611686018427387904 := tk'
      rw [HL1.out] at i1
      rw [HL2.out] at j1
      obtain ⟨E, hE⟩ : ∃ E, E = min t t' := ⟨_, rfl⟩
      have hE1 : E ≤ t ∧ E ≤ t' ∧ q < E ∧ E ≤ 4611686018427387904 := by omega
      have v4 : min t t' = E := hE.symm
      have hcon := fun w' (h : Below w.heap.size w w') => firstof_any P Q f t a l mm S f' t' a' l' mm' S' q E w' (hst.below h) (hst'.below h) hlm hlm' ok1 ok2 f0 f0' i2 j2 (by omega) hE1.1 hE1.2.1 hq2
      have HCON := Lib.hid hcon
      have HEE := Lib.hid hE1
      have HIJ := Lib.hid (And.intro i2 j2)
      have HCL := Lib.hid hcell
      have HCL' := Lib.hid hcell'
      have f1' : (wsi L q : Int) < n := by omega
      have f2' : (wsi M q : Int) < k := by omega
      have S1 := fun w' h => HS1.out w' h q
      have S2 := fun w' h => HS2.out w' h q
      clear hc hc' hst hst' hcell hcell' hcon hE hE1 ok1 ok2 i2 i3 j2 j3 he he' hl hl' hq0 hq1 hq2 tk tk' t0 t0' hec
      generalize wsi L q = K1 at *
      generalize wsi M q = K2 at *
      have L1 : ∀ w', (S2p w.heap.size (w.heap.size + 1) (prc e (some ⟨g, o, none⟩) n m) (prc e2 (some ⟨g', o', none⟩) k c) w' ∧ Below w.heap.size w w') → (w'.cell? ⟨w.heap.size, 0, none⟩ = some (.int .u64 e) ∧ w'.cell? ⟨w.heap.size, 1, none⟩ = some (.slice (some ⟨g, o, none⟩) n m)) ∧ (w'.cell? ⟨w.heap.size + 1, 0, none⟩ = some (.int .u64 e2) ∧ w'.cell? ⟨w.heap.size + 1, 1, none⟩ = some (.slice (some ⟨g', o', none⟩) k c)) ∧
        (w'.cell? ⟨g, o + K1 * 3, none⟩ = some (.int .u64 f) ∧ w'.cell? ⟨g, o + K1 * 3 + 1, none⟩ = some (.int .u64 t) ∧ w'.cell? ⟨g, o + K1 * 3 + 2, none⟩ = some (.slice a l mm)) ∧ (w'.cell? ⟨g', o' + K2 * 3, none⟩ = some (.int .u64 f') ∧ w'.cell? ⟨g', o' + K2 * 3 + 1, none⟩ = some (.int .u64 t') ∧ w'.cell? ⟨g', o' + K2 * 3 + 2, none⟩ = some (.slice a' l' mm')) := fun w' h => ⟨h.1.1.c2, h.1.2.c2, HCL.out w' h.2, HCL'.out w' h.2⟩
      have hB0 := hb.size
      have hXlt := h2.1.lt
      have hYlt := h2.2.lt
      refine SeqH.wp_region_hav (fun w' => S2p w.heap.size (w.heap.size + 1) (prc e (some ⟨g, o, none⟩) n m) (prc e2 (some ⟨g', o', none⟩) k c) w' ∧ Below w.heap.size w w') (fun w1 w2 => Below w1.heap.size w1 w2) (fun o => o.dst == some 7 || o.dst == some 8 || o.dst == some 26 || o.dst == some 33)
        (fun o v w' => (o.dst = some 26 ∧ v = .int .i64 K1) ∨ (o.dst = some 33 ∧ v = .int .i64 K2) ∨ ((o.dst = some 7 ∨ o.dst = some 8) ∧ ∃ b, v = .pointer (some ⟨b, 0, none⟩) ∧ wr.heap.size ≤ b ∧ Blk w' b (stc 0 0 none 0 0) 39))
        (fun u v => ∀ b : Nat, u = .pointer (some ⟨b, 0, none⟩) → v ≠ .pointer (some ⟨b, 0, none⟩))
        ⟨fun w => Below.refl _ _, fun h1 h2 => h1.trans (h2.mono h1.size), fun h ht => by
          rcases h with h | h | ⟨h1, b, h2, h3, h4⟩
          · exact .inl h
          · exact .inr (.inl h)
          · exact .inr (.inr ⟨h1, b, h2, h3, h4.below ht⟩), fun h b hu hv => h b hv hu⟩ (by kernel_rfl) (by kernel_rfl) ⟨h2.below (below_one' _), hb.trans ((below_one' _).mono hb.size)⟩ ?_
      repeat (first | (refine SeqH.Rl.skip (by rfl) ?_; (try simp only [Act.put, List.setIfInBounds_toArray, List.set_cons_zero, List.set_cons_succ])) | (refine SeqH.Rl.det ?_ (by rfl) (by rfl) (fun w hS => ?_) ?_; rotate_left; ((try dsimp only at hS); go_simp; (try rw [if_pos (by omega)]); with_reducible rfl); (try simp only [Act.put, List.setIfInBounds_toArray, List.set_cons_zero, List.set_cons_succ])))
      refine SeqH.Rl.hav (by rfl) (by rfl) rfl (by simp) (fun w3 hT3 hS3 KK Q' hK => ?_) (fun v3 w3 hT3 hS3 hG3 _ => ?_)
      · go_simp
        go_at_call 27
        refine (S1 w3 hS3.2).mono ?_
        rintro en w4 ⟨rfl, hb4⟩
        exact hK.out _ _ hb4 ⟨hS3.1.below hb4, hS3.2.trans (hb4.mono hS3.2.size)⟩ (.inl ⟨rfl, rfl⟩) (fun o' u _ b hu => by cases hu)
      rcases hG3 with ⟨_, rfl⟩ | ⟨hh, _⟩ | ⟨hh, _⟩
      rotate_left
      · exact absurd hh (by decide)
      · exact absurd hh (by decide)
      try simp only [Act.put, List.setIfInBounds_toArray, List.set_cons_zero, List.set_cons_succ]
      repeat (first | (refine SeqH.Rl.skip (by rfl) ?_; (try simp only [Act.put, List.setIfInBounds_toArray, List.set_cons_zero, List.set_cons_succ])) | (refine SeqH.Rl.det ?_ (by rfl) (by rfl) (fun w hS => ?_) ?_; rotate_left; ((try dsimp only at hS); go_simp; (try rw [if_pos (by omega)]); with_reducible rfl); (try simp only [Act.put, List.setIfInBounds_toArray, List.set_cons_zero, List.set_cons_succ])))
      refine SeqH.Rl.hav (by rfl) (by rfl) rfl (by simp) (fun w4 hT4 hS4 KK Q' hK => ?_) (fun v4 w4 hT4 hS4 hG4 _ => ?_)
      · go_simp
        go_at_call 27
        refine (S2 w4 hS4.2).mono ?_
        rintro en w5 ⟨rfl, hb5⟩
        exact hK.out _ _ hb5 ⟨hS4.1.below hb5, hS4.2.trans (hb5.mono hS4.2.size)⟩ (.inr (.inl ⟨rfl, rfl⟩)) (fun o' u _ b hu => by cases hu)
      rcases hG4 with ⟨hh, _⟩ | ⟨_, rfl⟩ | ⟨hh, _⟩
      · exact absurd hh (by decide)
      rotate_left
      · exact absurd hh (by decide)
      try simp only [Act.put, List.setIfInBounds_toArray, List.set_cons_zero, List.set_cons_succ]
      repeat (first | (refine SeqH.Rl.skip (by rfl) ?_; (try simp only [Act.put, List.setIfInBounds_toArray, List.set_cons_zero, List.set_cons_succ])) | (refine SeqH.Rl.det ?_ (by rfl) (by rfl) (fun w hS => ?_) ?_; rotate_left; ((try dsimp only at hS); go_simp; (try rw [if_pos (by omega)]); with_reducible rfl); (try simp only [Act.put, List.setIfInBounds_toArray, List.set_cons_zero, List.set_cons_succ])))
      refine SeqH.Rl.hav (by rfl) (by rfl) rfl (by simp) (fun w5 hT5 hS5 KK Q' hK => ?_) (fun v5 w5 hT5 hS5 hG5 _ => ?_)
      · go_simp
        have hsz := hT5.size
        refine hK.out _ _ (below_one w5 _) ⟨hS5.1.below (below_one w5 _), hS5.2.trans ((below_one w5 _).mono hS5.2.size)⟩ (.inr (.inr ⟨.inl rfl, w5.heap.size, rfl, hT5.size, Blk.new w5 _ _⟩)) (fun o' u hu b hv hu2 => ?_)
        injection hv with hv
        injection hv with hv
        injection hv with hv
        rcases hu with ⟨_, rfl⟩ | ⟨_, rfl⟩ | ⟨_, b', rfl, _, hB'⟩
        · cases hu2
        · cases hu2
        · injection hu2 with hu2
          injection hu2 with hu2
          injection hu2 with hu2
          have := hB'.lt
          omega
      rcases hG5 with ⟨hh, _⟩ | ⟨hh, _⟩ | ⟨_, b7, rfl, hb7, hB7⟩
      · exact absurd hh (by decide)
      · exact absurd hh (by decide)
      try simp only [Act.put, List.setIfInBounds_toArray, List.set_cons_zero, List.set_cons_succ]
      repeat (first | (refine SeqH.Rl.skip (by rfl) ?_; (try simp only [Act.put, List.setIfInBounds_toArray, List.set_cons_zero, List.set_cons_succ])) | (refine SeqH.Rl.det ?_ (by rfl) (by rfl) (fun w hS => ?_) ?_; rotate_left; ((try dsimp only at hS); go_simp; (try rw [if_pos (by omega)]); with_reducible rfl); (try simp only [Act.put, List.setIfInBounds_toArray, List.set_cons_zero, List.set_cons_succ])))
      refine SeqH.Rl.hav (by rfl) (by rfl) rfl (by simp) (fun w6 hT6 hS6 KK Q' hK => ?_) (fun v6 w6 hT6 hS6 hG6 hD6 => ?_)
      · go_simp
        have hsz := hT6.size
        refine hK.out _ _ (below_one w6 _) ⟨hS6.1.below (below_one w6 _), hS6.2.trans ((below_one w6 _).mono hS6.2.size)⟩ (.inr (.inr ⟨.inr rfl, w6.heap.size, rfl, hT6.size, Blk.new w6 _ _⟩)) (fun o' u hu b hv hu2 => ?_)
        injection hv with hv
        injection hv with hv
        injection hv with hv
        rcases hu with ⟨_, rfl⟩ | ⟨_, rfl⟩ | ⟨_, b', rfl, _, hB'⟩
        · cases hu2
        · cases hu2
        · injection hu2 with hu2
          injection hu2 with hu2
          injection hu2 with hu2
          have := hB'.lt
          omega
      rcases hG6 with ⟨hh, _⟩ | ⟨hh, _⟩ | ⟨_, b8, rfl, hb8, hB8⟩
      · exact absurd hh (by decide)
      · exact absurd hh (by decide)
      have hne : b8 ≠ b7 := fun hh => by subst hh; exact hD6 _ (.inl rfl) _ rfl rfl
      replace hB7 := hB7.below hT6
      have hTT : Below wr.heap.size wr w6 := (((below_one' wr).trans (hT3.mono (below_one' wr).size)).trans (hT4.mono ((below_one' wr).trans (hT3.mono (below_one' wr).size)).size)).trans ((hT5.trans (hT6.mono hT5.size)).mono (((below_one' wr).trans (hT3.mono (below_one' wr).size)).trans (hT4.mono ((below_one' wr).trans (hT3.mono (below_one' wr).size)).size)).size)
      clear hT3 hS3 hT4 hS4 hT5 hS5 hT6 hD6
      try simp only [Act.put, List.setIfInBounds_toArray, List.set_cons_zero, List.set_cons_succ]
      repeat (first | (refine SeqH.Rl.skip (by rfl) ?_; (try simp only [Act.put, List.setIfInBounds_toArray, List.set_cons_zero, List.set_cons_succ])) | (refine SeqH.Rl.det ?_ (by rfl) (by rfl) (fun w hS => ?_) ?_; rotate_left; ((try dsimp only at hS); go_simp; (try rw [if_pos (by omega)]); with_reducible rfl); (try simp only [Act.put, List.setIfInBounds_toArray, List.set_cons_zero, List.set_cons_succ])))
      refine SeqH.Rl.make (by rfl) (by rfl) (by rfl) (fun KK Q' hK => ?_)
      obtain ⟨c0, c1, c2⟩ := hB7.c3
      have u0 := hB7.free 0
      have u1 := hB7.free 1
      have u2 := hB7.free 2
      go_simp
      obtain ⟨hB7', hk7⟩ := set3h hB7 (.int .u64 f) (.int .u64 t) (.slice a l mm)
      have hB8' := blk_kp hB8 hk7 hne
      have hS7 : S2p w.heap.size (w.heap.size + 1) (prc e (some ⟨g, o, none⟩) n m) (prc e2 (some ⟨g', o', none⟩) k c) _ := ⟨blk_kp hS6.1.1 hk7 (by omega), blk_kp hS6.1.2 hk7 (by omega)⟩
      have hb7' := Kp.below hS6.2 (Nat.le_refl _) hk7 (by omega)
      have hT7 := Kp.below hTT (Nat.le_refl _) hk7 hb7
      generalize ((w6.setCell ⟨b7, 0, none⟩ (.int .u64 f)).setCell ⟨b7, 1, none⟩ (.int .u64 t)).setCell ⟨b7, 2, none⟩ (.slice a l mm) = w7 at *
      refine hK.out _ _ (show Below wr.drew.heap.size wr.drew w7 from ⟨hT7.os, hT7.tape, hT7.output, hT7.size, hT7.block⟩) ⟨hS7, hb7'⟩ ?_
      clear hK KK hB7 hk7 hB8 hTT hS6 c0 c1 c2 u0 u1 u2 L1
      try simp only [Act.put, List.setIfInBounds_toArray, List.set_cons_zero, List.set_cons_succ]
      refine SeqH.Rl.make (by rfl) (by rfl) (by rfl) (fun KK Q' hK => ?_)
      obtain ⟨c0, c1, c2⟩ := hB8'.c3
      have u0 := hB8'.free 0
      have u1 := hB8'.free 1
      have u2 := hB8'.free 2
      go_simp
      obtain ⟨hB8, hk8⟩ := set3h hB8' (.int .u64 f') (.int .u64 t') (.slice a' l' mm')
      have hB7 := blk_kp hB7' hk8 (fun hh => hne hh.symm)
      have hS8 : S2p w.heap.size (w.heap.size + 1) (prc e (some ⟨g, o, none⟩) n m) (prc e2 (some ⟨g', o', none⟩) k c) _ := ⟨blk_kp hS7.1 hk8 (by omega), blk_kp hS7.2 hk8 (by omega)⟩
      have hb8' := Kp.below hb7' (Nat.le_refl _) hk8 (by omega)
      have hT8 := Kp.below hT7 (Nat.le_refl _) hk8 hb8
      generalize ((w7.setCell ⟨b8, 0, none⟩ (.int .u64 f')).setCell ⟨b8, 1, none⟩ (.int .u64 t')).setCell ⟨b8, 2, none⟩ (.slice a' l' mm') = w8 at *
      refine hK.out _ _ (show Below wr.drew.heap.size wr.drew w8 from ⟨hT8.os, hT8.tape, hT8.output, hT8.size, hT8.block⟩) ⟨hS8, hb8'⟩ ?_
      clear hK KK hB7' hk8 hB8' c0 c1 c2 u0 u1 u2 hS7 hb7' hT7 hT8
      try simp only [Act.put, List.setIfInBounds_toArray, List.set_cons_zero, List.set_cons_succ]
      refine SeqH.Rl.nil ?_
      clear h2 hb S1 S2 hne
      obtain ⟨c0, c1, c2⟩ := hB7.c3
      obtain ⟨d0, d1, d2⟩ := hB8.c3
      go_wp2_with fail
      refine (HCON.out _ hb8').mono ?_
      rintro en w9 ⟨r, ok, rfl, hb9, hyes, hno⟩
      replace hS8 := hS8.below hb9
      replace hb8' := hb8'.trans (hb9.mono hb8'.size)
      clear hb9 c0 c1 c2 d0 d1 d2 hB7 hB8
      have HIN : Hid (∀ x, q ≤ x → x < E → (wsn L x = wsn M x ↔ snds (f, t, S) x = snds (f', t', S') x)) := Lib.hid (fun x h1 h2 => by
        have := HEE.out
        have := HIJ.out
        rw [HO1.out x (by omega) (by omega), HO2.out x (by omega) (by omega)])
      cases ok
      · have HN := Lib.hid (hno rfl).2
        have v5 : E ≤ 4611686018427387904 := by have := HEE.out; omega
        clear hyes hno
        go_wp2
        go_roundw
        case rel => exact ⟨E, rfl, by have := HQ2.out; have := HEE.out; omega, v5, Lib.hid (fun x h1 h2 => by
          rcases Int.lt_or_le x q with h | h
          · exact hj.out x h1 h
          · exact (HIN.out x h h2).2 (HN.out x h h2)), hS8, hb8'⟩
        case measure => have := HQ2.out; have := HEE.out; simp [intOf]; omega
      · have HY := Lib.hid (hyes rfl)
        clear hyes hno
        go_wp2
        go_ret2
        obtain ⟨y1, y2, y3, y4⟩ := HY.out
        refine ⟨r, true, rfl, hb8', fun h => absurd HP.out h, fun _ _ => ⟨fun _ => ⟨by have := HQ2.out; omega, by have := HEE.out; omega, fun hh => y3 ((HIN.out r y1 y2).1 hh), fun x h1 h2 => ?_⟩, fun h => by cases h⟩⟩
        rcases Int.lt_or_le x q with h | h
        · exact hj.out x h1 h
        · exact (HIN.out x h (by omega)).2 (y4 x h h2)
end Go.Proofs.Ytmcabaebdloakaa.Cur
