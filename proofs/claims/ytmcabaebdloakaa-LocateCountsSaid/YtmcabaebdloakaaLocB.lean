/- Locate: Stripe; the document's Which and Nodes. -/
import Derived.Test.YtmcabaebdloakaaLocA
namespace Go.Proofs.Ytmcabaebdloakaa.Cur
open Go.RowKit Mem
set_option linter.unusedVariables false
set_option maxRecDepth 100000


/-- What Stripe tells; what Which tells. -/
def lsv (e : Int) (L : List Stp) (p : Int) : Value := if prok (e, L) = true ∧ psk p = true then .tuple #[.int .i64 (wsi L p), .bool true] else .tuple #[.int .i64 0, .bool false]
def whv (e : Int) (L : List Stp) (p : Int) : Int := if prok (e, L) = true ∧ psk p = true then (wsi L p : Int) else -1
theorem lsv_yes {e : Int} {L : List Stp} {p : Int} (h : prok (e, L) = true) (h2 : psk p = true) : lsv e L p = .tuple #[.int .i64 (wsi L p), .bool true] := if_pos ⟨h, h2⟩
theorem lsv_no {e : Int} {L : List Stp} {p : Int} (h : ¬ (prok (e, L) = true ∧ psk p = true)) : lsv e L p = .tuple #[.int .i64 0, .bool false] := if_neg h
theorem whv_yes {e : Int} {L : List Stp} {p : Int} (h : prok (e, L) = true) (h2 : psk p = true) : whv e L p = (wsi L p : Int) := if_pos ⟨h, h2⟩
theorem whv_no {e : Int} {L : List Stp} {p : Int} (h : ¬ (prok (e, L) = true ∧ psk p = true)) : whv e L p = -1 := if_neg h
/-- The nodes of a position. -/
def wset (L : List Stp) (p : Int) : Nat := ((p - (L.getD (wsi L p) stp0).1) % ((L.getD (wsi L p) stp0).2.2.length : Int)).toNat
def wsn (L : List Stp) (p : Int) : List Int := (L.getD (wsi L p) stp0).2.2.getD (wset L p) []
theorem psk_lt {p : Int} (h : psk p = true) : p < 4611686018427387904 := by
  have := of_decide_eq_true h
  omega

set_option maxHeartbeats 2000000 in
theorem lstripe_any (P : Nat → Prop) (e : Int) (A : Option Addr) (n m : Nat) (L : List Stp) (p : Int) (w : World) (hz : Pts w P A n L) (hn : n ≤ 1000000) (hlen : plen 1000000 L) :
    Calls Try.prog 9 #[pragg e A n m, .int .u64 p] w (BPost (lsv e L p) w) := by
  unfold BPost
  have hX := Blk.new w (prc e A n m) 25
  have hb := below_one w (.cells (prc e A n m) 25)
  have hcon := prright_any P e A n m L _ (hz.below hb) hn hlen
  have HS := Lib.hid (fun (w' : World) (h : Below w.heap.size w w') (hv : Vd L) => lsearch_any P e A n m L p w' (hz.below h) hn hv)
  have hec := fun w' => epos_any p w'
  unfold BPost at hcon
  cases hp : prok (e, L)
  · have HV : Hid (lsv e L p = .tuple #[.int .i64 0, .bool false]) := Lib.hid (lsv_no (fun h => by rw [hp] at h; cases h.1))
    rw [hp] at hcon
    obtain ⟨x0, x1⟩ := hX.c2
    clear hz hlen hp
    go_enter Try.func9, Try.ntmps9
    go_wp2_with fail
    refine hcon.mono ?_
    rintro en w1 ⟨rfl, hb1⟩
    replace hb := hb.trans (hb1.mono hb.size)
    clear hcon hb1 x0 x1 hX
    go_wp2
    go_ret2
    exact ⟨by rw [HV.out]; rfl, hb⟩
  cases hs : psk p
  · have HV : Hid (lsv e L p = .tuple #[.int .i64 0, .bool false]) := Lib.hid (lsv_no (fun h => by rw [hs] at h; cases h.2))
    rw [hp] at hcon
    rw [hs] at hec
    obtain ⟨x0, x1⟩ := hX.c2
    clear hz hlen hp hs
    go_enter Try.func9, Try.ntmps9
    go_wp2_with fail
    refine hcon.mono ?_
    rintro en w1 ⟨rfl, hb1⟩
    replace hb := hb.trans (hb1.mono hb.size)
    clear hcon hb1 x0 x1 hX
    go_wp2_with fail
    refine (hec _).mono ?_
    rintro en w2 ⟨rfl, rfl⟩
    go_wp2
    go_ret2
    exact ⟨by rw [HV.out]; rfl, hb⟩
  have HV : Hid (lsv e L p = .tuple #[.int .i64 (wsi L p), .bool true]) := Lib.hid (lsv_yes hp hs)
  have HD := Lib.hid (vd_of hp)
  rw [hp] at hcon
  rw [hs] at hec
  obtain ⟨x0, x1⟩ := hX.c2
  clear hz hlen hp hs
  go_enter Try.func9, Try.ntmps9
  go_wp2_with fail
  refine hcon.mono ?_
  rintro en w1 ⟨rfl, hb1⟩
  replace hX := hX.below hb1
  replace hb := hb.trans (hb1.mono hb.size)
  clear hcon hb1 x0 x1
  obtain ⟨x0, x1⟩ := hX.c2
  go_wp2_with fail
  refine (hec _).mono ?_
  rintro en w2 ⟨rfl, rfl⟩
  have hS := HS.out _ hb HD.out
  unfold BPost at hS
  go_wp2_with fail
  refine hS.mono ?_
  rintro en w3 ⟨rfl, hb3⟩
  replace hb := hb.trans (hb3.mono hb.size)
  clear hS hb3 x0 x1 hX hec
  go_wp2
  go_ret2
  exact ⟨by rw [HV.out]; rfl, hb⟩

set_option maxHeartbeats 4000000 in
theorem rwhich_any (P : Nat → Prop) (e : Int) (A : Option Addr) (n m : Nat) (L : List Stp) (p : Int) (w : World) (hz : Pts w P A n L) (hn : n ≤ 1000000) (hlen : plen 1000000 L) (e0 : 0 ≤ e) (p0 : 0 ≤ p) :
    Calls Try.prog 11 #[pragg e A n m, .int .u64 p] w (BPost (.int .i64 (whv e L p)) w) := by
  unfold BPost
  have hX := Blk.new w (prc e A n m) 25
  have hb := below_one w (.cells (prc e A n m) 25)
  have hcon := rprright_any P e A n m L _ (hz.below hb) hn hlen e0
  have hec := fun w' => rpos17_any p w'
  unfold BPost at hcon
  have HX := Lib.hid hX
  cases hp : prok (e, L)
  · have HV : Hid (whv e L p = -1) := Lib.hid (whv_no (fun h => by rw [hp] at h; cases h.1))
    rw [hp] at hcon
    obtain ⟨x0, x1⟩ := hX.c2
    clear hz hlen hp
    go_enter Try.func11, Try.ntmps11
    go_wp2_with fail
    refine hcon.mono ?_
    rintro en w1 ⟨rfl, hb1⟩
    replace hb := hb.trans (hb1.mono hb.size)
    clear hcon hb1 x0 x1 hX
    go_wp2
    go_ret
    exact ⟨by rw [HV.out]; rfl, hb⟩
  cases hs : psk p
  · have HV : Hid (whv e L p = -1) := Lib.hid (whv_no (fun h => by rw [hs] at h; cases h.2))
    rw [hp] at hcon
    rw [hs] at hec
    obtain ⟨x0, x1⟩ := hX.c2
    clear hz hlen hp hs
    go_enter Try.func11, Try.ntmps11
    go_wp2_with fail
    refine hcon.mono ?_
    rintro en w1 ⟨rfl, hb1⟩
    replace hb := hb.trans (hb1.mono hb.size)
    clear hcon hb1 x0 x1 hX
    go_wp2_with fail
    refine (hec _).mono ?_
    rintro en w2 ⟨rfl, rfl⟩
    go_wp2
    go_ret
    exact ⟨by rw [HV.out]; rfl, hb⟩
  have HV : Hid (whv e L p = (wsi L p : Int)) := Lib.hid (whv_yes hp hs)
  have HD := Lib.hid (vd_of hp)
  have HW := Lib.hid ((vd_of hp).wsi p0 (psk_lt hs))
  have HL := Lib.hid hz.1
  have HC := Lib.hid (fun h => hz.cells h)
  rw [hp] at hcon
  rw [hs] at hec
  obtain ⟨x0, x1⟩ := hX.c2
  clear hz hlen hp hs
  go_enter Try.func11, Try.ntmps11
  go_wp2_with fail
  refine hcon.mono ?_
  rintro en w1 ⟨rfl, hb1⟩
  replace hX := hX.below hb1
  replace hb := hb.trans (hb1.mono hb.size)
  clear hcon hb1 x0 x1
  go_wp2_with fail
  refine (hec _).mono ?_
  rintro en w2 ⟨rfl, rfl⟩
  clear hec
  go_wp2
  go_loopw [5] (fun i wr => ∃ k : Nat, k ≤ n ∧ i = .int .i64 k ∧ Hid (∀ j, j < k → ¬ ((L.getD j stp0).1 ≤ p ∧ p < (L.getD j stp0).2.1)) ∧ Blk wr w.heap.size (prc e A n m) 25 ∧ Below w.heap.size w wr) (fun i _ => n - (intOf i).toNat)
  case atStart => exact ⟨0, by omega, rfl, Lib.hid (by intro j hj; omega), hX, hb⟩
  case round =>
    clear hX hb
    obtain ⟨k, hk, rfl, hj, hX, hb⟩ := hrel
    obtain ⟨x0, x1⟩ := hX.c2
    by_cases hlt : k < n
    · obtain ⟨g, o, rfl, _, hg, hc⟩ := HC.out (by omega)
      obtain ⟨f, t, S, a, l, mm, he, _, _, _, _, _, _, hcell⟩ := hc k hlt
      obtain ⟨c0, c1, c2⟩ := hcell wr hb
      have HE := Lib.hid he
      have e2 : (k : Int) < n := by omega
      have e3 : IntKind.i64.wrap ((k : Int) + 1) = ((k + 1 : Nat) : Int) := IntWalk.i64_in _ (by omega)
      clear hc hcell he c2
      by_cases h1 : f ≤ p
      · have d1 : decide (f ≤ p) = true := by simpa using h1
        by_cases h2 : p < t
        · have d2 : decide (p < t) = true := by simpa using h2
          have HK : Hid (wsi L p = k) := Lib.hid (HD.out.only (by rw [HL.out]; exact hlt) (by rw [HE.out]; exact h1) (by rw [HE.out]; exact h2))
          go_wp2
          go_ret
          exact ⟨by rw [HV.out, HK.out]; rfl, hb⟩
        · have d2 : decide (p < t) = false := by simpa using h2
          go_wp2
          go_roundw
          case rel => exact ⟨k + 1, by omega, by go_num, Lib.hid (fun j hjk => by
            rcases Nat.lt_or_ge j k with h | h
            · exact hj.out j h
            · obtain rfl : j = k := by omega
              rw [HE.out]; exact fun hh => absurd hh.2 (by show ¬ p < t; omega)), hX, hb⟩
          case measure => simp [intOf]; omega
      · have d1 : decide (f ≤ p) = false := by simpa using h1
        go_wp2
        go_roundw
        case rel => exact ⟨k + 1, by omega, by go_num, Lib.hid (fun j hjk => by
          rcases Nat.lt_or_ge j k with h | h
          · exact hj.out j h
          · obtain rfl : j = k := by omega
            rw [HE.out]; exact fun hh => absurd hh.1 (by show ¬ f ≤ p; omega)), hX, hb⟩
        case measure => simp [intOf]; omega
    · exfalso
      obtain ⟨q1, q2, q3⟩ := HW.out
      exact hj.out (wsi L p) (by rw [HL.out] at q1; omega) ⟨q2, q3⟩

/-- What the document's Nodes hands back: a set where it lies. -/
def WnPost (L : List Stp) (p : Int) (w : World) (e : Ending) (w' : World) : Prop :=
  ∃ a l m, e = .returned (.slice a l m) ∧ l ≤ m ∧ Us w a l (wsn L p) ∧ Below w.heap.size w w'
set_option maxHeartbeats 4000000 in
theorem rnodes21_any (P : Nat → Prop) (e : Int) (A : Option Addr) (n m : Nat) (L : List Stp) (p : Int) (w : World) (hz : Pts w P A n L) (hn : n ≤ 1000000) (hlen : plen 1000000 L) (e0 : 0 ≤ e) (p0 : 0 ≤ p) (hp : prok (e, L) = true) (hs : psk p = true) :
    Calls Try.prog 15 #[pragg e A n m, .int .u64 p] w (WnPost L p w) := by
  have hX := Blk.new w (prc e A n m) 25
  have hb := below_one w (.cells (prc e A n m) 25)
  have hcon := rwhich_any P e A n m L p _ (hz.below hb) hn hlen e0 p0
  unfold BPost at hcon
  rw [whv_yes hp hs] at hcon
  have hv := vd_of hp
  obtain ⟨q1, q2, q3⟩ := hv.wsi p0 (psk_lt hs)
  rw [hz.1] at q1
  obtain ⟨g, o, rfl, _, hg, hc⟩ := hz.cells (by omega)
  obtain ⟨f, t, S, a, l, mm, he, _, _, hl, hlm, _, hst, hcell⟩ := hc _ q1
  rw [he] at q2 q3
  obtain ⟨k1, k2, k3, k4, _⟩ := stok_parts (hv.ok _ (by rw [hz.1]; exact q1))
  rw [he] at k1 k2 k3 k4
  replace k2 : t ≤ 4611686018427387904 := k2
  replace k3 : 1 ≤ l := by rw [← hl]; exact k3
  replace k4 : l ≤ 8 := by rw [← hl]; exact k4
  replace q2 : f ≤ p := q2
  replace q3 : p < t := q3
  have hj : wset L p = ((p - f) % (l : Int)).toNat := by unfold wset; rw [he, ← hl]
  have hsn : wsn L p = S.getD (wset L p) [] := by unfold wsn; rw [he]
  generalize hK : wsi L p = K at *
  have HB := Lib.hid (fun w' (h : Below w.heap.size w w') => hcell w' h)
  have r0 := Int.emod_nonneg (p - f) (show (l : Int) ≠ 0 by omega)
  have r1 := Int.emod_lt_of_pos (p - f) (show (0 : Int) < l by omega)
  obtain ⟨g2, o2, rfl, _, hg2, hc2⟩ := hst.cells (by omega)
  obtain ⟨a3, l3, m3, hl3, hlm3, _, hus, _, _, hcell2⟩ := hc2 (wset L p) (by rw [hj]; omega)
  rw [← hsn] at hus
  obtain ⟨x0, x1⟩ := hX.c2
  obtain ⟨r, hr⟩ : ∃ r, r = (p - f) % (l : Int) := ⟨_, rfl⟩
  rw [← hr] at hj r0 r1
  obtain ⟨j, rfl⟩ := Int.eq_ofNat_of_zero_le r0
  rw [Int.toNat_natCast] at hj
  rw [hj] at hcell2
  have e1 : IntKind.u64.wrap (p - f) = p - f := IntWalk.u64_in _ (by omega)
  have e2 : IntKind.u64.wrap (l : Int) = l := IntWalk.u64_in _ (by omega)
  have e4 : (p - f).tmod (l : Int) = (j : Int) := by rw [hr]; exact IntWalk.rem_in _ _ (by omega)
  have e5 : IntKind.u64.wrap (j : Int) = j := IntWalk.u64_in _ (by omega)
  have e6 : (j : Int) < l := by omega
  have e7 : ¬ (l : Int) = 0 := by omega
  have e8 : ¬ l = 0 := by omega
  have e9 : (K : Int) < n := by omega
  have HUS := Lib.hid hus
  have HC2 := Lib.hid hcell2
  clear hz hlen hc hc2 he hl hst hcell hcell2 hus hsn hr hj hv hK hX
  go_enter Try.func15, Try.ntmps15
  go_wp2_with fail
  refine hcon.mono ?_
  rintro en w1 ⟨rfl, hb1⟩
  have x1' := (hb1.cell (lt_of_cell x1)).trans x1
  replace hb := hb.trans (hb1.mono hb.size)
  obtain ⟨c0, c1, c2⟩ := HB.out _ hb
  clear hcon hb1 x0 x1
  go_upto_region 3 with (fail)
  have hS := Blk.new w1 (stc f t (some ⟨g2, o2, none⟩) l mm) 39
  have hbx := below_one w1 (.cells (stc f t (some ⟨g2, o2, none⟩) l mm) 39)
  replace hb := hb.trans (hbx.mono hb.size)
  clear hbx c0 c1 c2 x1'
  generalize w1.alloc (.cells (stc f t (some ⟨g2, o2, none⟩) l mm) 39) = w2 at *
  generalize w1.heap.size = bs at *
  have L1 : ∀ w', (Below w.heap.size w w' ∧ Blk w' bs (stc f t (some ⟨g2, o2, none⟩) l mm) 39) → w'.cell? ⟨bs, 0, none⟩ = some (.int .u64 f) ∧ w'.cell? ⟨bs, 2, none⟩ = some (.slice (some ⟨g2, o2, none⟩) l mm) ∧ w'.cell? ⟨g2, o2 + j, none⟩ = some (.slice a3 l3 m3) := fun w' h => ⟨h.2.c3.1, h.2.c3.2.2, HC2.out w' h.1⟩
  have hSS : Below w.heap.size w w2.drew ∧ Blk w2.drew bs (stc f t (some ⟨g2, o2, none⟩) l mm) 39 := ⟨hb.trans ((below_one' _).mono hb.size), hS.below (below_one' _)⟩
  refine Seq.wp_region_seq (fun w' => Below w.heap.size w w' ∧ Blk w' bs (stc f t (some ⟨g2, o2, none⟩) l mm) 39) (by kernel_rfl) (by kernel_rfl) hSS ?_
  repeat (first | (refine Seq.Seq.skip (by rfl) ?_; (try simp only [Act.put, List.setIfInBounds_toArray, List.set_cons_zero, List.set_cons_succ])) | (refine Seq.Seq.det ?_ (by rfl) (fun w hS => ?_) ?_; rotate_left; ((try dsimp only at hS); go_simp; (try rw [if_pos (by omega)]); with_reducible rfl); (try simp only [Act.put, List.setIfInBounds_toArray, List.set_cons_zero, List.set_cons_succ])))
  refine Seq.Seq.nil ?_
  go_wp2
  go_ret
  exact ⟨a3, l3, m3, rfl, hlm3, HUS.out, hSS.1⟩
end Go.Proofs.Ytmcabaebdloakaa.Cur
