/- Locate: two stripes deal alike for good if they do so for a round: the plain facts; the nodes of a position in a stripe; the first position that two stripes deal otherwise. -/
import Derived.Test.YtmcabaebdloakaaLocC
import Derived.Test.YtmcabaebdloakaaK25
import Derived.Test.YtmcabaebdloakaaK30
namespace Go.Proofs.Ytmcabaebdloakaa.Cur
open Go.RowKit Mem
set_option linter.unusedVariables false
set_option maxRecDepth 100000


/-- To which nodes a stripe deals a position. -/
def snds (s : Stp) (q : Int) : List Int := s.2.2.getD ((q - s.1) % (s.2.2.length : Int)).toNat []
theorem wsn_snds (L : List Stp) (p : Int) : wsn L p = snds (L.getD (wsi L p) stp0) p := rfl
theorem emod_period (a m : Int) : (a + m) % m = a % m := by
  rw [Int.add_emod, Int.emod_self, Int.add_zero, Int.emod_emod]
theorem snds_period (s : Stp) (q : Int) : snds s (q + s.2.2.length) = snds s q := by
  unfold snds
  rw [show q + (s.2.2.length : Int) - s.1 = (q - s.1) + s.2.2.length by omega, emod_period]
/-- Two sets of a stripe are not the same. -/
theorem set_ne {S : List (List Int)} (h : sok [] S = true) {i j : Nat} (hi : i < S.length) (hj : j < S.length) (hij : i ≠ j) : S.getD i [] ≠ S.getD j [] := by
  intro e
  have hf := sok_fine h i hi
  have h1 : 1 ≤ (S.getD i []).length := by
    unfold fne at hf
    simp only [Bool.and_eq_true, decide_eq_true_eq] at hf
    omega
  obtain ⟨x, hx⟩ : ∃ x, x ∈ S.getD i [] := by
    rcases hl : S.getD i [] with _ | ⟨x, l⟩
    · rw [hl] at h1; simp at h1
    · exact ⟨x, by simp⟩
  have h2 := (sok_apart h hi (x := x) (by rw [List.contains_eq_mem, decide_eq_true_eq]; exact hx)).2 j hj (fun h => hij h.symm)
  rw [← e, List.contains_eq_mem, decide_eq_false_iff_not] at h2
  exact h2 hx
theorem round_less {s t : Stp} {a e : Int} (ht : stok t = true) (hm1 : 1 ≤ s.2.2.length) (hm : s.2.2.length < t.2.2.length) (h : ∀ q, a ≤ q → q < a + t.2.2.length → q < e → snds s q = snds t q) : e ≤ a + s.2.2.length := by
  rcases Int.lt_or_le (a + s.2.2.length) e with hlt | hle
  case inr => exact hle
  exfalso
  have h0 := h a (Int.le_refl _) (by omega) (by omega)
  have h1 := h (a + s.2.2.length) (by omega) (by omega) hlt
  rw [snds_period, h0] at h1
  obtain ⟨k1, k2, k3, k4, k5⟩ := stok_parts ht
  unfold snds at h1
  have hn : (t.2.2.length : Int) ≠ 0 := by omega
  have i0 := Int.emod_nonneg (a - t.1) hn
  have i1 := Int.emod_lt_of_pos (a - t.1) (show (0 : Int) < t.2.2.length by omega)
  have j0 := Int.emod_nonneg (a + s.2.2.length - t.1) hn
  have j1 := Int.emod_lt_of_pos (a + s.2.2.length - t.1) (show (0 : Int) < t.2.2.length by omega)
  refine set_ne k5 (i := ((a - t.1) % (t.2.2.length : Int)).toNat) (j := ((a + s.2.2.length - t.1) % (t.2.2.length : Int)).toNat) (by omega) (by omega) (fun hij => ?_) h1
  have hij2 : (a + s.2.2.length - t.1) % (t.2.2.length : Int) = (a - t.1) % (t.2.2.length : Int) := by omega
  have h3 := Int.emod_eq_emod_iff_emod_sub_eq_zero.1 hij2
  rw [show a + (s.2.2.length : Int) - t.1 - (a - t.1) = s.2.2.length by omega, Int.emod_eq_of_lt (by omega) (by omega)] at h3
  omega
theorem round_same {s t : Stp} {a e : Int} (hm1 : 1 ≤ s.2.2.length) (hm : s.2.2.length = t.2.2.length) (h : ∀ q, a ≤ q → q < a + t.2.2.length → q < e → snds s q = snds t q) : ∀ (d : Nat) (q : Int), a ≤ q → q < e → q - a < d → snds s q = snds t q
  | 0, q, h1, h2, h3 => by omega
  | d + 1, q, h1, h2, h3 => by
    by_cases hr : q < a + t.2.2.length
    · exact h q h1 hr h2
    · have ih := round_same hm1 hm h d (q - t.2.2.length) (by omega) (by omega) (by omega)
      have e1 := snds_period s (q - t.2.2.length)
      have e2 := snds_period t (q - t.2.2.length)
      rw [hm, show q - (t.2.2.length : Int) + t.2.2.length = q by omega] at e1
      rw [show q - (t.2.2.length : Int) + t.2.2.length = q by omega] at e2
      rw [e1, e2, ih]
/-- ALIKE FOR A ROUND, ALIKE FOR GOOD. -/
theorem round_all {s t : Stp} {a e R : Int} (hs : stok s = true) (ht : stok t = true) (hR : R = max (s.2.2.length : Int) (t.2.2.length : Int)) (h : ∀ q, a ≤ q → q < a + R → q < e → snds s q = snds t q) : ∀ q, a ≤ q → q < e → snds s q = snds t q := by
  obtain ⟨_, _, s3, _, _⟩ := stok_parts hs
  obtain ⟨_, _, t3, _, _⟩ := stok_parts ht
  rcases Nat.lt_trichotomy s.2.2.length t.2.2.length with hl | hl | hl
  · have he := round_less (a := a) (e := e) ht s3 hl (fun q h1 h2 h3 => h q h1 (by omega) h3)
    exact fun q h1 h2 => h q h1 (by omega) h2
  · exact fun q h1 h2 => round_same s3 hl (fun q h1 h2 h3 => h q h1 (by omega) h3) ((q - a).toNat + 1) q h1 h2 (by omega)
  · have he := round_less (a := a) (e := e) hs t3 hl (fun q h1 h2 h3 => (h q h1 (by omega) h3).symm)
    exact fun q h1 h2 => h q h1 (by omega) h2

def SnPost (s : Stp) (p : Int) (w : World) (e : Ending) (w' : World) : Prop :=
  ∃ a l m, e = .returned (.slice a l m) ∧ l ≤ m ∧ l ≤ 8 ∧ Us w a l (snds s p) ∧ Below w.heap.size w w'
set_option maxHeartbeats 4000000 in
theorem lnodes_any (P : Nat → Prop) (f t : Int) (A : Option Addr) (n m : Nat) (S : List (List Int)) (p : Int) (w : World) (hz : Sts w P A n S) (hm : n ≤ m) (hok : stok (f, t, S) = true) (f0 : 0 ≤ f) (q2 : f ≤ p) (q3 : p < t) :
    Calls Try.prog 51 #[stagg f t A n m, .int .u64 p] w (SnPost (f, t, S) p w) := by
  have hX := Blk.new w (stc f t A n m) 39
  have hb := below_one w (.cells (stc f t A n m) 39)
  obtain ⟨k1, k2, k3, k4, k5⟩ := stok_parts hok
  have hl := hz.1
  replace k2 : t ≤ 4611686018427387904 := k2
  replace k3 : 1 ≤ n := by rw [← hl]; exact k3
  replace k4 : n ≤ 8 := by rw [← hl]; exact k4
  have hll := sok_lens k5
  have hdl := dealt_any P f t A n m S p _ (hz.below hb) hm (by omega) (fun l h => by have := hll l h; omega) f0 (by omega) (by omega)
  have hdv := dlv_yes (s := (f, t, S)) (p := p) ⟨hok, q2, q3⟩
  rw [show ((f, t, S).2.2.length : Int) = (n : Int) by rw [← hl]] at hdv
  replace hdv : dlv (f, t, S) p = .tuple #[.int .i64 ((p - f) % (n : Int)), .int .u64 ((p - f) / (n : Int)), .bool true] := hdv
  rw [hdv] at hdl
  unfold BPost at hdl
  have hsn : snds (f, t, S) p = S.getD ((p - f) % (n : Int)).toNat [] := by unfold snds; rw [← hl]
  have r0 := Int.emod_nonneg (p - f) (show (n : Int) ≠ 0 by omega)
  have r1 := Int.emod_lt_of_pos (p - f) (show (0 : Int) < n by omega)
  obtain ⟨r, hr⟩ : ∃ r, r = (p - f) % (n : Int) := ⟨_, rfl⟩
  rw [← hr] at hdl hsn r0 r1
  generalize (p - f) / (n : Int) = U at *
  obtain ⟨j, rfl⟩ := Int.eq_ofNat_of_zero_le r0
  rw [Int.toNat_natCast] at hsn
  obtain ⟨g2, o2, rfl, _, hg2, hc2⟩ := hz.cells (by omega)
  obtain ⟨a3, l3, m3, hl3, hlm3, _, hus, _, _, hcell2⟩ := hc2 j (by omega)
  have hl8 : l3 ≤ 8 := by
    have h5 := hll (S.getD j []) (by rw [List.getD_eq_getElem?_getD, List.getElem?_eq_getElem (by rw [hl]; omega)]; exact List.getElem_mem _)
    omega
  rw [← hsn] at hus
  have HUS := Lib.hid hus
  have HC2 := Lib.hid (fun w' (h : Below w.heap.size w w') => hcell2 w' h)
  have e6 : (j : Int) < n := by omega
  obtain ⟨x0, x1, x2⟩ := hX.c3
  clear hz hc2 hcell2 hus hsn hdv hr hl hl3 hok k5 hll
  go_enter Try.func51, Try.ntmps51
  go_wp2_with fail
  refine hdl.mono ?_
  rintro en w1 ⟨rfl, hb1⟩
  replace hX := hX.below hb1
  replace hb := hb.trans (hb1.mono hb.size)
  have d0 := HC2.out _ hb
  clear hdl hb1 x0 x1 x2
  obtain ⟨x0, x1, x2⟩ := hX.c3
  go_wp2
  go_ret
  exact ⟨a3, l3, m3, rfl, hlm3, hl8, HUS.out, hb⟩

/-- What firstOf tells. -/
def FoPost (s t : Stp) (a e : Int) (w : World) (en : Ending) (w' : World) : Prop :=
  ∃ r ok, en = .returned (.tuple #[.int .u64 r, .bool ok]) ∧ Below w.heap.size w w' ∧ (ok = true → a ≤ r ∧ r < e ∧ snds s r ≠ snds t r ∧ ∀ q, a ≤ q → q < r → snds s q = snds t q) ∧ (ok = false → r = 0 ∧ ∀ q, a ≤ q → q < e → snds s q = snds t q)
def S2f (b4 b5 : Nat) (x y : Array Value) (w' : World) : Prop := Blk w' b4 x 39 ∧ Blk w' b5 y 39
theorem S2f.below {b4 b5 : Nat} {x y : Array Value} {w' w'' : World} (h : S2f b4 b5 x y w') (hb : Below w'.heap.size w' w'') : S2f b4 b5 x y w'' := ⟨h.1.below hb, h.2.below hb⟩
set_option maxHeartbeats 8000000 in
theorem firstof_any (P Q : Nat → Prop) (f t : Int) (A : Option Addr) (n m : Nat) (S : List (List Int)) (f2 t2 : Int) (B : Option Addr) (k c : Nat) (T : List (List Int)) (a e : Int) (w : World) (hz : Sts w P A n S) (hz2 : Sts w Q B k T) (hm : n ≤ m) (hm2 : k ≤ c)
    (hok : stok (f, t, S) = true) (hok2 : stok (f2, t2, T) = true) (f0 : 0 ≤ f) (f20 : 0 ≤ f2) (fa : f ≤ a) (f2a : f2 ≤ a) (e0 : 0 ≤ e) (et : e ≤ t) (et2 : e ≤ t2) (a1 : a < 4611686018427387904) :
    Calls Try.prog 38 #[stagg f t A n m, stagg f2 t2 B k c, .int .u64 a, .int .u64 e] w (FoPost (f, t, S) (f2, t2, T) a e w) := by
  have hX := (Blk.new w (stc f t A n m) 39).alloc (.cells (stc f2 t2 B k c) 39)
  have hY := Blk.new (w.alloc (.cells (stc f t A n m) 39)) (stc f2 t2 B k c) 39
  rw [World.size_alloc] at hY
  have hb := below_two w (.cells (stc f t A n m) 39) (.cells (stc f2 t2 B k c) 39)
  obtain ⟨k1, k2, k3, k4, _⟩ := stok_parts hok
  obtain ⟨m1, m2, m3, m4, _⟩ := stok_parts hok2
  replace k2 : t ≤ 4611686018427387904 := k2
  replace m2 : t2 ≤ 4611686018427387904 := m2
  replace k3 : 1 ≤ n := by rw [← hz.1]; exact k3
  replace k4 : n ≤ 8 := by rw [← hz.1]; exact k4
  replace m3 : 1 ≤ k := by rw [← hz2.1]; exact m3
  replace m4 : k ≤ 8 := by rw [← hz2.1]; exact m4
  obtain ⟨R, hR⟩ : ∃ R, R = max (n : Int) (k : Int) := ⟨_, rfl⟩
  have hR1 : 1 ≤ R ∧ R ≤ 8 := by omega
  obtain ⟨E, hE⟩ : ∃ E, E = min (a + R) e := ⟨_, rfl⟩
  have hE1 : E ≤ a + R ∧ E ≤ e ∧ (E = a + R ∨ E = e) := by omega
  have hround := round_all (s := (f, t, S)) (t := (f2, t2, T)) (a := a) (e := e) (R := R) hok hok2 (by rw [hR, ← hz.1, ← hz2.1])
  have HN1 := Lib.hid (fun (w' : World) (h : Below w.heap.size w w') (q : Int) (h1 : a ≤ q) (h2 : q < E) => lnodes_any P f t A n m S q w' (hz.below h) hm hok f0 (by omega) (by omega))
  have HN2 := Lib.hid (fun (w' : World) (h : Below w.heap.size w w') (q : Int) (h1 : a ≤ q) (h2 : q < E) => lnodes_any Q f2 t2 B k c T q w' (hz2.below h) hm2 hok2 f20 (by omega) (by omega))
  have HR := Lib.hid hround
  have HEE := Lib.hid hE1
  have HRR := Lib.hid hR1
  have v1 : max (n : Int) (k : Int) = R := hR.symm
  have v2 : IntKind.u64.wrap R = R := IntWalk.u64_in _ (by omega)
  have v3 : IntKind.u64.wrap (a + R) = a + R := IntWalk.u64_in _ (by omega)
  have v4 : min (a + R) e = E := hE.symm
  have HA := Lib.hid (And.intro (show 0 ≤ a by omega) a1)
  obtain ⟨x0, x1, x2⟩ := hX.c3
  obtain ⟨y0, y1, y2⟩ := hY.c3
  clear hz hz2 hm hm2 hok hok2 hround hR hE hE1 hR1 k1 k2 k3 k4 m1 m2 m3 m4 fa f2a et et2 e0 f0 f20 a1
  generalize (f, t, S) = s at *
  generalize (f2, t2, T) = u at *
  go_enter Try.func38, Try.ntmps38
  go_wp2
  clear x0 x1 x2 y0 y1 y2
  go_loopw [11] (fun pv wr => ∃ q : Int, pv = .int .u64 q ∧ a ≤ q ∧ (q ≤ E ∨ q = a) ∧ Hid (∀ r, a ≤ r → r < q → snds s r = snds u r) ∧ S2f w.heap.size (w.heap.size + 1) (stc f t A n m) (stc f2 t2 B k c) wr ∧ Below w.heap.size w wr) (fun pv _ => (E - intOf pv).toNat)
  case atStart => exact ⟨a, rfl, Int.le_refl _, .inr rfl, Lib.hid (by intro r h1 h2; omega), ⟨hX, hY⟩, hb⟩
  case round =>
    clear hX hY hb
    obtain ⟨q, rfl, hq0, hq1, hj, hS, hb⟩ := hrel
    by_cases hlt : q < E
    · have d1 : decide (q < E) = true := by simpa using hlt
      have hq9 : q < 4611686018427387912 := by have := HEE.out; have := HRR.out; have := HA.out; omega
      have L1 : ∀ w', S2f w.heap.size (w.heap.size + 1) (stc f t A n m) (stc f2 t2 B k c) w' → (w'.cell? ⟨w.heap.size, 0, none⟩ = some (.int .u64 f) ∧ w'.cell? ⟨w.heap.size, 1, none⟩ = some (.int .u64 t) ∧ w'.cell? ⟨w.heap.size, 2, none⟩ = some (.slice A n m)) ∧ (w'.cell? ⟨w.heap.size + 1, 0, none⟩ = some (.int .u64 f2) ∧ w'.cell? ⟨w.heap.size + 1, 1, none⟩ = some (.int .u64 t2) ∧ w'.cell? ⟨w.heap.size + 1, 2, none⟩ = some (.slice B k c)) := fun w' h => ⟨h.1.c3, h.2.c3⟩
      have e3 : IntKind.u64.wrap (q + 1) = q + 1 := by have := HA.out; rw [wrapu]; omega
      have HLT := Lib.hid hlt
      have HQ0 := Lib.hid hq0
      clear hlt hq0 hq1 hq9
      go_wp2
      replace hS := hS.below (below_one' _)
      replace hb := hb.trans ((below_one' _).mono hb.size)
      refine Seq.wp_region_seq (S2f w.heap.size (w.heap.size + 1) (stc f t A n m) (stc f2 t2 B k c)) (by kernel_rfl) (by kernel_rfl) hS ?_
      repeat (first | (refine Seq.Seq.skip (by rfl) ?_; (try simp only [Act.put, List.setIfInBounds_toArray, List.set_cons_zero, List.set_cons_succ])) | (refine Seq.Seq.det ?_ (by rfl) (fun w hS => ?_) ?_; rotate_left; ((try dsimp only at hS); go_simp; (try rw [if_pos (by omega)]); with_reducible rfl); (try simp only [Act.put, List.setIfInBounds_toArray, List.set_cons_zero, List.set_cons_succ])))
      refine Seq.Seq.make (by rfl) (by rfl) (fun K Q' hK => ?_)
      go_simp
      go_at_call 51
      refine (HN1.out _ hb q HQ0.out HLT.out).mono ?_
      rintro en w1 ⟨a1, l1, m1, rfl, _, l18, hu1, hb1⟩
      replace hu1 := hu1.below hb1
      replace hS := hS.below hb1
      replace hb := hb.trans (hb1.mono hb.size)
      refine hK.out _ _ (hS) ?_
      clear hK K
      try simp only [Act.put, List.setIfInBounds_toArray, List.set_cons_zero, List.set_cons_succ]
      repeat (first | (refine Seq.Seq.skip (by rfl) ?_; (try simp only [Act.put, List.setIfInBounds_toArray, List.set_cons_zero, List.set_cons_succ])) | (refine Seq.Seq.det ?_ (by rfl) (fun w hS => ?_) ?_; rotate_left; ((try dsimp only at hS); go_simp; (try rw [if_pos (by omega)]); with_reducible rfl); (try simp only [Act.put, List.setIfInBounds_toArray, List.set_cons_zero, List.set_cons_succ])))
      refine Seq.Seq.make (by rfl) (by rfl) (fun K Q' hK => ?_)
      go_simp
      go_at_call 51
      refine (HN2.out _ hb q HQ0.out HLT.out).mono ?_
      rintro en w2 ⟨a2, l2, m2, rfl, _, l28, hu2, hb2⟩
      replace hu1 := hu1.below hb2
      replace hu2 := hu2.below hb2
      replace hS := hS.below hb2
      replace hb := hb.trans (hb2.mono hb.size)
      refine hK.out _ _ (hS) ?_
      clear hK K
      try simp only [Act.put, List.setIfInBounds_toArray, List.set_cons_zero, List.set_cons_succ]
      repeat (first | (refine Seq.Seq.skip (by rfl) ?_; (try simp only [Act.put, List.setIfInBounds_toArray, List.set_cons_zero, List.set_cons_succ])) | (refine Seq.Seq.det ?_ (by rfl) (fun w hS => ?_) ?_; rotate_left; ((try dsimp only at hS); go_simp; (try rw [if_pos (by omega)]); with_reducible rfl); (try simp only [Act.put, List.setIfInBounds_toArray, List.set_cons_zero, List.set_cons_succ])))
      refine Seq.Seq.make (by rfl) (by rfl) (fun K Q' hK => ?_)
      go_simp
      go_at_call 39
      refine (sequal_any a1 a2 l1 l2 m1 m2 (snds s q) (snds u q) _ hu1 hu2 (by omega) (by omega)).mono ?_
      rintro en w3 ⟨rfl, hb3⟩
      replace hS := hS.below hb3
      replace hb := hb.trans (hb3.mono hb.size)
      refine hK.out _ _ (hS) ?_
      clear hK K
      try simp only [Act.put, List.setIfInBounds_toArray, List.set_cons_zero, List.set_cons_succ]
      obtain ⟨bv, hbv⟩ : ∃ bv, bv = decide (snds s q = snds u q) := ⟨_, rfl⟩
      rw [← hbv]
      have HBV := Lib.hid hbv
      clear hbv
      repeat (first | (refine Seq.Seq.skip (by rfl) ?_; (try simp only [Act.put, List.setIfInBounds_toArray, List.set_cons_zero, List.set_cons_succ])) | (refine Seq.Seq.det ?_ (by rfl) (fun w hS => ?_) ?_; rotate_left; ((try dsimp only at hS); go_simp; (try rw [if_pos (by omega)]); with_reducible rfl); (try simp only [Act.put, List.setIfInBounds_toArray, List.set_cons_zero, List.set_cons_succ])))
      refine Seq.Seq.nil ?_
      clear hb1 hb2 hb3 hu1 hu2 L1
      cases bv
      · have HNE : Hid (snds s q ≠ snds u q) := Lib.hid (of_decide_eq_false HBV.out.symm)
        go_wp2
        go_ret2
        exact ⟨q, true, rfl, hb, fun _ => ⟨HQ0.out, by have := HLT.out; have := HEE.out; omega, HNE.out, hj.out⟩, fun h => by cases h⟩
      · have HEQ : Hid (snds s q = snds u q) := Lib.hid (of_decide_eq_true HBV.out.symm)
        go_wp2
        go_roundw
        case rel => exact ⟨q + 1, rfl, by have := HQ0.out; omega, .inl (by have := HLT.out; omega), Lib.hid (fun r h1 h2 => by
          rcases Int.lt_or_le r q with h | h
          · exact hj.out r h1 h
          · obtain rfl : r = q := by omega
            exact HEQ.out), hS, hb⟩
        case measure => have := HLT.out; simp [intOf]; omega
    · have d1 : decide (q < E) = false := by simpa using hlt
      have HALL : Hid (∀ r, a ≤ r → r < e → snds s r = snds u r) := Lib.hid (HR.out (fun r h1 h2 h3 => hj.out r h1 (by have := HEE.out; omega)))
      clear hlt
      go_wp2
      go_ret2
      exact ⟨0, false, rfl, hb, fun h => (by cases h), fun _ => ⟨rfl, HALL.out⟩⟩
end Go.Proofs.Ytmcabaebdloakaa.Cur
