/- LocatePlaces: called with any projection and any number, the law returns true; no condition. -/
import Derived.Test.YtmcabaebdloakaaRows
import Derived.Test.YtmcabaebdloakaaLocE
import Derived.ProofKit
import Derived.OpenShut
import Derived.ShutString
import Derived.ChangeOld
namespace Go.Proofs.Ytmcabaebdloakaa.locatePlaces
open Go.ChangeShapes Go.WideShapes Go.ChangeAt Go.RowKit
open Go.ChangeMaps (open_string shut_string)
set_option linter.unusedVariables false

theorem own : ownKnob Try.prog.godebug = none := by kernel_rfl
theorem laidOut : laidOutB Try.prog = true := by kernel_rfl
open Cur Mem

set_option maxRecDepth 100000

/-- What the loads need. -/
def S3 (b1 b2 b3 : Nat) (x y z : Array Value) (w' : World) : Prop := Blk w' b1 x 25 ∧ Blk w' b2 y 32 ∧ Blk w' b3 z 39
theorem S3.below {b1 b2 b3 : Nat} {x y z : Array Value} {w' w'' : World} (h : S3 b1 b2 b3 x y z w') (hb : Below w'.heap.size w' w'') : S3 b1 b2 b3 x y z w'' := ⟨h.1.below hb, h.2.1.below hb, h.2.2.below hb⟩
theorem atc_no {e : Int} {L : List Stp} {p : Int} : (prok (e, L) = false → atc e L p = 3) ∧ (prok (e, L) = true → psk p = false → atc e L p = 17) :=
  ⟨fun h => if_neg (by rw [h]; decide), fun h1 h2 => by unfold atc; rw [if_pos h1, if_neg (by rw [h2]; decide)]⟩


set_option maxHeartbeats 16000000 in
theorem walk {H : Type} (enc : TypeId × Value → H) (w : World) (base : Nat) (v0 : Value) (d0 : DataW H) (p0 : List MemPlace) (g0 : Value.okWide Try.prog w .any base 25 v0) (h0 : DataW.Trod enc Try.prog w 0 (fun _ => true) true 25 v0 d0 p0) (v1 : Value) (d1 : DataW H) (p1 : List MemPlace) (g1 : Value.okWide Try.prog w .any base 22 v1) (h1 : DataW.Trod enc Try.prog w 0 (fun _ => true) true 22 v1 d1 p1) :
    Calls Try.prog 3 #[v0, v1] w fun e w' => e = .returned (.bool true) ∧ Below w.heap.size w w' := by
  obtain ⟨e, A, n, m, L, rfl, ⟨e0, e1⟩, hm, hnil, hz⟩ := open_prj g0 h0
  obtain ⟨p, rfl, p0, p1⟩ := open_u64 g1 h1
  clear g0 h0 g1 h1
  have hX := Blk.new w (prc e A n m) 25
  have hbd := below_one w (.cells (prc e A n m) 25)
  have HZ := Lib.hid hz
  have HL := Lib.hid hz.1
  clear hz hnil
  obtain ⟨x0, x1⟩ := hX.c2
  go_enter Try.func3, Try.ntmps3
  go_wp2_with fail
  generalize w.alloc (.cells (prc e A n m) 25) = w0 at *
  refine (long20_any _ e A n m L _ (HZ.out.below hbd)).mono ?_
  rintro en w1 ⟨b, rfl, hb1, hlg⟩
  replace hX := hX.below hb1
  replace hbd := hbd.trans (hb1.mono hbd.size)
  clear hb1 x0 x1
  cases b
  case true =>
    clear hlg hX
    go_wp2_with fail
    refine (live21_any _).mono ?_
    rintro e wl ⟨rfl, hbl⟩
    replace hbd := hbd.trans (hbl.mono hbd.size)
    go_wp2
    go_ret
    exact ⟨rfl, hbd⟩
  obtain ⟨hn70, hpl⟩ := hlg rfl
  have hpl6 : plen 1000000 L := fun s hs => ⟨by have := (hpl s hs).1; omega, fun l hl => by have := (hpl s hs).2 l hl; omega⟩
  have hS := fun w' (h : Below w.heap.size w w') => lstripe_any _ e A n m L p w' (HZ.out.below h) (by omega) hpl6
  have hA := fun w' (h : Below w.heap.size w w') => lat_any _ e A n m L p w' (HZ.out.below h) (by omega) hpl6 p0 p1
  have hW := fun w' (h : Below w.heap.size w w') => rwhich_any _ e A n m L p w' (HZ.out.below h) (by omega) hpl6 e0 p0
  have hR := fun w' (h : Below w.heap.size w w') => rprright_any _ e A n m L w' (HZ.out.below h) (by omega) hpl6 e0
  unfold BPost at hS hW hR
  unfold AtPost at hA
  have HPL := Lib.hid hpl6
  clear hlg hpl hpl6
  cases hp : prok (e, L)
  case false =>
    have HN : Hid (¬ (prok (e, L) = true ∧ psk p = true)) := Lib.hid (fun h => by rw [hp] at h; cases h.1)
    have HAC : Hid (atc e L p = 3) := Lib.hid (atc_no.1 hp)
    have HP := Lib.hid hp
    rw [lsv_no HN.out] at hS
    rw [whv_no HN.out] at hW
    clear hp
    obtain ⟨x0, x1⟩ := hX.c2
    go_wp2_with fail
    refine (hS _ hbd).mono ?_
    rintro en w2 ⟨rfl, hb2⟩
    replace hX := hX.below hb2
    replace hbd := hbd.trans (hb2.mono hbd.size)
    clear hb2 x0 x1 hS
    obtain ⟨x0, x1⟩ := hX.c2
    go_wp2_with fail
    refine (hA _ hbd).mono ?_
    rintro en w3 ⟨hb3, hq⟩
    obtain ⟨_, rfl⟩ | ⟨hh, _⟩ := hq
    case inr => exact absurd hh HN.out
    rw [HAC.out]
    replace hX := hX.below hb3
    replace hbd := hbd.trans (hb3.mono hbd.size)
    have hY := Blk.new w3 plz 32
    have hbx := below_one w3 (.cells plz 32)
    replace hX := hX.below hbx
    replace hbd := hbd.trans (hbx.mono hbd.size)
    clear hb3 x0 x1 hA hbx
    obtain ⟨x0, x1⟩ := hX.c2
    go_upto_region 5 with (fail)
    generalize w3.alloc (.cells plz 32) = w4 at *
    generalize w3.heap.size = b7 at *
    go_wp2_with fail
    refine (hW _ hbd).mono ?_
    rintro en w5 ⟨rfl, hb5⟩
    replace hX := hX.below hb5
    replace hY := hY.below hb5
    replace hbd := hbd.trans (hb5.mono hbd.size)
    clear hb5 x0 x1 hW
    obtain ⟨x0, x1⟩ := hX.c2
    go_wp2_with fail
    refine (hR _ hbd).mono ?_
    rintro en w6 ⟨rfl, hb6⟩
    rw [HP.out]
    replace hY := hY.below hb6
    replace hbd := hbd.trans (hb6.mono hbd.size)
    clear hb6 x0 x1 hR hX
    obtain ⟨y0, y1, y2, y3⟩ := hY.c4
    go_wp2_with fail
    refine (live21_any _).mono ?_
    rintro e wl ⟨rfl, hbl⟩
    replace hbd := hbd.trans (hbl.mono hbd.size)
    go_wp2
    go_ret
    exact ⟨rfl, hbd⟩
  cases hs : psk p
  case false =>
    have HN : Hid (¬ (prok (e, L) = true ∧ psk p = true)) := Lib.hid (fun h => by rw [hs] at h; cases h.2)
    have HAC : Hid (atc e L p = 17) := Lib.hid (atc_no.2 hp hs)
    have HP := Lib.hid hp
    rw [lsv_no HN.out] at hS
    rw [whv_no HN.out] at hW
    clear hp hs
    obtain ⟨x0, x1⟩ := hX.c2
    go_wp2_with fail
    refine (hS _ hbd).mono ?_
    rintro en w2 ⟨rfl, hb2⟩
    replace hX := hX.below hb2
    replace hbd := hbd.trans (hb2.mono hbd.size)
    clear hb2 x0 x1 hS
    obtain ⟨x0, x1⟩ := hX.c2
    go_wp2_with fail
    refine (hA _ hbd).mono ?_
    rintro en w3 ⟨hb3, hq⟩
    obtain ⟨_, rfl⟩ | ⟨hh, _⟩ := hq
    case inr => exact absurd hh HN.out
    rw [HAC.out]
    replace hX := hX.below hb3
    replace hbd := hbd.trans (hb3.mono hbd.size)
    have hY := Blk.new w3 plz 32
    have hbx := below_one w3 (.cells plz 32)
    replace hX := hX.below hbx
    replace hbd := hbd.trans (hbx.mono hbd.size)
    clear hb3 x0 x1 hA hbx
    obtain ⟨x0, x1⟩ := hX.c2
    go_upto_region 5 with (fail)
    generalize w3.alloc (.cells plz 32) = w4 at *
    generalize w3.heap.size = b7 at *
    go_wp2_with fail
    refine (hW _ hbd).mono ?_
    rintro en w5 ⟨rfl, hb5⟩
    replace hX := hX.below hb5
    replace hY := hY.below hb5
    replace hbd := hbd.trans (hb5.mono hbd.size)
    clear hb5 x0 x1 hW
    obtain ⟨x0, x1⟩ := hX.c2
    go_wp2_with fail
    refine (hR _ hbd).mono ?_
    rintro en w6 ⟨rfl, hb6⟩
    rw [HP.out]
    replace hY := hY.below hb6
    replace hbd := hbd.trans (hb6.mono hbd.size)
    clear hb6 x0 x1 hR hX
    obtain ⟨y0, y1, y2, y3⟩ := hY.c4
    go_wp2_with fail
    refine (live21_any _).mono ?_
    rintro e wl ⟨rfl, hbl⟩
    replace hbd := hbd.trans (hbl.mono hbd.size)
    go_wp2
    go_ret
    exact ⟨rfl, hbd⟩
  have hv := vd_of hp
  have hps := psk_lt hs
  obtain ⟨q1, q2, q3⟩ := hv.wsi p0 hps
  rw [HL.out] at q1
  obtain ⟨hpt, hpp⟩ := place_back hv p0 hps
  obtain ⟨j1, j2⟩ := wset_int hv p0 hps
  have hN := fun w' (h : Below w.heap.size w w') => rnodes21_any _ e A n m L p w' (HZ.out.below h) (by omega) HPL.out e0 p0 hp hs
  have hlv := lpv_yes hp hpt
  rw [hpp] at hlv
  obtain ⟨g, o, rfl, _, hg, hc⟩ := HZ.out.cells (by omega)
  obtain ⟨f, t, S, a, l, mm, he, ⟨f0, _⟩, _, hl, hlm, _, hst, hcell⟩ := hc _ q1
  obtain ⟨k1, k2, k3, k4, k5⟩ := stok_parts (hv.ok _ (show wsi L p < L.length by rw [HL.out]; exact q1))
  have hu : wloc L p = (p - f) / (l : Int) := by unfold wloc; rw [he, ← hl]
  have hsn : wsn L p = S.getD (wset L p) [] := by unfold wsn; rw [he]
  rw [he] at q2 q3 j1 j2 k1 k2 k3 k4 k5
  replace k2 : t ≤ 4611686018427387904 := k2
  replace k3 : 1 ≤ l := by rw [← hl]; exact k3
  replace k4 : l ≤ 8 := by rw [← hl]; exact k4
  replace q2 : f ≤ p := q2
  replace q3 : p < t := q3
  replace j1 : (wset L p : Int) = (p - f) % (l : Int) := by rw [← hl]; exact j1
  replace j2 : wset L p < l := by rw [← hl]; exact j2
  have hw8 : (wsn L p).length ≤ 8 := by
    have h5 := sok_lens k5 (S.getD (wset L p) []) (by rw [List.getD_eq_getElem?_getD, List.getElem?_eq_getElem (by rw [hl]; exact j2)]; exact List.getElem_mem _)
    rw [hsn]; exact h5
  have hbds : ∀ x ∈ wsn L p, 0 ≤ x ∧ x < 18446744073709551616 := by
    obtain ⟨g2, o2, rfl, _, _, hc2⟩ := hst.cells (by omega)
    obtain ⟨_, _, _, _, _, _, _, _, hub, _⟩ := hc2 _ j2
    rw [hsn]; exact hub
  rw [lsv_yes hp hs] at hS
  rw [whv_yes hp hs] at hW
  have hPos := fun (w' : World) (h : Below w.heap.size w w') (hU : 0 ≤ wloc L p ∧ wloc L p < 18446744073709551616) => lpos_any _ e (some ⟨g, o, none⟩) n m L (wsi L p) (wset L p) (wloc L p) w' (HZ.out.below h) (by omega) HPL.out (by omega) (by omega) (by omega) (by omega) hU.1 hU.2
  rw [hlv] at hPos
  unfold BPost at hPos
  have d0 : 0 ≤ p - f ∧ p - f < 4611686018427387904 := by omega
  have u0 := Int.ediv_nonneg d0.1 (show (0 : Int) ≤ l by omega)
  have u1 := Int.ediv_le_self (l : Int) d0.1
  rw [← hu] at u0 u1
  replace hPos := fun w' h => hPos w' h ⟨u0, by omega⟩
  obtain ⟨D, hD⟩ : ∃ D, D = p - f := ⟨_, rfl⟩
  have w1' : IntKind.u64.wrap (p - f) = D := by rw [hD]; exact IntWalk.u64_in _ (by omega)
  have w2' : IntKind.u64.wrap (D.tdiv (l : Int)) = wloc L p := by rw [hu, hD]; exact IntWalk.u64_quo _ _ (by omega)
  have w3' : D.tmod (l : Int) = (wset L p : Int) := by rw [j1, hD]; exact IntWalk.rem_in _ _ d0.1
  have w4' : IntKind.u64.wrap (wset L p : Int) = (wset L p : Int) := IntWalk.u64_in _ (by omega)
  have w5' : IntKind.u64.wrap (l : Int) = l := IntWalk.u64_in _ (by omega)
  have HCS := Lib.hid (fun w' (h : Below w.heap.size w w') => hcell w' h)
  have HBD := Lib.hid hbds
  have HW8 := Lib.hid hw8
  have HNO := Lib.hid (fun (hh : ¬ (prok (e, L) = true ∧ psk p = true)) => hh ⟨hp, hs⟩)
  obtain ⟨N, hNN⟩ : ∃ N, N = wsn L p := ⟨_, rfl⟩
  unfold WnPost at hN
  rw [← hNN] at hN HBD HW8 hA
  generalize wsi L p = K at *
  generalize wset L p = J at *
  generalize wloc L p = U at *
  have e9 : (K : Int) < n := by omega
  have e7 : ¬ (l : Int) = 0 := by omega
  have e8 : ¬ l = 0 := by omega
  have e10 : max (K : Int) 0 = K := by omega
  have e11 : decide (0 ≤ (K : Int)) = true := by simp
  clear hc hcell he hl hst hu hsn hbds hw8 hlv hpp hpt hv hD hNN hR k5 q2 q3 j1 hp hs
  obtain ⟨x0, x1⟩ := hX.c2
  go_wp2_with fail
  refine (hS _ hbd).mono ?_
  rintro en w2 ⟨rfl, hb2⟩
  replace hX := hX.below hb2
  replace hbd := hbd.trans (hb2.mono hbd.size)
  clear hb2 x0 x1 hS
  obtain ⟨x0, x1⟩ := hX.c2
  go_wp2_with fail
  refine (hA _ hbd).mono ?_
  rintro en w3 ⟨hb3, hq⟩
  obtain ⟨hh, _⟩ | ⟨_, v, rfl, ho⟩ := hq
  case inl => exact (HNO.out hh).elim
  obtain ⟨A3, c3, rfl⟩ := ho.slice
  have hu3 := (OwnU.us ho).2.2.2
  replace hX := hX.below hb3
  replace hbd := hbd.trans (hb3.mono hbd.size)
  have hY := Blk.new w3 #[.int .i64 K, .int .i64 J, .int .u64 U, .slice A3 N.length c3] 32
  have hbx := below_one w3 (.cells #[.int .i64 K, .int .i64 J, .int .u64 U, .slice A3 N.length c3] 32)
  replace hX := hX.below hbx
  replace hu3 := hu3.below hbx
  replace hbd := hbd.trans (hbx.mono hbd.size)
  clear hb3 x0 x1 hA hbx ho
  obtain ⟨x0, x1⟩ := hX.c2
  go_upto_region 5 with (fail)
  generalize w3.alloc (.cells #[.int .i64 K, .int .i64 J, .int .u64 U, .slice A3 N.length c3] 32) = w4 at *
  generalize w3.heap.size = b7 at *
  go_wp2_with fail
  refine (hW _ hbd).mono ?_
  rintro en w5 ⟨rfl, hb5⟩
  replace hX := hX.below hb5
  replace hY := hY.below hb5
  replace hu3 := hu3.below hb5
  replace hbd := hbd.trans (hb5.mono hbd.size)
  clear hb5 x0 x1 hW
  obtain ⟨x0, x1⟩ := hX.c2
  obtain ⟨y0, y1, y2, y3⟩ := hY.c4
  obtain ⟨c0, c1, c2⟩ := HCS.out _ hbd
  go_upto_region 14 with (fail)
  have hT := Blk.new w5 (stc f t a l mm) 39
  have hbx := below_one w5 (.cells (stc f t a l mm) 39)
  replace hX := hX.below hbx
  replace hY := hY.below hbx
  replace hu3 := hu3.below hbx
  replace hbd := hbd.trans (hbx.mono hbd.size)
  clear x0 x1 y0 y1 y2 y3 c0 c1 c2 hbx
  generalize w5.alloc (.cells (stc f t a l mm) 39) = w6 at *
  generalize w5.heap.size = b11 at *
  obtain ⟨x0, x1⟩ := hX.c2
  obtain ⟨y0, y1, y2, y3⟩ := hY.c4
  obtain ⟨c0, c1, c2⟩ := hT.c3
  go_wp2_with fail
  refine (hPos _ hbd).mono ?_
  rintro en w7 ⟨rfl, hb7⟩
  have hS3 : S3 w.heap.size b7 b11 _ _ _ w7 := ⟨hX.below hb7, hY.below hb7, hT.below hb7⟩
  replace hu3 := hu3.below hb7
  replace hbd := hbd.trans (hb7.mono hbd.size)
  clear hb7 x0 x1 y0 y1 y2 y3 c0 c1 c2 hPos hX hY hT
  have L1 : ∀ w', S3 w.heap.size b7 b11 (prc e (some ⟨g, o, none⟩) n m) #[.int .i64 K, .int .i64 J, .int .u64 U, .slice A3 N.length c3] (stc f t a l mm) w' → (w'.cell? ⟨w.heap.size, 0, none⟩ = some (.int .u64 e) ∧ w'.cell? ⟨w.heap.size, 1, none⟩ = some (.slice (some ⟨g, o, none⟩) n m)) ∧ (w'.cell? ⟨b7, 0, none⟩ = some (.int .i64 K) ∧ w'.cell? ⟨b7, 1, none⟩ = some (.int .i64 J) ∧ w'.cell? ⟨b7, 2, none⟩ = some (.int .u64 U) ∧ w'.cell? ⟨b7, 3, none⟩ = some (.slice A3 N.length c3)) ∧ w'.cell? ⟨b11, 0, none⟩ = some (.int .u64 f) := fun w' h => ⟨h.1.c2, h.2.1.c4, h.2.2.c3.1⟩
  go_wp2
  replace hS3 := hS3.below (below_one' _)
  replace hu3 := hu3.below (below_one' _)
  replace hbd := hbd.trans ((below_one' _).mono hbd.size)
  refine Seq.wp_region_seq (S3 w.heap.size b7 b11 (prc e (some ⟨g, o, none⟩) n m) #[.int .i64 K, .int .i64 J, .int .u64 U, .slice A3 N.length c3] (stc f t a l mm)) (by kernel_rfl) (by kernel_rfl) hS3 ?_
  repeat (first | (refine Seq.Seq.skip (by rfl) ?_; (try simp only [Act.put, List.setIfInBounds_toArray, List.set_cons_zero, List.set_cons_succ])) | (refine Seq.Seq.det ?_ (by rfl) (fun w hS => ?_) ?_; rotate_left; ((try dsimp only at hS); go_simp; (try rw [if_pos (by omega)]); with_reducible rfl); (try simp only [Act.put, List.setIfInBounds_toArray, List.set_cons_zero, List.set_cons_succ])))
  refine Seq.Seq.make (by rfl) (by rfl) (fun K Q' hK => ?_)
  go_simp
  go_at_call 15
  refine (hN _ hbd).mono ?_
  rintro en w8 ⟨a8, l8, m8, rfl, _, hu8, hb8⟩
  obtain rfl : l8 = N.length := hu8.1.symm
  replace hu8 := hu8.below hb8
  replace hS3 := hS3.below hb8
  replace hu3 := hu3.below hb8
  replace hbd := hbd.trans (hb8.mono hbd.size)
  refine hK.out _ _ (hS3) ?_
  clear hK K
  try simp only [Act.put, List.setIfInBounds_toArray, List.set_cons_zero, List.set_cons_succ]
  repeat (first | (refine Seq.Seq.skip (by rfl) ?_; (try simp only [Act.put, List.setIfInBounds_toArray, List.set_cons_zero, List.set_cons_succ])) | (refine Seq.Seq.det ?_ (by rfl) (fun w hS => ?_) ?_; rotate_left; ((try dsimp only at hS); go_simp; (try rw [if_pos (by omega)]); with_reducible rfl); (try simp only [Act.put, List.setIfInBounds_toArray, List.set_cons_zero, List.set_cons_succ])))
  refine Seq.Seq.make (by rfl) (by rfl) (fun K Q' hK => ?_)
  go_simp
  go_at_call 14
  refine (same5_any _ _ _ _ _ _ N _ hu3 hu8 (by have := HW8.out; omega) HBD.out).mono ?_
  rintro en w9 ⟨rfl, hb9⟩
  replace hS3 := hS3.below hb9
  replace hbd := hbd.trans (hb9.mono hbd.size)
  refine hK.out _ _ (hS3) ?_
  clear hK K
  try simp only [Act.put, List.setIfInBounds_toArray, List.set_cons_zero, List.set_cons_succ]
  repeat (first | (refine Seq.Seq.skip (by rfl) ?_; (try simp only [Act.put, List.setIfInBounds_toArray, List.set_cons_zero, List.set_cons_succ])) | (refine Seq.Seq.det ?_ (by rfl) (fun w hS => ?_) ?_; rotate_left; ((try dsimp only at hS); go_simp; (try rw [if_pos (by omega)]); with_reducible rfl); (try simp only [Act.put, List.setIfInBounds_toArray, List.set_cons_zero, List.set_cons_succ])))
  refine Seq.Seq.make (by rfl) (by rfl) (fun K Q' hK => ?_)
  go_simp
  go_at_call 8
  refine (live21_any _).mono ?_
  rintro en w12 ⟨rfl, hb12⟩
  replace hS3 := hS3.below hb12
  replace hbd := hbd.trans (hb12.mono hbd.size)
  refine hK.out _ _ (hS3) ?_
  clear hK K
  try simp only [Act.put, List.setIfInBounds_toArray, List.set_cons_zero, List.set_cons_succ]
  repeat (first | (refine Seq.Seq.skip (by rfl) ?_; (try simp only [Act.put, List.setIfInBounds_toArray, List.set_cons_zero, List.set_cons_succ])) | (refine Seq.Seq.det ?_ (by rfl) (fun w hS => ?_) ?_; rotate_left; ((try dsimp only at hS); go_simp; (try rw [if_pos (by omega)]); with_reducible rfl); (try simp only [Act.put, List.setIfInBounds_toArray, List.set_cons_zero, List.set_cons_succ])))
  refine Seq.Seq.nil ?_
  clear hb8 hb9 hb12 hS3 hu3 hu8 L1
  go_wp2
  go_ret
  exact ⟨rfl, hbd⟩

set_option maxRecDepth 100000 in
theorem lifted (os : Os) (started : os.Started) (H : Type) (enc : TypeId × Value → H) :
    ReturnsInHanded {} Try.checked os 3 .any (Rows.locatePlacesSpec.pre6 enc Try.prog Try.f3 Rows.locatePlacesRow.domain false) (Rows.locatePlacesSpec.post enc Try.prog Try.f3 false true false false) := by
  refine returnsInHanded_of_change (C := Try.checked) own started (by kernel_rfl) Try.func3
    (ChangeSpec.witness6 (enc := enc) (C := Try.checked) false ⟨#[], #[.agg #[.int .u64 0, .slice none 0 0], .int .u64 0], []⟩ 8 (by kernel_rfl) (by kernel_rfl) (by kernel_rfl) (by kernel_rfl)) ?_
  intro W base args ds gs before hval0 hW hcnd _
  have hval : ∀ (j : Nat) t v, Try.f3.params[j]? = some t → args[j]? = some v → Value.okWide Try.prog W .any base t v := hval0
  have hW' := hW
  obtain ⟨p, q, hA0, hV, rfl, hfz, hnd⟩ := hW
  have hA : DataW.TrodAll enc Try.prog W 0 (fun _ => true) true Try.f3.params.toList args.toList ds p := hA0
  rw [Try.params3] at hA hval
  obtain ⟨v0, vs0, d0, ds0, p0, q0, hargs, rfl, rfl, h0, r0⟩ := trodAll_cons hA
  obtain ⟨v1, vs1, d1, ds1, p1, q1, rfl, rfl, rfl, h1, r1⟩ := trodAll_cons r0
  obtain ⟨rfl, rfl, rfl⟩ := trodAll_nil r1
  obtain rfl : args = #[v0, v1] := by cases args; simp_all
  obtain ⟨rfl, rfl⟩ := trodVars_none hV
  have lt0 : ∀ x ∈ p0, x.block < W.heap.size := by obtain ⟨m, hm⟩ := h0; exact DataW.trod_lt m _ _ _ hm
  have lt1 : ∀ x ∈ p1, x.block < W.heap.size := by obtain ⟨m, hm⟩ := h1; exact DataW.trod_lt m _ _ _ hm
  clear hA0 hval0
  refine (walk enc W base v0 d0 p0 (hval 0 25 v0 rfl rfl) h0 v1 d1 p1 (hval 1 22 v1 rfl rfl) h1).mono fun e W' ⟨he, bel⟩ => ?_
  subst he
  exact ⟨_, rfl, _, _, _, [], _, [], hW', trodAll_mk1 (shut_bool Try.underlying4 _), (trodAll_cons_mk (Below.trod laidOut (by kernel_rfl) (of_decide_eq_true (by kernel_rfl)) h0 bel lt0) (trodAll_cons_mk (Below.trod laidOut (by kernel_rfl) (of_decide_eq_true (by kernel_rfl)) h1 bel lt1) trodAll_mk0)), rfl, bel.frame _, fun h => by cases h⟩

theorem over : Rows.locatePlacesRow.holds Try.pinned (OpenSpec.ofChange Rows.locatePlacesSpec) :=
  OpenClaim.holds_of_wide 3 Try.f3 rfl rfl rfl rfl rfl rfl rfl ⟨rfl, rfl, rfl, rfl, rfl⟩ rfl rfl rfl rfl rfl (by kernel_rfl) Try.func3 (by kernel_rfl)
    (of_decide_eq_true (by kernel_rfl)) (by unfold Func.isWrapper; first | (rw [if_pos (by decide +kernel)]; kernel_rfl) | (rw [if_neg (by decide +kernel)]; exact ⟨rfl, rfl⟩))
    (fun os started H enc _ => lifted os started H enc)

/-- THE STATEMENT. -/
theorem proved : Rows.LocatePlacesSaid := over
#print axioms proved
end Go.Proofs.Ytmcabaebdloakaa.locatePlaces
