/- LocatePos: called with any projection, any two ints and any number, the law returns true; no condition. -/
import Derived.Test.YtmcabaebdloakaaRows
import Derived.Test.YtmcabaebdloakaaLocE
import Derived.ProofKit
import Derived.OpenShut
import Derived.ShutString
import Derived.ChangeOld
namespace Go.Proofs.Ytmcabaebdloakaa.locatePos
open Go.ChangeShapes Go.WideShapes Go.ChangeAt Go.RowKit
open Go.ChangeMaps (open_string shut_string)
set_option linter.unusedVariables false

theorem own : ownKnob Try.prog.godebug = none := by kernel_rfl
theorem laidOut : laidOutB Try.prog = true := by kernel_rfl
open Cur Mem
set_option maxRecDepth 100000

set_option maxRecDepth 100000 in
theorem open_two {H : Type} {enc : TypeId × Value → H} {w : World} {base : Nat} {v : Value} {d : DataW H} {p : List MemPlace} (g : Value.okWide Try.prog w .any base 45 v) (h : DataW.Trod enc Try.prog w 0 (fun _ => true) true 45 v d p) :
    ∃ x y : Int, v = .agg #[.int .i64 x, .int .i64 y] ∧ (-9223372036854775808 ≤ x ∧ x ≤ 9223372036854775807) ∧ (-9223372036854775808 ≤ y ∧ y ≤ 9223372036854775807) := by
  have hg : ∃ cs : Array Value, v = .agg cs ∧ cs.size = Try.prog.cellsOf 45 := by
    simp only [Value.okWide, Try.underlying45] at g
    obtain ⟨cs, h1, h2, _⟩ := g
    exact ⟨cs, h1, h2⟩
  obtain ⟨cs, rfl, hs⟩ := hg
  obtain ⟨fuel, hf⟩ := h
  have c2 : Try.prog.cellsOf 45 = 2 := by kernel_rfl
  have c1 : Try.prog.cellsOf 3 = 1 := by kernel_rfl
  rw [c2] at hs
  obtain ⟨cs⟩ := cs
  match cs, hs with
  | [x0, x1], _ =>
    simp only [Value.cells] at hf
    obtain ⟨xs, mm, _, _, _, hl, hi⟩ := DataW.trod_array Try.underlying45 hf
    have i0 := hi 0 (by decide)
    have i1 := hi 1 (by decide)
    rw [c1] at i0 i1
    match xs, hl with
    | [y0, y1], _ =>
      simp only [Nat.zero_mul, Nat.one_mul, List.drop_zero, List.take_succ_cons, List.take_zero, List.drop_succ_cons, List.getElem?_cons_zero, List.getElem?_cons_succ] at i0 i1
      obtain ⟨u, e1, _, r1⟩ := DataW.trod_int Try.underlying3 i0
      obtain ⟨t, e2, _, r2⟩ := DataW.trod_int Try.underlying3 i1
      simp only [List.cons.injEq, and_true] at e1 e2
      subst e1 e2
      exact ⟨u, t, rfl, bounds_i64 r1, bounds_i64 r2⟩

theorem lpt_iff {s : Stp} {y l : Int} (hok : stok s = true) (y0 : 0 ≤ y) (y1 : y < s.2.2.length) (l0 : 0 ≤ l) : l < shv s y ↔ l * s.2.2.length + y < s.2.1 - s.1 := by
  obtain ⟨k1, k2, k3, k4, _⟩ := stok_parts hok
  rw [shv_yes ⟨hok, y0, y1⟩]
  obtain ⟨a, rfl⟩ := Int.eq_ofNat_of_zero_le l0
  obtain ⟨b, rfl⟩ := Int.eq_ofNat_of_zero_le y0
  have := shr_iff (n := (s.2.1 - s.1).toNat) (m := s.2.2.length) (s := ((b : Int)).toNat) (l := a) (by omega)
  have e : ((a * s.2.2.length : Nat) : Int) = (a : Int) * s.2.2.length := by push_cast; rfl
  omega

set_option maxHeartbeats 16000000 in
theorem walk {H : Type} (enc : TypeId × Value → H) (w : World) (base : Nat) (v0 : Value) (d0 : DataW H) (p0 : List MemPlace) (g0 : Value.okWide Try.prog w .any base 25 v0) (h0 : DataW.Trod enc Try.prog w 0 (fun _ => true) true 25 v0 d0 p0) (v1 : Value) (d1 : DataW H) (p1 : List MemPlace) (g1 : Value.okWide Try.prog w .any base 45 v1) (h1 : DataW.Trod enc Try.prog w 0 (fun _ => true) true 45 v1 d1 p1) (v2 : Value) (d2 : DataW H) (p2 : List MemPlace) (g2 : Value.okWide Try.prog w .any base 22 v2) (h2 : DataW.Trod enc Try.prog w 0 (fun _ => true) true 22 v2 d2 p2) :
    Calls Try.prog 4 #[v0, v1, v2] w fun e w' => e = .returned (.bool true) ∧ Below w.heap.size w w' := by
  obtain ⟨e, A, n, m, L, rfl, ⟨e0, e1⟩, hm, hnil, hz⟩ := open_prj g0 h0
  obtain ⟨x, y, rfl, ⟨xb0, xb1⟩, ⟨yb0, yb1⟩⟩ := open_two g1 h1
  obtain ⟨l, rfl, l0, l1⟩ := open_u64 g2 h2
  clear g0 h0 g1 h1 g2 h2
  have hX := (Blk.new w (prc e A n m) 25).alloc (.cells #[.int .i64 x, .int .i64 y] 45)
  have hT := Blk.new (w.alloc (.cells (prc e A n m) 25)) #[.int .i64 x, .int .i64 y] 45
  rw [World.size_alloc] at hT
  have hbd := below_two w (.cells (prc e A n m) 25) (.cells #[.int .i64 x, .int .i64 y] 45)
  have HZ := Lib.hid hz
  have HL := Lib.hid hz.1
  clear hz hnil
  obtain ⟨x0, x1⟩ := hX.c2
  go_enter Try.func4, Try.ntmps4
  go_wp2_with fail
  generalize (w.alloc (.cells (prc e A n m) 25)).alloc (.cells #[.int .i64 x, .int .i64 y] 45) = w0 at *
  refine (long20_any _ e A n m L _ (HZ.out.below hbd)).mono ?_
  rintro en w1 ⟨b, rfl, hb1, hlg⟩
  replace hX := hX.below hb1
  replace hT := hT.below hb1
  replace hbd := hbd.trans (hb1.mono hbd.size)
  clear hb1 x0 x1
  cases b
  case true =>
    clear hlg hX hT
    go_wp2_with fail
    refine (live21_any _).mono ?_
    rintro e wl ⟨rfl, hbl⟩
    replace hbd := hbd.trans (hbl.mono hbd.size)
    go_wp2
    go_ret
    exact ⟨rfl, hbd⟩
  obtain ⟨hn70, hpl⟩ := hlg rfl
  have hpl6 : plen 1000000 L := fun s hs => ⟨by have := (hpl s hs).1; omega, fun l hl => by have := (hpl s hs).2 l hl; omega⟩
  have hPos := fun w' (h : Below w.heap.size w w') => lpos_any _ e A n m L x y l w' (HZ.out.below h) (by omega) hpl6 xb0 xb1 yb0 yb1 l0 l1
  have hR := fun w' (h : Below w.heap.size w w') => rprright_any _ e A n m L w' (HZ.out.below h) (by omega) hpl6 e0
  unfold BPost at hPos hR
  have HPL := Lib.hid hpl6
  clear hlg hpl hpl6
  cases hp : prok (e, L)
  case false =>
    have HP := Lib.hid hp
    rw [lpv_bad hp] at hPos
    clear hp
    obtain ⟨x0, x1⟩ := hX.c2
    obtain ⟨t0, t1⟩ := hT.c2
    go_wp2_with fail
    refine (hPos _ hbd).mono ?_
    rintro en w2 ⟨rfl, hb2⟩
    replace hX := hX.below hb2
    replace hT := hT.below hb2
    replace hbd := hbd.trans (hb2.mono hbd.size)
    clear hb2 x0 x1 t0 t1 hPos
    obtain ⟨x0, x1⟩ := hX.c2
    go_wp2_with fail
    refine (hR _ hbd).mono ?_
    rintro en w6 ⟨rfl, hb6⟩
    rw [HP.out]
    replace hX := hX.below hb6
    replace hT := hT.below hb6
    replace hbd := hbd.trans (hb6.mono hbd.size)
    clear hb6 x0 x1 hR
    obtain ⟨x0, x1⟩ := hX.c2
    obtain ⟨t0, t1⟩ := hT.c2
    clear x0 x1 t0 t1 hX hT
    go_wp2_with fail
    refine (live21_any _).mono ?_
    rintro e wl ⟨rfl, hbl⟩
    replace hbd := hbd.trans (hbl.mono hbd.size)
    go_wp2
    go_ret
    exact ⟨rfl, hbd⟩
  have HP := Lib.hid hp
  have hv := vd_of hp
  by_cases hl : lpt L x y l
  · obtain ⟨xn, rfl⟩ := Int.eq_ofNat_of_zero_le hl.1
    obtain ⟨p0, p1, hw1, hw2, hw3⟩ := back_place hv l0 hl
    have hA := fun w' (h : Below w.heap.size w w') => lat_any _ e A n m L (lpp L xn y l) w' (HZ.out.below h) (by omega) HPL.out p0 (by omega)
    unfold AtPost at hA
    have hps : psk (lpp L xn y l) = true := decide_eq_true (by omega)
    rw [hw1, hw2, hw3] at hA
    have HNO := Lib.hid (fun (hh : ¬ (prok (e, L) = true ∧ psk (lpp L xn y l) = true)) => hh ⟨hp, hps⟩)
    rw [lpv_yes hp hl] at hPos
    generalize lpp L xn y l = Q at *
    clear hp hl hv hw1 hw2 hw3 hps
    obtain ⟨x0, x1⟩ := hX.c2
    obtain ⟨t0, t1⟩ := hT.c2
    go_wp2_with fail
    refine (hPos _ hbd).mono ?_
    rintro en w2 ⟨rfl, hb2⟩
    replace hX := hX.below hb2
    replace hT := hT.below hb2
    replace hbd := hbd.trans (hb2.mono hbd.size)
    clear hb2 x0 x1 t0 t1 hPos
    obtain ⟨x0, x1⟩ := hX.c2
    go_wp2_with fail
    refine (hR _ hbd).mono ?_
    rintro en w6 ⟨rfl, hb6⟩
    rw [HP.out]
    replace hX := hX.below hb6
    replace hT := hT.below hb6
    replace hbd := hbd.trans (hb6.mono hbd.size)
    clear hb6 x0 x1 hR
    obtain ⟨x0, x1⟩ := hX.c2
    obtain ⟨t0, t1⟩ := hT.c2
    go_wp2_with fail
    refine (hA _ hbd).mono ?_
    rintro en w7 ⟨hb7, hq⟩
    obtain ⟨hh, _⟩ | ⟨_, v, rfl, ho⟩ := hq
    case inl => exact (HNO.out hh).elim
    obtain ⟨A3, c3, rfl⟩ := ho.slice
    replace hT := hT.below hb7
    replace hbd := hbd.trans (hb7.mono hbd.size)
    obtain ⟨N, hN⟩ : ∃ N, N = (wsn L Q).length := ⟨_, rfl⟩
    rw [← hN]
    have hY := Blk.new w7 #[.int .i64 xn, .int .i64 y, .int .u64 l, .slice A3 N c3] 32
    have hbx := below_one w7 (.cells #[.int .i64 xn, .int .i64 y, .int .u64 l, .slice A3 N c3] 32)
    replace hT := hT.below hbx
    replace hbd := hbd.trans (hbx.mono hbd.size)
    clear hb7 x0 x1 t0 t1 hA hbx ho hX hN
    obtain ⟨t0, t1⟩ := hT.c2
    go_upto_region 14 with (fail)
    generalize w7.alloc (.cells #[.int .i64 xn, .int .i64 y, .int .u64 l, .slice A3 N c3] 32) = w8 at *
    generalize w7.heap.size = b7 at *
    obtain ⟨y0, y1, y2, y3⟩ := hY.c4
    go_wp2_with fail
    refine (live21_any _).mono ?_
    rintro e wl ⟨rfl, hbl⟩
    replace hbd := hbd.trans (hbl.mono hbd.size)
    go_wp2
    go_ret
    exact ⟨rfl, hbd⟩
  · rw [lpv_no hp hl] at hPos
    have HNL := Lib.hid hl
    have HV := Lib.hid hv
    clear hp hl hv
    by_cases hx0 : x < 0
    · have d1 : decide (0 ≤ x) = false := by simp; omega
      obtain ⟨x0, x1⟩ := hX.c2
      obtain ⟨t0, t1⟩ := hT.c2
      go_wp2_with fail
      refine (hPos _ hbd).mono ?_
      rintro en w2 ⟨rfl, hb2⟩
      replace hX := hX.below hb2
      replace hT := hT.below hb2
      replace hbd := hbd.trans (hb2.mono hbd.size)
      clear hb2 x0 x1 t0 t1 hPos
      obtain ⟨x0, x1⟩ := hX.c2
      go_wp2_with fail
      refine (hR _ hbd).mono ?_
      rintro en w6 ⟨rfl, hb6⟩
      rw [HP.out]
      replace hX := hX.below hb6
      replace hT := hT.below hb6
      replace hbd := hbd.trans (hb6.mono hbd.size)
      clear hb6 x0 x1 hR
      obtain ⟨x0, x1⟩ := hX.c2
      obtain ⟨t0, t1⟩ := hT.c2
      go_wp2_with fail
      refine (live21_any _).mono ?_
      rintro e wl ⟨rfl, hbl⟩
      replace hbd := hbd.trans (hbl.mono hbd.size)
      go_wp2
      go_ret
      exact ⟨rfl, hbd⟩
    have d1 : decide (0 ≤ x) = true := by simp; omega
    by_cases hxn : (n : Int) ≤ x
    · have d2 : decide (x < (n : Int)) = false := by simp; omega
      obtain ⟨x0, x1⟩ := hX.c2
      obtain ⟨t0, t1⟩ := hT.c2
      go_wp2_with fail
      refine (hPos _ hbd).mono ?_
      rintro en w2 ⟨rfl, hb2⟩
      replace hX := hX.below hb2
      replace hT := hT.below hb2
      replace hbd := hbd.trans (hb2.mono hbd.size)
      clear hb2 x0 x1 t0 t1 hPos
      obtain ⟨x0, x1⟩ := hX.c2
      go_wp2_with fail
      refine (hR _ hbd).mono ?_
      rintro en w6 ⟨rfl, hb6⟩
      rw [HP.out]
      replace hX := hX.below hb6
      replace hT := hT.below hb6
      replace hbd := hbd.trans (hb6.mono hbd.size)
      clear hb6 x0 x1 hR
      obtain ⟨x0, x1⟩ := hX.c2
      obtain ⟨t0, t1⟩ := hT.c2
      go_wp2_with fail
      refine (live21_any _).mono ?_
      rintro e wl ⟨rfl, hbl⟩
      replace hbd := hbd.trans (hbl.mono hbd.size)
      go_wp2
      go_ret
      exact ⟨rfl, hbd⟩
    have d2 : decide (x < (n : Int)) = true := by simp; omega
    by_cases hy0 : y < 0
    · have d3 : decide (0 ≤ y) = false := by simp; omega
      obtain ⟨x0, x1⟩ := hX.c2
      obtain ⟨t0, t1⟩ := hT.c2
      go_wp2_with fail
      refine (hPos _ hbd).mono ?_
      rintro en w2 ⟨rfl, hb2⟩
      replace hX := hX.below hb2
      replace hT := hT.below hb2
      replace hbd := hbd.trans (hb2.mono hbd.size)
      clear hb2 x0 x1 t0 t1 hPos
      obtain ⟨x0, x1⟩ := hX.c2
      go_wp2_with fail
      refine (hR _ hbd).mono ?_
      rintro en w6 ⟨rfl, hb6⟩
      rw [HP.out]
      replace hX := hX.below hb6
      replace hT := hT.below hb6
      replace hbd := hbd.trans (hb6.mono hbd.size)
      clear hb6 x0 x1 hR
      obtain ⟨x0, x1⟩ := hX.c2
      obtain ⟨t0, t1⟩ := hT.c2
      go_wp2_with fail
      refine (live21_any _).mono ?_
      rintro e wl ⟨rfl, hbl⟩
      replace hbd := hbd.trans (hbl.mono hbd.size)
      go_wp2
      go_ret
      exact ⟨rfl, hbd⟩
    have d3 : decide (0 ≤ y) = true := by simp; omega
    obtain ⟨xn, rfl⟩ := Int.eq_ofNat_of_zero_le (show 0 ≤ x by omega)
    have hxl : xn < n := by omega
    obtain ⟨g, o, rfl, _, hg, hc⟩ := HZ.out.cells (by omega)
    obtain ⟨f, t, S, a, k, mm, he, ⟨f0, _⟩, _, hl, hlm, _, hst, hcell⟩ := hc _ hxl
    have hok := HV.out.ok xn (by rw [HL.out]; exact hxl)
    rw [he] at hok
    obtain ⟨k1, k2, k3, k4, _⟩ := stok_parts hok
    replace k1 : f < t := k1
    replace k2 : t ≤ 4611686018427387904 := k2
    replace k3 : 1 ≤ k := by rw [← hl]; exact k3
    replace k4 : k ≤ 8 := by rw [← hl]; exact k4
    have HNS : Hid (0 ≤ y → y < k → ¬ l * (k : Int) + y < t - f) := Lib.hid (fun h1 h2 h3 => HNL.out ⟨by omega, by rw [HL.out]; omega, by
      rw [Int.toNat_natCast, he]
      exact (lpt_iff hok h1 (by show y < (S.length : Int); rw [hl]; exact h2) l0).2 (by show l * (S.length : Int) + y < t - f; rw [hl]; exact h3)⟩)
    have HCS := Lib.hid (fun w' (h : Below w.heap.size w w') => hcell w' h)
    have e9 : (xn : Int) < n := by omega
    have e7 : ¬ (k : Int) = 0 := by omega
    have e8 : ¬ k = 0 := by omega
    have e6 : IntKind.u64.wrap (k : Int) = k := IntWalk.u64_in _ (by omega)
    obtain ⟨D, hD⟩ : ∃ D, D = t - f := ⟨_, rfl⟩
    have w1' : IntKind.u64.wrap (t - f) = D := by rw [hD]; exact IntWalk.u64_in _ (by omega)
    have hd0 : 0 ≤ D ∧ D ≤ 4611686018427387904 := by omega
    have u0 := Int.ediv_nonneg hd0.1 (show (0 : Int) ≤ k by omega)
    have u1 := Int.ediv_le_self (k : Int) hd0.1
    have u2 := Int.mul_ediv_self_le (x := D) (k := (k : Int)) (by omega)
    have w2' : IntKind.u64.wrap (D.tdiv (k : Int)) = D / k := IntWalk.u64_quo _ _ (by omega)
    obtain ⟨Q, hQ⟩ : ∃ Q, Q = D / (k : Int) := ⟨_, rfl⟩
    rw [← hQ] at u0 u1 u2 w2'
    have w3' : IntKind.u64.wrap (Q + 1) = Q + 1 := IntWalk.u64_in _ (by omega)
    rw [← hD] at HNS
    have w5' : IntKind.u64.wrap y = y := IntWalk.u64_in _ (by omega)
    have HK4 := Lib.hid (And.intro k3 k4)
    have HU2 := Lib.hid u2
    clear hc hcell he hl hst hok hD hQ u2
    obtain ⟨x0, x1⟩ := hX.c2
    obtain ⟨t0, t1⟩ := hT.c2
    go_wp2_with fail
    refine (hPos _ hbd).mono ?_
    rintro en w2 ⟨rfl, hb2⟩
    replace hX := hX.below hb2
    replace hT := hT.below hb2
    replace hbd := hbd.trans (hb2.mono hbd.size)
    clear hb2 x0 x1 t0 t1 hPos
    obtain ⟨x0, x1⟩ := hX.c2
    go_wp2_with fail
    refine (hR _ hbd).mono ?_
    rintro en w6 ⟨rfl, hb6⟩
    rw [HP.out]
    replace hX := hX.below hb6
    replace hT := hT.below hb6
    replace hbd := hbd.trans (hb6.mono hbd.size)
    clear hb6 x0 x1 hR
    obtain ⟨x0, x1⟩ := hX.c2
    obtain ⟨t0, t1⟩ := hT.c2
    obtain ⟨c0, c1, c2⟩ := HCS.out _ hbd
    go_upto_region 10 with (fail)
    have hs := Blk.new w6 (stc f t a k mm) 39
    have hbx := below_one w6 (.cells (stc f t a k mm) 39)
    replace hT := hT.below hbx
    replace hbd := hbd.trans (hbx.mono hbd.size)
    clear x0 x1 t0 t1 c0 c1 c2 hbx hX
    generalize w6.alloc (.cells (stc f t a k mm) 39) = w7 at *
    generalize w6.heap.size = b11 at *
    obtain ⟨t0, t1⟩ := hT.c2
    obtain ⟨c0, c1, c2⟩ := hs.c3
    by_cases hyk : (k : Int) ≤ y
    · have d4 : decide (y < (k : Int)) = false := by simp; omega
      go_wp2_with fail
      refine (live21_any _).mono ?_
      rintro e wl ⟨rfl, hbl⟩
      replace hbd := hbd.trans (hbl.mono hbd.size)
      go_wp2
      go_ret
      exact ⟨rfl, hbd⟩
    have d4 : decide (y < (k : Int)) = true := by simp; omega
    by_cases hlq : Q + 1 ≤ l
    · have d5 : decide (l < Q + 1) = false := by simp; omega
      go_wp2_with fail
      refine (live21_any _).mono ?_
      rintro e wl ⟨rfl, hbl⟩
      replace hbd := hbd.trans (hbl.mono hbd.size)
      go_wp2
      go_ret
      exact ⟨rfl, hbd⟩
    have d5 : decide (l < Q + 1) = true := by simp; omega
    have hmul : 0 ≤ l * (k : Int) ∧ l * (k : Int) ≤ D := by
      refine ⟨Int.mul_nonneg l0 (by omega), ?_⟩
      have h1 : l * (k : Int) ≤ Q * (k : Int) := Int.mul_le_mul_of_nonneg_right (by omega) (by omega)
      have h2 := HU2.out
      rw [Int.mul_comm] at h2
      omega
    have hns := HNS.out (by omega) (by omega)
    obtain ⟨M, hM⟩ : ∃ M, M = l * (k : Int) := ⟨_, rfl⟩
    rw [← hM] at hmul hns
    have w6' : IntKind.u64.wrap (l * (k : Int)) = M := by rw [← hM]; exact IntWalk.u64_in _ (by omega)
    have w7' : IntKind.u64.wrap (M + y) = M + y := IntWalk.u64_in _ (by omega)
    have d6 : decide (M + y < D) = false := by simp; omega
    clear hM hns
    go_wp2_with fail
    refine (live21_any _).mono ?_
    rintro e wl ⟨rfl, hbl⟩
    replace hbd := hbd.trans (hbl.mono hbd.size)
    go_wp2
    go_ret
    exact ⟨rfl, hbd⟩

set_option maxRecDepth 100000 in
theorem lifted (os : Os) (started : os.Started) (H : Type) (enc : TypeId × Value → H) :
    ReturnsInHanded {} Try.checked os 4 .any (Rows.locatePosSpec.pre6 enc Try.prog Try.f4 Rows.locatePosRow.domain false) (Rows.locatePosSpec.post enc Try.prog Try.f4 false true false false) := by
  refine returnsInHanded_of_change (C := Try.checked) own started (by kernel_rfl) Try.func4
    (ChangeSpec.witness6 (enc := enc) (C := Try.checked) false ⟨#[], #[.agg #[.int .u64 0, .slice none 0 0], .agg #[.int .i64 0, .int .i64 0], .int .u64 0], []⟩ 8 (by kernel_rfl) (by kernel_rfl) (by kernel_rfl) (by kernel_rfl)) ?_
  intro W base args ds gs before hval0 hW hcnd _
  have hval : ∀ (j : Nat) t v, Try.f4.params[j]? = some t → args[j]? = some v → Value.okWide Try.prog W .any base t v := hval0
  have hW' := hW
  obtain ⟨p, q, hA0, hV, rfl, hfz, hnd⟩ := hW
  have hA : DataW.TrodAll enc Try.prog W 0 (fun _ => true) true Try.f4.params.toList args.toList ds p := hA0
  rw [Try.params4] at hA hval
  obtain ⟨v0, vs0, d0, ds0, p0, q0, hargs, rfl, rfl, h0, r0⟩ := trodAll_cons hA
  obtain ⟨v1, vs1, d1, ds1, p1, q1, rfl, rfl, rfl, h1, r1⟩ := trodAll_cons r0
  obtain ⟨v2, vs2, d2, ds2, p2, q2, rfl, rfl, rfl, h2, r2⟩ := trodAll_cons r1
  obtain ⟨rfl, rfl, rfl⟩ := trodAll_nil r2
  obtain rfl : args = #[v0, v1, v2] := by cases args; simp_all
  obtain ⟨rfl, rfl⟩ := trodVars_none hV
  have lt0 : ∀ x ∈ p0, x.block < W.heap.size := by obtain ⟨m, hm⟩ := h0; exact DataW.trod_lt m _ _ _ hm
  have lt1 : ∀ x ∈ p1, x.block < W.heap.size := by obtain ⟨m, hm⟩ := h1; exact DataW.trod_lt m _ _ _ hm
  have lt2 : ∀ x ∈ p2, x.block < W.heap.size := by obtain ⟨m, hm⟩ := h2; exact DataW.trod_lt m _ _ _ hm
  clear hA0 hval0
  refine (walk enc W base v0 d0 p0 (hval 0 25 v0 rfl rfl) h0 v1 d1 p1 (hval 1 45 v1 rfl rfl) h1 v2 d2 p2 (hval 2 22 v2 rfl rfl) h2).mono fun e W' ⟨he, bel⟩ => ?_
  subst he
  exact ⟨_, rfl, _, _, _, [], _, [], hW', trodAll_mk1 (shut_bool Try.underlying4 _), (trodAll_cons_mk (Below.trod laidOut (by kernel_rfl) (of_decide_eq_true (by kernel_rfl)) h0 bel lt0) (trodAll_cons_mk (Below.trod laidOut (by kernel_rfl) (of_decide_eq_true (by kernel_rfl)) h1 bel lt1) (trodAll_cons_mk (Below.trod laidOut (by kernel_rfl) (of_decide_eq_true (by kernel_rfl)) h2 bel lt2) trodAll_mk0))), rfl, bel.frame _, fun h => by cases h⟩

theorem over : Rows.locatePosRow.holds Try.pinned (OpenSpec.ofChange Rows.locatePosSpec) :=
  OpenClaim.holds_of_wide 4 Try.f4 rfl rfl rfl rfl rfl rfl rfl ⟨rfl, rfl, rfl, rfl, rfl⟩ rfl rfl rfl rfl rfl (by kernel_rfl) Try.func4 (by kernel_rfl)
    (of_decide_eq_true (by kernel_rfl)) (by unfold Func.isWrapper; first | (rw [if_pos (by decide +kernel)]; kernel_rfl) | (rw [if_neg (by decide +kernel)]; exact ⟨rfl, rfl⟩))
    (fun os started H enc _ => lifted os started H enc)

/-- THE STATEMENT. -/
theorem proved : Rows.LocatePosSaid := over
#print axioms proved
end Go.Proofs.Ytmcabaebdloakaa.locatePos
