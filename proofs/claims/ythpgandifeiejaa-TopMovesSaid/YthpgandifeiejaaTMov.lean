/- TopMoves: called with any projection, any two numbers and any sets, the law returns true; no condition. -/
import Derived.Test.YthpgandifeiejaaRows
import Derived.Test.YthpgandifeiejaaTopL
import Derived.Test.YthpgandifeiejaaK1
import Derived.ProofKit
import Derived.OpenShut
import Derived.ShutString
import Derived.ChangeOld
namespace Go.Proofs.Ythpgandifeiejaa.topMoves
open Go.ChangeShapes Go.WideShapes Go.ChangeAt Go.RowKit
open Go.ChangeMaps (open_string shut_string)
set_option linter.unusedVariables false

theorem own : ownKnob Try.prog.godebug = none := by kernel_rfl
theorem laidOut : laidOutB Try.prog = true := by kernel_rfl
open Cur Mem

set_option maxRecDepth 100000

set_option maxRecDepth 100000 in
theorem open_twou {H : Type} {enc : TypeId × Value → H} {w : World} {base : Nat} {v : Value} {d : DataW H} {p : List MemPlace} (g : Value.okWide Try.prog w .any base 26 v) (h : DataW.Trod enc Try.prog w 0 (fun _ => true) true 26 v d p) :
    ∃ x y : Int, v = .agg #[.int .u64 x, .int .u64 y] ∧ (0 ≤ x ∧ x < 18446744073709551616) ∧ (0 ≤ y ∧ y < 18446744073709551616) := by
  have hg : ∃ cs : Array Value, v = .agg cs ∧ cs.size = Try.prog.cellsOf 26 := by
    simp only [Value.okWide, Try.underlying26] at g
    obtain ⟨cs, h1, h2, _⟩ := g
    exact ⟨cs, h1, h2⟩
  obtain ⟨cs, rfl, hs⟩ := hg
  obtain ⟨fuel, hf⟩ := h
  have c2 : Try.prog.cellsOf 26 = 2 := by kernel_rfl
  have c1 : Try.prog.cellsOf 22 = 1 := by kernel_rfl
  rw [c2] at hs
  obtain ⟨cs⟩ := cs
  match cs, hs with
  | [x0, x1], _ =>
    simp only [Value.cells] at hf
    obtain ⟨xs, mm, _, _, _, hl, hi⟩ := DataW.trod_array Try.underlying26 hf
    have i0 := hi 0 (by decide)
    have i1 := hi 1 (by decide)
    rw [c1] at i0 i1
    match xs, hl with
    | [y0, y1], _ =>
      simp only [Nat.zero_mul, Nat.one_mul, List.drop_zero, List.take_succ_cons, List.take_zero, List.drop_succ_cons, List.getElem?_cons_zero, List.getElem?_cons_succ] at i0 i1
      obtain ⟨u, e1, _, r1⟩ := DataW.trod_int Try.underlying22 i0
      obtain ⟨t, e2, _, r2⟩ := DataW.trod_int Try.underlying22 i1
      simp only [List.cons.injEq, and_true] at e1 e2
      subst e1 e2
      have b1 := bounds_u64 r1
      have b2 := bounds_u64 r2
      exact ⟨u, t, rfl, ⟨b1.1, by omega⟩, ⟨b2.1, by omega⟩⟩
theorem prb_byte {x : Prj} (h : prok x = true) (hb : pbd x.2) : ∀ b ∈ prb x, 0 ≤ b ∧ b < 256 := fun b hm => by
  obtain ⟨k1, k2, k3, k4⟩ := prok_parts h
  have := epk_bd k1
  unfold prb at hm
  rcases List.mem_append.1 hm with hm | hm
  · rcases List.mem_append.1 hm with hm | hm
    · exact vz_byte _ (by omega) (by omega) b hm
    · exact vz_byte _ (by omega) (by omega) b hm
  · exact psb_byte (Int.le_refl _) k4 hb b hm


set_option maxHeartbeats 16000000 in
theorem walk {H : Type} (enc : TypeId × Value → H) (w : World) (base : Nat) (v0 : Value) (d0 : DataW H) (p0 : List MemPlace) (g0 : Value.okWide Try.prog w .any base 25 v0) (h0 : DataW.Trod enc Try.prog w 0 (fun _ => true) true 25 v0 d0 p0) (v1 : Value) (d1 : DataW H) (p1 : List MemPlace) (g1 : Value.okWide Try.prog w .any base 26 v1) (h1 : DataW.Trod enc Try.prog w 0 (fun _ => true) true 26 v1 d1 p1) (v2 : Value) (d2 : DataW H) (p2 : List MemPlace) (g2 : Value.okWide Try.prog w .any base 27 v2) (h2 : DataW.Trod enc Try.prog w 0 (fun _ => true) true 27 v2 d2 p2) :
    Calls Try.prog 3 #[v0, v1, v2] w fun e w' => e = .returned (.bool true) ∧ Below w.heap.size w w' := by
  obtain ⟨e, A, n, m, L, rfl, ⟨e0, e1⟩, hm, hnil, hz⟩ := open_prj g0 h0
  obtain ⟨t, p, rfl, ⟨t0, t1⟩, ⟨p0, p1⟩⟩ := open_twou g1 h1
  obtain ⟨B, c, S, rfl, hlc, hnilB, hsq⟩ := open_sl Try.underlying27 opens_sets g2 h2
  have hst : Sts w (fun b => b < w.heap.size) B S.length S := ⟨rfl, hsq.mono fun b _ hl => hl⟩
  obtain ⟨l, hl⟩ : ∃ l, l = S.length := ⟨_, rfl⟩
  rw [← hl] at hst hlc ⊢
  clear g0 h0 g1 h1 g2 h2 hsq hl
  have hX := (Blk.new w (prc e A n m) 25).alloc (.cells #[.int .u64 t, .int .u64 p] 26)
  have hT := Blk.new (w.alloc (.cells (prc e A n m) 25)) #[.int .u64 t, .int .u64 p] 26
  rw [World.size_alloc] at hT
  have hbd := below_two w (.cells (prc e A n m) 25) (.cells #[.int .u64 t, .int .u64 p] 26)
  have HZ := Lib.hid hz
  have HL := Lib.hid hz.1
  have HST := Lib.hid hst
  have HNIL := Lib.hid hnil
  have HNILB := Lib.hid hnilB
  clear hz hst hnil hnilB
  obtain ⟨x0, x1⟩ := hX.c2
  go_enter Try.func3, Try.ntmps3
  go_wp2_with fail
  generalize (w.alloc (.cells (prc e A n m) 25)).alloc (.cells #[.int .u64 t, .int .u64 p] 26) = w0 at *
  refine (long20_any _ e A n m L _ (HZ.out.below hbd)).mono ?_
  rintro en w1 ⟨b1, rfl, hb1, hl1⟩
  replace hX := hX.below hb1
  replace hT := hT.below hb1
  replace hbd := hbd.trans (hb1.mono hbd.size)
  clear hb1 x0 x1
  cases b1
  case true =>
    clear hl1 hX hT
    go_wp2_with fail
    refine (lives11_any _).mono ?_
    rintro e wl ⟨rfl, hbl⟩
    replace hbd := hbd.trans (hbl.mono hbd.size)
    go_wp2
    go_ret
    exact ⟨rfl, hbd⟩
  obtain ⟨hn20, hl20⟩ := hl1 rfl
  have HL20 := Lib.hid hl20
  clear hl1 hl20
  go_wp2_with fail
  refine (long19_any _ 0 0 B l c S _ (HST.out.below hbd)).mono ?_
  rintro en w2 ⟨b2, rfl, hb2, hl2⟩
  replace hX := hX.below hb2
  replace hT := hT.below hb2
  replace hbd := hbd.trans (hb2.mono hbd.size)
  clear hb2
  cases b2
  case true =>
    clear hl2 hX hT
    go_wp2_with fail
    refine (lives11_any _).mono ?_
    rintro e wl ⟨rfl, hbl⟩
    replace hbd := hbd.trans (hbl.mono hbd.size)
    go_wp2
    go_ret
    exact ⟨rfl, hbd⟩
  obtain ⟨hk20, hl220⟩ := hl2 rfl
  have HLS := Lib.hid hl220
  clear hl2 hl220
  go_wp2
  have L1 : ∀ w', (Below w.heap.size w w' ∧ Blk w' w.heap.size (prc e A n m) 25 ∧ Blk w' (w.heap.size + 1) #[.int .u64 t, .int .u64 p] 26) → w'.cell? ⟨w.heap.size + 1, 0, none⟩ = some (.int .u64 t) ∧ w'.cell? ⟨w.heap.size + 1, 1, none⟩ = some (.int .u64 p) := fun w' h => h.2.2.c2
  have hSS : Below w.heap.size w w2.drew ∧ Blk w2.drew w.heap.size (prc e A n m) 25 ∧ Blk w2.drew (w.heap.size + 1) #[.int .u64 t, .int .u64 p] 26 := ⟨hbd.trans ((below_one' _).mono hbd.size), hX.below (below_one' _), hT.below (below_one' _)⟩
  refine Seq.wp_region_seq (fun w' => Below w.heap.size w w' ∧ Blk w' w.heap.size (prc e A n m) 25 ∧ Blk w' (w.heap.size + 1) #[.int .u64 t, .int .u64 p] 26) (by kernel_rfl) (by kernel_rfl) hSS ?_
  repeat (first | (refine Seq.Seq.skip (by rfl) ?_; (try simp only [Act.put, List.setIfInBounds_toArray, List.set_cons_zero, List.set_cons_succ])) | (refine Seq.Seq.det ?_ (by rfl) (fun w hS => ?_) ?_; rotate_left; ((try dsimp only at hS); go_simp; (try rw [if_pos (by omega)]); with_reducible rfl); (try simp only [Act.put, List.setIfInBounds_toArray, List.set_cons_zero, List.set_cons_succ])))
  refine Seq.Seq.nil ?_
  generalize w2.drew = w3 at *
  replace hbd := hSS.1
  replace hX := hSS.2.1
  clear hSS L1 hT
  obtain ⟨x0, x1⟩ := hX.c2
  have hW := hbd.size
  go_wp2_with fail
  refine (grow_any e A n m L t B l c S w3 ((HZ.out.below hbd).mono fun b h9 _ => by have h8 : b < w.heap.size := h9; show b < w3.heap.size; omega) hm HNIL.out (by omega) (HL20.out.up (by omega)) e0 e1 t0 t1 ((HST.out.below hbd).mono fun b h9 _ => by have h8 : b < w.heap.size := h9; show b < w3.heap.size; omega) hlc HNILB.out (by omega) (fun s hs => by have := HLS.out s hs; omega)).mono ?_
  rintro en w4 ⟨A', N', m', rfl, hb4, hpt, hm', hn'⟩
  have HCASE := Lib.hid (grw_cases e L t S)
  have HSAMEG := Lib.hid (fun (e2 : Int) (h1 : prok (e, L) = true) (h2 : prok (e2, grown L t S) = true) (q : Int) => grown_same (p := q) h1 h2)
  have HGP : Hid (plen 1000000 (grw e L t S).2.2 ∧ (grw e L t S).2.2.length ≤ 1000) := Lib.hid (by
    have h1 := grown_plen (t := t) HL20.out (S := S) (by rw [HST.out.1]; exact hk20) HLS.out
    have h2 := grown_len L t S
    rw [HL.out] at h2
    rcases grw_cases e L t S with ⟨h, _⟩ | ⟨_, h⟩
    · rw [h]; exact ⟨h1.up (by omega), by show (grown L t S).length ≤ 1000; omega⟩
    · rw [h]; exact ⟨fun s hs => by simp [prj0] at hs, by simp [prj0]⟩)
  have hG1 := hpt.1
  generalize grw e L t S = R at *
  obtain ⟨cd, e', G⟩ := R
  dsimp only at *
  have hN' : N' ≤ 1000 := by have := HGP.out.2; rw [hG1] at this; exact this
  have hbx := hb4.trans ((below_one w4 (.cells (prc e' A' N' m') 25)).mono hb4.size)
  have hQ := Blk.new w4 (prc e' A' N' m') 25
  replace hpt := hpt.below (below_one w4 (.cells (prc e' A' N' m') 25))
  replace hX := hX.below hbx
  replace hbd := hbd.trans (hbx.mono hbd.size)
  clear hb4 hbx x0 x1 hG1
  go_upto_region 5 with (fail)
  generalize w4.alloc (.cells (prc e' A' N' m') 25) = w5 at *
  generalize w4.heap.size = qb at *
  rcases HCASE.out with ⟨h1, h2, h3, h4, h5⟩ | ⟨h1, _⟩
  case inr =>
    have hcb : (cd != 0) = true := by simpa using h1
    clear h1 hpt hX hQ HCASE
    go_wp2_with fail
    refine (lives11_any _).mono ?_
    rintro e wl ⟨rfl, hbl⟩
    replace hbd := hbd.trans (hbl.mono hbd.size)
    go_wp2
    go_ret
    exact ⟨rfl, hbd⟩
  injection h1 with h1 h6
  injection h6 with h6 h7
  subst h1
  replace h6 := h6.symm
  have HOKL := Lib.hid h2
  have HOK : Hid (prok (e', G) = true) := Lib.hid (by rw [h7, ← h6]; exact h5)
  have HSAME : Hid (∀ q, 0 ≤ q → q < t → q < 4611686018427387904 → wsi G q = wsi L q ∧ wset G q = wset L q ∧ wloc G q = wloc L q ∧ wsn G q = wsn L q) := Lib.hid (by rw [h7]; exact HSAMEG.out _ h2 h5)
  have HPL := Lib.hid (HL20.out.up (by omega) : plen 1000000 L)
  have HSB := Lib.hid hpt.bds
  have ht4 := h4
  clear h2 h3 h4 h5 h6 h7 HCASE HSAMEG
  obtain ⟨y0, y1⟩ := hQ.c2
  go_wp2_with fail
  refine (prbytes_any _ e' A' N' m' G _ (hpt.mono (Q := fun b => b < w5.heap.size) (fun b _ hl => hl)) (fun b h => h) (by omega) HGP.out.1).mono ?_
  rintro en w6 ⟨hb6, ⟨_, g, rfl, _, hbs⟩ | ⟨hf, _⟩⟩
  case inr => rw [HOK.out] at hf; cases hf
  have HLE := Lib.hid (prb_len HOK.out)
  have HYB := Lib.hid (prb_byte HOK.out HSB.out)
  have HE0 : Hid (prd (prb (e', G)) 0 = ((e', G), ((prb (e', G)).length : Int), 0, 0)) := Lib.hid (by
    have := prd_put (z := prb (e', G)) (pre := []) (rest := []) (x := (e', G)) (by simp) HOK.out HSB.out (fun x hx => by simp at hx)
    simpa using this)
  generalize prb (e', G) = Y at *
  have hY1 : Y.length ≤ 100000 := by have := HLE.out; omega
  replace hX := hX.below hb6
  replace hQ := hQ.below hb6
  replace hpt := hpt.below hb6
  replace hbd := hbd.trans (hb6.mono hbd.size)
  clear hb6 y0 y1
  go_wp2_with fail
  refine (pdecode_any _ Y.length _ Y _ hbs (Nat.le_refl _) hY1 HYB.out).mono ?_
  rintro en w7 ⟨e5, A5, N5, m5, L5, p5, c5, q5, hs7, hb7, hN7, hpl7, hd⟩
  obtain ⟨e3, rfl, rfl, rfl⟩ := hs7.of_done HE0.out
  rcases hd with ⟨_, hlt, _⟩ | ⟨_, rfl, hpt7⟩
  · exact absurd hlt (by omega)
  injection e3 with e3 e4
  subst e3 e4
  obtain rfl : N' = N5 := by rw [← hpt7.1, ← hpt.1]
  have hbx := below_two w7 (.cells (prc e5 A5 N' m5) 25) (.cells #[.int .i64 0, .int .i64 0] 40)
  have hR := (Blk.new w7 (prc e5 A5 N' m5) 25).alloc (.cells #[.int .i64 0, .int .i64 0] 40)
  have hF := Blk.new (w7.alloc (.cells (prc e5 A5 N' m5) 25)) #[.int .i64 0, .int .i64 0] 40
  rw [World.size_alloc] at hF
  replace hpt7 := hpt7.below hbx
  replace hpt := (hpt.below hb7).below hbx
  replace hX := (hX.below hb7).below hbx
  replace hQ := (hQ.below hb7).below hbx
  replace hbd := hbd.trans (hb7.mono hbd.size)
  replace hbd := hbd.trans (hbx.mono hbd.size)
  clear hbx hb7 hs7 hbs hpl7
  go_upto_region 9 with (fail)
  generalize (w7.alloc (.cells (prc e5 A5 N' m5) 25)).alloc (.cells #[.int .i64 0, .int .i64 0] 40) = w8 at *
  generalize w7.heap.size = rb at *
  obtain ⟨y0, y1⟩ := hQ.c2
  obtain ⟨z0, z1⟩ := hR.c2
  obtain ⟨f0, f1⟩ := hF.c2
  go_wp2_with fail
  refine (prsame_any _ _ e5 A' N' m' L5 e5 A5 N' m5 L5 _ hpt hpt7 (by omega) (by omega) HGP.out.1 HGP.out.1).mono ?_
  rintro en w9 ⟨rfl, hb9⟩
  rw [decide_eq_true rfl]
  have h8 := hb9
  have HPT7 := Lib.hid hpt7
  replace hX := hX.below hb9
  replace hR := hR.below hb9
  replace hbd := hbd.trans (hb9.mono hbd.size)
  clear hb9 y0 y1 z0 z1 f0 f1 hpt hQ hF hpt7
  obtain ⟨x0, x1⟩ := hX.c2
  obtain ⟨z0, z1⟩ := hR.c2
  go_wp2_with fail
  refine (first_any _ _ e A n m L e5 A5 N' m5 L5 _ (HZ.out.below hbd) (HPT7.out.below h8) (by omega) (by omega) HPL.out HGP.out.1).mono ?_
  rintro en w9' ⟨r, ok, rfl, hb9, _, hgood⟩
  have hg := hgood HOKL.out HOK.out
  replace hX := hX.below hb9
  replace hR := hR.below hb9
  replace h8 := h8.trans (hb9.mono h8.size)
  replace hbd := hbd.trans (hb9.mono hbd.size)
  clear hb9 x0 x1 z0 z1 hgood
  cases ok
  case false =>
    clear hg
    by_cases htp : t ≤ p
    · have d1 : decide (t ≤ p) = true := decide_eq_true htp
      clear htp HPT7 hX hR
      go_wp2_with fail
      refine (lives11_any _).mono ?_
      rintro e wl ⟨rfl, hbl⟩
      replace hbd := hbd.trans (hbl.mono hbd.size)
      go_wp2
      go_ret
      exact ⟨rfl, hbd⟩
    have d1 : decide (t ≤ p) = false := decide_eq_false htp
    have htp' : p < t := by omega
    have hp62 : p < 4611686018427387904 := by omega
    obtain ⟨s1, s2, s3, s4⟩ := HSAME.out p p0 htp' hp62
    have hps : psk p = true := decide_eq_true (by omega)
    have HNO := Lib.hid (fun (hh : ¬ (prok (e, L) = true ∧ psk p = true)) => hh ⟨HOKL.out, hps⟩)
    have HNO2 := Lib.hid (fun (hh : ¬ (prok (e5, L5) = true ∧ psk p = true)) => hh ⟨HOK.out, hps⟩)
    have hA1 := fun w' (h : Below w.heap.size w w') => lat_any _ e A n m L p w' (HZ.out.below h) (by omega) HPL.out p0 (by omega)
    have hA2 := fun w' (h : Below w8.heap.size w8 w') => lat_any _ e5 A5 N' m5 L5 p w' (HPT7.out.below h) (by omega) HGP.out.1 p0 (by omega)
    have hM := fun w' (h : Below w.heap.size w w') (h8 : Below w8.heap.size w8 w') => moved_any _ _ e A n m L e5 A5 N' m5 L5 p w' (HZ.out.below h) (HPT7.out.below h8) (by omega) (by omega) HPL.out HGP.out.1 p0 (by omega)
    rw [mvv_yes ⟨HOKL.out, hps⟩ ⟨HOK.out, hps⟩, s4, decide_eq_true rfl] at hM
    unfold AtPost at hA1 hA2
    unfold BPost at hM
    rw [s1, s2, s3, s4] at hA2
    clear s1 s2 s3 s4 htp htp' hp62 hps
    obtain ⟨x0, x1⟩ := hX.c2
    go_wp2_with fail
    refine (hA1 _ hbd).mono ?_
    rintro en w10 ⟨hb10, ⟨hh, _⟩ | ⟨_, v10, rfl, ho10⟩⟩
    · exact (HNO.out hh).elim
    obtain ⟨A10, c10, rfl⟩ := ho10.slice
    obtain ⟨N10, hN10⟩ : ∃ k, k = (wsn L p).length := ⟨_, rfl⟩
    rw [← hN10]
    have hY := Blk.new w10 #[.int .i64 (wsi L p : Int), .int .i64 (wset L p : Int), .int .u64 (wloc L p), .slice A10 N10 c10] 48
    have hbx := below_one w10 (.cells #[.int .i64 (wsi L p : Int), .int .i64 (wset L p : Int), .int .u64 (wloc L p), .slice A10 N10 c10] 48)
    replace hX := (hX.below hb10).below hbx
    replace hR := (hR.below hb10).below hbx
    replace h8 := h8.trans (hb10.mono h8.size)
    replace h8 := h8.trans (hbx.mono h8.size)
    replace hbd := hbd.trans (hb10.mono hbd.size)
    replace hbd := hbd.trans (hbx.mono hbd.size)
    clear hb10 hbx ho10 hA1 x0 x1 hN10
    go_upto_region 17 with (fail)
    generalize (wsi L p : Int) = P0 at *
    generalize (wset L p : Int) = P1 at *
    generalize wloc L p = P2 at *
    generalize w10.alloc (.cells #[.int .i64 P0, .int .i64 P1, .int .u64 P2, .slice A10 N10 c10] 48) = w11 at *
    generalize w10.heap.size = yb at *
    obtain ⟨x0, x1⟩ := hR.c2
    go_wp2_with fail
    refine (hA2 _ h8).mono ?_
    rintro en w12 ⟨hb12, ⟨hh, _⟩ | ⟨_, v12, rfl, ho12⟩⟩
    · exact (HNO2.out hh).elim
    obtain ⟨A12, c12, rfl⟩ := ho12.slice
    obtain ⟨N12, hN12⟩ : ∃ k, k = (wsn L p).length := ⟨_, rfl⟩
    rw [← hN12]
    have hV := Blk.new w12 #[.int .i64 P0, .int .i64 P1, .int .u64 P2, .slice A12 N12 c12] 48
    have hbx := below_one w12 (.cells #[.int .i64 P0, .int .i64 P1, .int .u64 P2, .slice A12 N12 c12] 48)
    replace hX := (hX.below hb12).below hbx
    replace hR := (hR.below hb12).below hbx
    replace hY := (hY.below hb12).below hbx
    replace h8 := h8.trans (hb12.mono h8.size)
    replace h8 := h8.trans (hbx.mono h8.size)
    replace hbd := hbd.trans (hb12.mono hbd.size)
    replace hbd := hbd.trans (hbx.mono hbd.size)
    clear hb12 hbx ho12 hA2 x0 x1 hN12
    go_upto_region 18 with (fail)
    generalize w12.alloc (.cells #[.int .i64 P0, .int .i64 P1, .int .u64 P2, .slice A12 N12 c12] 48) = w13 at *
    generalize w12.heap.size = vb at *
    obtain ⟨x0, x1⟩ := hX.c2
    obtain ⟨z0, z1⟩ := hR.c2
    go_wp2_with fail
    refine (hM _ hbd h8).mono ?_
    rintro en w14 ⟨rfl, hb14⟩
    replace hY := hY.below hb14
    replace hV := hV.below hb14
    replace hbd := hbd.trans (hb14.mono hbd.size)
    clear hb14 x0 x1 z0 z1 hM hX hR h8
    obtain ⟨y0, y1, y2, y3⟩ := hY.c4
    obtain ⟨v0, v1, v2, v3⟩ := hV.c4
    go_wp2_with fail
    refine (lives11_any _).mono ?_
    rintro e wl ⟨rfl, hbl⟩
    replace hbd := hbd.trans (hbl.mono hbd.size)
    go_wp2
    go_ret
    exact ⟨rfl, hbd⟩
  obtain ⟨r0, r1, r2, _⟩ := hg.1 rfl
  have d0 : decide (r < t) = false := decide_eq_false (fun h => r2 (HSAME.out r r0 h r1).2.2.2.symm)
  clear hg r0 r1 r2
  by_cases htp : t ≤ p
  · have d1 : decide (t ≤ p) = true := decide_eq_true htp
    clear htp HPT7 hX hR
    go_wp2_with fail
    refine (lives11_any _).mono ?_
    rintro e wl ⟨rfl, hbl⟩
    replace hbd := hbd.trans (hbl.mono hbd.size)
    go_wp2
    go_ret
    exact ⟨rfl, hbd⟩
  have d1 : decide (t ≤ p) = false := decide_eq_false htp
  have htp' : p < t := by omega
  have hp62 : p < 4611686018427387904 := by omega
  obtain ⟨s1, s2, s3, s4⟩ := HSAME.out p p0 htp' hp62
  have hps : psk p = true := decide_eq_true (by omega)
  have HNO := Lib.hid (fun (hh : ¬ (prok (e, L) = true ∧ psk p = true)) => hh ⟨HOKL.out, hps⟩)
  have HNO2 := Lib.hid (fun (hh : ¬ (prok (e5, L5) = true ∧ psk p = true)) => hh ⟨HOK.out, hps⟩)
  have hA1 := fun w' (h : Below w.heap.size w w') => lat_any _ e A n m L p w' (HZ.out.below h) (by omega) HPL.out p0 (by omega)
  have hA2 := fun w' (h : Below w8.heap.size w8 w') => lat_any _ e5 A5 N' m5 L5 p w' (HPT7.out.below h) (by omega) HGP.out.1 p0 (by omega)
  have hM := fun w' (h : Below w.heap.size w w') (h8 : Below w8.heap.size w8 w') => moved_any _ _ e A n m L e5 A5 N' m5 L5 p w' (HZ.out.below h) (HPT7.out.below h8) (by omega) (by omega) HPL.out HGP.out.1 p0 (by omega)
  rw [mvv_yes ⟨HOKL.out, hps⟩ ⟨HOK.out, hps⟩, s4, decide_eq_true rfl] at hM
  unfold AtPost at hA1 hA2
  unfold BPost at hM
  rw [s1, s2, s3, s4] at hA2
  clear s1 s2 s3 s4 htp htp' hp62 hps
  obtain ⟨x0, x1⟩ := hX.c2
  go_wp2_with fail
  refine (hA1 _ hbd).mono ?_
  rintro en w10 ⟨hb10, ⟨hh, _⟩ | ⟨_, v10, rfl, ho10⟩⟩
  · exact (HNO.out hh).elim
  obtain ⟨A10, c10, rfl⟩ := ho10.slice
  obtain ⟨N10, hN10⟩ : ∃ k, k = (wsn L p).length := ⟨_, rfl⟩
  rw [← hN10]
  have hY := Blk.new w10 #[.int .i64 (wsi L p : Int), .int .i64 (wset L p : Int), .int .u64 (wloc L p), .slice A10 N10 c10] 48
  have hbx := below_one w10 (.cells #[.int .i64 (wsi L p : Int), .int .i64 (wset L p : Int), .int .u64 (wloc L p), .slice A10 N10 c10] 48)
  replace hX := (hX.below hb10).below hbx
  replace hR := (hR.below hb10).below hbx
  replace h8 := h8.trans (hb10.mono h8.size)
  replace h8 := h8.trans (hbx.mono h8.size)
  replace hbd := hbd.trans (hb10.mono hbd.size)
  replace hbd := hbd.trans (hbx.mono hbd.size)
  clear hb10 hbx ho10 hA1 x0 x1 hN10
  go_upto_region 17 with (fail)
  generalize (wsi L p : Int) = P0 at *
  generalize (wset L p : Int) = P1 at *
  generalize wloc L p = P2 at *
  generalize w10.alloc (.cells #[.int .i64 P0, .int .i64 P1, .int .u64 P2, .slice A10 N10 c10] 48) = w11 at *
  generalize w10.heap.size = yb at *
  obtain ⟨x0, x1⟩ := hR.c2
  go_wp2_with fail
  refine (hA2 _ h8).mono ?_
  rintro en w12 ⟨hb12, ⟨hh, _⟩ | ⟨_, v12, rfl, ho12⟩⟩
  · exact (HNO2.out hh).elim
  obtain ⟨A12, c12, rfl⟩ := ho12.slice
  obtain ⟨N12, hN12⟩ : ∃ k, k = (wsn L p).length := ⟨_, rfl⟩
  rw [← hN12]
  have hV := Blk.new w12 #[.int .i64 P0, .int .i64 P1, .int .u64 P2, .slice A12 N12 c12] 48
  have hbx := below_one w12 (.cells #[.int .i64 P0, .int .i64 P1, .int .u64 P2, .slice A12 N12 c12] 48)
  replace hX := (hX.below hb12).below hbx
  replace hR := (hR.below hb12).below hbx
  replace hY := (hY.below hb12).below hbx
  replace h8 := h8.trans (hb12.mono h8.size)
  replace h8 := h8.trans (hbx.mono h8.size)
  replace hbd := hbd.trans (hb12.mono hbd.size)
  replace hbd := hbd.trans (hbx.mono hbd.size)
  clear hb12 hbx ho12 hA2 x0 x1 hN12
  go_upto_region 18 with (fail)
  generalize w12.alloc (.cells #[.int .i64 P0, .int .i64 P1, .int .u64 P2, .slice A12 N12 c12] 48) = w13 at *
  generalize w12.heap.size = vb at *
  obtain ⟨x0, x1⟩ := hX.c2
  obtain ⟨z0, z1⟩ := hR.c2
  go_wp2_with fail
  refine (hM _ hbd h8).mono ?_
  rintro en w14 ⟨rfl, hb14⟩
  replace hY := hY.below hb14
  replace hV := hV.below hb14
  replace hbd := hbd.trans (hb14.mono hbd.size)
  clear hb14 x0 x1 z0 z1 hM hX hR h8
  obtain ⟨y0, y1, y2, y3⟩ := hY.c4
  obtain ⟨v0, v1, v2, v3⟩ := hV.c4
  go_wp2_with fail
  refine (lives11_any _).mono ?_
  rintro e wl ⟨rfl, hbl⟩
  replace hbd := hbd.trans (hbl.mono hbd.size)
  go_wp2
  go_ret
  exact ⟨rfl, hbd⟩

set_option maxRecDepth 100000 in
theorem lifted (os : Os) (started : os.Started) (H : Type) (enc : TypeId × Value → H) :
    ReturnsInHanded {} Try.checked os 3 .any (Rows.topMovesSpec.pre6 enc Try.prog Try.f3 Rows.topMovesRow.domain false) (Rows.topMovesSpec.post enc Try.prog Try.f3 false true false false) := by
  refine returnsInHanded_of_change (C := Try.checked) own started (by kernel_rfl) Try.func3
    (ChangeSpec.witness6 (enc := enc) (C := Try.checked) false ⟨#[], #[.agg #[.int .u64 0, .slice none 0 0], .agg #[.int .u64 0, .int .u64 0], .slice none 0 0], []⟩ 8 (by kernel_rfl) (by kernel_rfl) (by kernel_rfl) (by kernel_rfl)) ?_
  intro W base args ds gs before hval0 hW hcnd _
  have hval : ∀ (j : Nat) t v, Try.f3.params[j]? = some t → args[j]? = some v → Value.okWide Try.prog W .any base t v := hval0
  have hW' := hW
  obtain ⟨p, q, hA0, hV, rfl, hfz, hnd⟩ := hW
  have hA : DataW.TrodAll enc Try.prog W 0 (fun _ => true) true Try.f3.params.toList args.toList ds p := hA0
  rw [Try.params3] at hA hval
  obtain ⟨v0, vs0, d0, ds0, p0, q0, hargs, rfl, rfl, h0, r0⟩ := trodAll_cons hA
  obtain ⟨v1, vs1, d1, ds1, p1, q1, rfl, rfl, rfl, h1, r1⟩ := trodAll_cons r0
  obtain ⟨v2, vs2, d2, ds2, p2, q2, rfl, rfl, rfl, h2, r2⟩ := trodAll_cons r1
  obtain ⟨rfl, rfl, rfl⟩ := trodAll_nil r2
  obtain rfl : args = #[v0, v1, v2] := by cases args; simp_all
  obtain ⟨rfl, rfl⟩ := trodVars_none hV
  have lt0 : ∀ x ∈ p0, x.block < W.heap.size := by obtain ⟨m, hm⟩ := h0; exact DataW.trod_lt m _ _ _ hm
  have lt1 : ∀ x ∈ p1, x.block < W.heap.size := by obtain ⟨m, hm⟩ := h1; exact DataW.trod_lt m _ _ _ hm
  have lt2 : ∀ x ∈ p2, x.block < W.heap.size := by obtain ⟨m, hm⟩ := h2; exact DataW.trod_lt m _ _ _ hm
  clear hA0 hval0
  refine (walk enc W base v0 d0 p0 (hval 0 25 v0 rfl rfl) h0 v1 d1 p1 (hval 1 26 v1 rfl rfl) h1 v2 d2 p2 (hval 2 27 v2 rfl rfl) h2).mono fun e W' ⟨he, bel⟩ => ?_
  subst he
  exact ⟨_, rfl, _, _, _, [], _, [], hW', trodAll_mk1 (shut_bool Try.underlying4 _), (trodAll_cons_mk (Below.trod laidOut (by kernel_rfl) (of_decide_eq_true (by kernel_rfl)) h0 bel lt0) (trodAll_cons_mk (Below.trod laidOut (by kernel_rfl) (of_decide_eq_true (by kernel_rfl)) h1 bel lt1) (trodAll_cons_mk (Below.trod laidOut (by kernel_rfl) (of_decide_eq_true (by kernel_rfl)) h2 bel lt2) trodAll_mk0))), rfl, bel.frame _, fun h => by cases h⟩

theorem over : Rows.topMovesRow.holds Try.pinned (OpenSpec.ofChange Rows.topMovesSpec) :=
  OpenClaim.holds_of_wide 3 Try.f3 rfl rfl rfl rfl rfl rfl rfl ⟨rfl, rfl, rfl, rfl, rfl⟩ rfl rfl rfl rfl rfl (by kernel_rfl) Try.func3 (by kernel_rfl)
    (of_decide_eq_true (by kernel_rfl)) (by unfold Func.isWrapper; first | (rw [if_pos (by decide +kernel)]; kernel_rfl) | (rw [if_neg (by decide +kernel)]; exact ⟨rfl, rfl⟩))
    (fun os started H enc _ => lifted os started H enc)

/-- THE STATEMENT. -/
theorem proved : Rows.TopMovesSaid := over
#print axioms proved
end Go.Proofs.Ythpgandifeiejaa.topMoves
