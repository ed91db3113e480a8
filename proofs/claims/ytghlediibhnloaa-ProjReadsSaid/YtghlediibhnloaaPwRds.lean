/- ProjReads: called with any bytes, the law returns true; no condition. -/
import Derived.Test.YtghlediibhnloaaRows
import Derived.Test.YtghlediibhnloaaPrjE
import Derived.Test.YtghlediibhnloaaPrjD
import Derived.Test.YtghlediibhnloaaPrjJ
import Derived.Test.YtghlediibhnloaaPrjK
import Derived.Test.YtghlediibhnloaaPrjL
import Derived.Test.YtghlediibhnloaaPrjM
import Derived.Test.YtghlediibhnloaaK1
import Derived.ProofKit
import Derived.OpenShut
import Derived.ShutString
import Derived.ChangeOld
namespace Go.Proofs.Ytghlediibhnloaa.projReads
open Go.ChangeShapes Go.WideShapes Go.ChangeAt Go.RowKit
open Go.ChangeMaps (open_string shut_string)
set_option linter.unusedVariables false

theorem own : ownKnob Try.prog.godebug = none := by kernel_rfl
theorem laidOut : laidOutB Try.prog = true := by kernel_rfl
open Cur Mem

set_option maxRecDepth 100000

abbrev fc (c q : Int) : Array Value := #[.int .i64 c, .int .i64 q]
theorem plen_mono {M N : Nat} {L : List Stp} (h : plen M L) (hM : M ≤ N) : plen N L := fun s hs => ⟨Nat.le_trans (h s hs).1 hM, fun l hl => Nat.le_trans ((h s hs).2 l hl) hM⟩
theorem plen_nil (M : Nat) : plen M [] := fun s hs => by simp at hs
/-- What the loads of the law need. -/
def S4 (x f y cb : Nat) (u g v c : Array Value) (w' : World) : Prop :=
  Blk w' x u 25 ∧ Blk w' f g 40 ∧ Blk w' y v 25 ∧ Blk w' cb c 48
theorem S4.below {x f y cb : Nat} {u g v c : Array Value} {w' w'' : World} (h : S4 x f y cb u g v c w') (hb : Below w'.heap.size w' w'') : S4 x f y cb u g v c w'' :=
  ⟨h.1.below hb, h.2.1.below hb, h.2.2.1.below hb, h.2.2.2.below hb⟩
/-- The bytes that a projection was read from. -/
theorem prd_from {z : List Int} {n : Nat} {e : Int} {L : List Stp} {p q : Int} (hz : z.length = n) (hby : ∀ x ∈ z, 0 ≤ x ∧ x < 256) (h : St prj0 n (prd z 0) 0 0 0 (e, L) p 0 q) :
    ∃ j : Nat, p = j ∧ j ≤ n ∧ q = 0 ∧ prok (e, L) = true ∧ pbd L ∧ prb (e, L) = z.take j := by
  obtain ⟨_, g0, gv, gp, gq⟩ := h.good
  obtain ⟨x, p', e1, h1, h2, k0, k1, h3⟩ := prd_once hby (Int.le_refl _) (by omega) g0
  rw [e1] at gv gp
  have hx : x = (e, L) := gv.symm
  have hp : p' = p := gp.symm
  subst hx hp
  obtain ⟨j, rfl⟩ := Int.eq_ofNat_of_zero_le k0
  refine ⟨j, rfl, by omega, gq, h1, h2, ?_⟩
  rw [h3]; unfold piece; simp


set_option maxHeartbeats 16000000 in
theorem walk {H : Type} (enc : TypeId × Value → H) (w : World) (base : Nat) (v0 : Value) (d0 : DataW H) (p0 : List MemPlace) (g0 : Value.okWide Try.prog w .any base 26 v0) (h0 : DataW.Trod enc Try.prog w 0 (fun _ => true) true 26 v0 d0 p0) :
    Calls Try.prog 4 #[v0] w fun e w' => e = .returned (.bool true) ∧ Below w.heap.size w w' := by
  obtain ⟨a, n, m, z, rfl, hnm, hz, hby, hnil⟩ := open_bytes g0 h0
  clear g0 h0
  have hbd := Below.refl w.heap.size w
  by_cases hn : 500 < (n : Int)
  · go_enter Try.func4, Try.ntmps4
    go_wp2_with fail
    refine (live20_any _).mono ?_
    rintro en wl ⟨rfl, hbl⟩
    replace hbd := hbd.trans (hbl.mono hbd.size)
    go_wp2
    go_ret
    exact ⟨rfl, hbd⟩
  have HBY := Lib.hid hby
  have HZ := Lib.hid hz
  have HZL := Lib.hid hz.1
  clear hz hby hbd
  go_enter Try.func4, Try.ntmps4
  go_wp2_with fail
  refine (pget_any a n m z w HZ.out hnm (by omega) HBY.out).mono ?_
  rintro en w1 ⟨e, A, N, mm, L, p, c, q, rfl, hb1, hpt, hNm, hnl, hN, hpl, hs⟩
  obtain ⟨V, hV⟩ : ∃ V : Int, V = (if c = 0 then p else 0) := ⟨_, rfl⟩
  rw [← hV]
  have HV := Lib.hid hV
  have HS := Lib.hid hs
  have HPL : Hid (plen 1000000 L) := Lib.hid (plen_mono hpl (by omega))
  have h3 := (Blk.new w1 (prc e A N mm) 25).alloc (.cells (fc c q) 40)
  have h5 := Blk.new (w1.alloc (.cells (prc e A N mm) 25)) (fc c q) 40
  rw [show (w1.alloc (.cells (prc e A N mm) 25)).heap.size = w1.heap.size + 1 by simp] at h5
  have hbx := below_two w1 (.cells (prc e A N mm) 25) (.cells (fc c q) 40)
  replace hpt := hpt.below hbx
  have hbd := hb1.trans (hbx.mono hb1.size)
  clear hV hs hb1 hbx hNm hnl hpl
  go_wp2_with fail
  generalize (w1.alloc (.cells (prc e A N mm) 25)).alloc (.cells (fc c q) 40) = w2 at *
  generalize w1.heap.size = b3 at *
  -- Decode
  refine (pdecode_any a n m z w2 (HZ.out.below hbd) hnm (by omega) HBY.out).mono ?_
  rintro en w3 ⟨e', A', N', m', L', p', c', q', hs', hb3, hN', hpl', hcase⟩
  obtain ⟨d1, d2, d3, dp⟩ := St.det HS.out hs'
  injection d1 with d1 d4
  subst d1 d4 d2 d3
  obtain ⟨qe, qA, qN, qm, qL, tc, tq, rfl, hptq, hNq, hplq, htw⟩ : ∃ (qe : Int) (qA : Option Addr) (qN qm : Nat) (qL : List Stp) (tc tq : Int), en = .returned (.tuple #[pragg qe qA qN qm, .agg (fc tc tq)]) ∧ Pts w3 (fun k => w2.heap.size ≤ k) qA qN qL ∧ qN ≤ 64 ∧ plen 1000000 qL ∧
      ((c = 0 ∧ p < n ∧ (qe, qL) = prj0 ∧ tc = 9 ∧ tq = p) ∨ (¬ (c = 0 ∧ p < n) ∧ (qe, qL) = (e, L) ∧ tc = c ∧ tq = q)) := by
    rcases hcase with ⟨h1, h2, h3⟩ | ⟨h1, h2, h3⟩
    · rw [← dp h1] at h2 h3
      exact ⟨0, none, 0, 0, [], 9, p, h3, ⟨rfl, Sq.nil _ _ _ _⟩, by omega, plen_nil _, .inl ⟨h1, h2, rfl, rfl, rfl⟩⟩
    · refine ⟨e, A', N', m', L, c, q, h2, h3, hN', HPL.out, .inr ⟨fun h => h1 ⟨h.1, by rw [← dp h.1]; exact h.2⟩, rfl, rfl, rfl⟩⟩
  have HPQ := Lib.hid hplq
  have HTW := Lib.hid htw
  have h6 := (Blk.new w3 (prc qe qA qN qm) 25).alloc (.cells (fc tc tq) 40)
  have h7 := Blk.new (w3.alloc (.cells (prc qe qA qN qm) 25)) (fc tc tq) 40
  rw [show (w3.alloc (.cells (prc qe qA qN qm) 25)).heap.size = w3.heap.size + 1 by simp] at h7
  have hbx := below_two w3 (.cells (prc qe qA qN qm) 25) (.cells (fc tc tq) 40)
  replace hptq := hptq.below hbx
  replace hbx := hb3.trans (hbx.mono hb3.size)
  replace hbd := hbd.trans (hbx.mono hbd.size)
  replace h3 := h3.below hbx
  replace h5 := h5.below hbx
  replace hpt := hpt.below hbx
  clear hb3 hbx hcase hs' hplq htw hpl' dp hN'
  go_wp2_with fail
  generalize (w3.alloc (.cells (prc qe qA qN qm) 25)).alloc (.cells (fc tc tq) 40) = w4 at *
  generalize w3.heap.size = b6 at *
  -- the document's reader
  refine (rpread_any a n m z 0 0 0 w4 (HZ.out.below hbd) (Int.le_refl _) (by omega) hnm (by omega) HBY.out).mono ?_
  rintro en w5 ⟨e2, A2, N2, m2, L2, p2, c2, q2, rfl, hb5, hptw, hNm2, hnl2, hN2, hpl2, hs2⟩
  obtain ⟨d1, d2, d3, dp⟩ := St.det HS.out hs2
  injection d1 with d1 d4
  subst d1 d4 d2 d3
  have HP := Lib.hid dp
  obtain rfl : N = N2 := by rw [← hpt.1, ← hptw.1]
  have h8 := (Blk.new w5 (cvs (.slice a n m) p2 c q) 48).alloc (.cells (prc e A2 N m2) 25)
  have h9 := Blk.new (w5.alloc (.cells (cvs (.slice a n m) p2 c q) 48)) (prc e A2 N m2) 25
  rw [show (w5.alloc (.cells (cvs (.slice a n m) p2 c q) 48)).heap.size = w5.heap.size + 1 by simp] at h9
  have hbx := below_two w5 (.cells (cvs (.slice a n m) p2 c q) 48) (.cells (prc e A2 N m2) 25)
  replace hptw := hptw.below hbx
  replace hbx := hb5.trans (hbx.mono hb5.size)
  replace hbd := hbd.trans (hbx.mono hbd.size)
  replace h3 := h3.below hbx
  replace h5 := h5.below hbx
  replace h6 := h6.below hbx
  replace h7 := h7.below hbx
  replace hpt := hpt.below hbx
  replace hptq := hptq.below hbx
  clear hs2 dp hb5 hbx hpl2 hnl2 hNm2
  go_wp2_with fail
  generalize (w5.alloc (.cells (cvs (.slice a n m) p2 c q) 48)).alloc (.cells (prc e A2 N m2) 25) = w6 at *
  generalize w5.heap.size = b8 at *
  refine (new_some _ _ _ _ hnm).mono ?_
  rintro en w7 ⟨rb, rfl, hrb, hb7, hr⟩
  have hrw : w.heap.size ≤ rb := Nat.le_trans hbd.size hrb
  replace hbd := hbd.trans (hb7.mono hbd.size)
  have n1 := Nat.lt_of_lt_of_le h3.lt hrb
  have n2 := Nat.lt_of_lt_of_le h5.lt hrb
  have n3 := Nat.lt_of_lt_of_le h6.lt hrb
  have n4 := Nat.lt_of_lt_of_le h7.lt hrb
  have n5 := Nat.lt_of_lt_of_le h8.lt hrb
  have n6 := Nat.lt_of_lt_of_le h9.lt hrb
  replace hpt := (hpt.mono (Q := fun k => k < rb) (fun b _ hl => by omega)).below hb7
  replace hptq := (hptq.mono (Q := fun k => k < rb) (fun b _ hl => by omega)).below hb7
  replace hptw := (hptw.mono (Q := fun k => k < rb) (fun b _ hl => by omega)).below hb7
  replace h3 := h3.below hb7
  replace h5 := h5.below hb7
  replace h6 := h6.below hb7
  replace h7 := h7.below hb7
  replace h8 := h8.below hb7
  replace h9 := h9.below hb7
  clear hb7
  go_wp2_with fail
  refine (pread_any rb a n n z 0 0 0 w7 hr (HZ.out.below hbd) (Int.le_refl _) (by omega) (by omega) HBY.out).mono ?_
  rintro en w8 ⟨e3, A3, N3, m3, L3, p3, c3, q3, rfl, hk, hr8, hptx, hNm3, hnl3, hN3, hpl3, hs3⟩
  obtain ⟨d1, d2, d3, dp⟩ := St.det HS.out hs3
  injection d1 with d1 d4
  subst d1 d4 d2 d3
  obtain rfl : N = N3 := by rw [← hpt.1, ← hptx.1]
  replace hpt := hpt.keep (w' := w8) fun b hb hl => hk.block b hl (by have : b < rb := hb; omega)
  replace hptq := hptq.keep (w' := w8) fun b hb hl => hk.block b hl (by have : b < rb := hb; omega)
  replace hptw := hptw.keep (w' := w8) fun b hb hl => hk.block b hl (by have : b < rb := hb; omega)
  replace hbd := Kp.below hbd (Nat.le_refl _) hk hrw
  replace h3 := blk_kp h3 hk (by omega)
  replace h5 := blk_kp h5 hk (by omega)
  replace h6 := blk_kp h6 hk (by omega)
  replace h7 := blk_kp h7 hk (by omega)
  replace h8 := blk_kp h8 hk (by omega)
  replace h9 := blk_kp h9 hk (by omega)
  have h11 := Blk.new w8 (prc e A3 N m3) 25
  have hbx := below_one w8 (.cells (prc e A3 N m3) 25)
  replace hbd := hbd.trans (hbx.mono hbd.size)
  replace h3 := h3.below hbx
  replace h5 := h5.below hbx
  replace h6 := h6.below hbx
  replace h7 := h7.below hbx
  replace h8 := h8.below hbx
  replace h9 := h9.below hbx
  replace hr8 := hr8.below hbx
  replace hpt := hpt.below hbx
  replace hptq := hptq.below hbx
  replace hptw := hptw.below hbx
  replace hptx := hptx.below hbx
  clear hs3 dp hr hk hbx hpl3 hnl3 hNm3 n1 n2 n3 n4 n5 n6 hrw hrb
  go_upto_region 8 with (fail)
  generalize w8.alloc (.cells (prc e A3 N m3) 25) = w9 at *
  generalize w8.heap.size = b11 at *
  have L1 : ∀ w', S4 b11 (b3 + 1) (b8 + 1) b8 (prc e A3 N m3) (fc c q) (prc e A2 N m2) (cvs (.slice a n m) p2 c q) w' → (w'.cell? ⟨b11, 0, none⟩ = some (.int .u64 e) ∧ w'.cell? ⟨b11, 1, none⟩ = some (.slice A3 N m3)) ∧
      (w'.cell? ⟨b8 + 1, 0, none⟩ = some (.int .u64 e) ∧ w'.cell? ⟨b8 + 1, 1, none⟩ = some (.slice A2 N m2)) ∧ (w'.cell? ⟨b8, 2, none⟩ = some (.int .i64 c) ∧ w'.cell? ⟨b8, 3, none⟩ = some (.int .i64 q)) := fun w' h => ⟨h.1.c2, h.2.2.1.c2, h.2.2.2.c4.2.2⟩
  have hS : S4 b11 (b3 + 1) (b8 + 1) b8 (prc e A3 N m3) (fc c q) (prc e A2 N m2) (cvs (.slice a n m) p2 c q) w9.drew := ⟨h11, h5, h9, h8⟩
  have hdr : ∀ w' : World, Below w'.heap.size w' w'.drew := below_one'
  replace h3 := h3.below (hdr _)
  replace h6 := h6.below (hdr _)
  replace h7 := h7.below (hdr _)
  replace hr8 := hr8.below (hdr _)
  replace hpt := hpt.below (hdr _)
  replace hptq := hptq.below (hdr _)
  replace hptw := hptw.below (hdr _)
  replace hptx := hptx.below (hdr _)
  replace hbd := hbd.trans ((below_one' _).mono hbd.size)
  clear h11 h5 h9 h8 hdr
  refine Seq.wp_region_seq (S4 b11 (b3 + 1) (b8 + 1) b8 (prc e A3 N m3) (fc c q) (prc e A2 N m2) (cvs (.slice a n m) p2 c q)) (by kernel_rfl) (by kernel_rfl) hS ?_
  repeat (first | (refine Seq.Seq.skip (by rfl) ?_; (try simp only [Act.put, List.setIfInBounds_toArray, List.set_cons_zero, List.set_cons_succ])) | (refine Seq.Seq.det ?_ (by rfl) (fun w hS => ?_) ?_; rotate_left; ((try dsimp only at hS); go_simp; (try rw [if_pos (by omega)]); with_reducible rfl); (try simp only [Act.put, List.setIfInBounds_toArray, List.set_cons_zero, List.set_cons_succ])))
  refine Seq.Seq.make (by rfl) (by rfl) (fun K Q' hK => ?_)
  go_simp
  go_at_call 17
  refine (rprsame_any _ _ e A3 N m3 L e A2 N m2 L _ hptx hptw (by omega) (by omega) HPL.out HPL.out).mono ?_
  rintro en w10 ⟨rfl, hb10⟩
  rw [decide_eq_true rfl]
  replace h3 := h3.below hb10
  replace h6 := h6.below hb10
  replace h7 := h7.below hb10
  replace hr8 := hr8.below hb10
  replace hpt := hpt.below hb10
  replace hptq := hptq.below hb10
  replace hptw := hptw.below hb10
  replace hS := hS.below hb10
  replace hbd := hbd.trans (hb10.mono hbd.size)
  refine hK.out _ _ (hS) ?_
  clear hK K
  try simp only [Act.put, List.setIfInBounds_toArray, List.set_cons_zero, List.set_cons_succ]
  repeat (first | (refine Seq.Seq.skip (by rfl) ?_; (try simp only [Act.put, List.setIfInBounds_toArray, List.set_cons_zero, List.set_cons_succ])) | (refine Seq.Seq.det ?_ (by rfl) (fun w hS => ?_) ?_; rotate_left; ((try dsimp only at hS); go_simp; (try rw [if_pos (by omega)]); with_reducible rfl); (try simp only [Act.put, List.setIfInBounds_toArray, List.set_cons_zero, List.set_cons_succ])))
  refine Seq.Seq.make (by rfl) (by rfl) (fun K Q' hK => ?_)
  go_simp
  go_at_call 25
  refine (fault_any _ _ _ _ _ _ (by exact hr8)).mono ?_
  rintro en w11 ⟨rfl, hb11⟩
  replace h3 := h3.below hb11
  replace h6 := h6.below hb11
  replace h7 := h7.below hb11
  replace hpt := hpt.below hb11
  replace hptq := hptq.below hb11
  replace hptw := hptw.below hb11
  replace hS := hS.below hb11
  replace hbd := hbd.trans (hb11.mono hbd.size)
  refine hK.out _ _ (hS) ?_
  clear hK K
  try simp only [Act.put, List.setIfInBounds_toArray, List.set_cons_zero, List.set_cons_succ]
  clear hb11 hb10 hr8 hptx
  repeat (first | (refine Seq.Seq.skip (by rfl) ?_; (try simp only [Act.put, List.setIfInBounds_toArray, List.set_cons_zero, List.set_cons_succ])) | (refine Seq.Seq.det ?_ (by rfl) (fun w hS => ?_) ?_; rotate_left; ((try dsimp only at hS); go_simp; (try rw [if_pos (by omega)]); with_reducible rfl); (try simp only [Act.put, List.setIfInBounds_toArray, List.set_cons_zero, List.set_cons_succ])))
  refine Seq.Seq.nil ?_
  clear L1
  obtain ⟨_, h5, h9, h8⟩ := hS
  have L2 : ∀ w', S4 b3 (b3 + 1) (b8 + 1) b8 (prc e A N mm) (fc c q) (prc e A2 N m2) (cvs (.slice a n m) p2 c q) w' → (w'.cell? ⟨b3, 0, none⟩ = some (.int .u64 e) ∧ w'.cell? ⟨b3, 1, none⟩ = some (.slice A N mm)) ∧ (w'.cell? ⟨b3 + 1, 0, none⟩ = some (.int .i64 c) ∧ w'.cell? ⟨b3 + 1, 1, none⟩ = some (.int .i64 q)) ∧
      (w'.cell? ⟨b8 + 1, 0, none⟩ = some (.int .u64 e) ∧ w'.cell? ⟨b8 + 1, 1, none⟩ = some (.slice A2 N m2)) ∧ (w'.cell? ⟨b8, 1, none⟩ = some (.int .i64 p2) ∧ w'.cell? ⟨b8, 2, none⟩ = some (.int .i64 c) ∧ w'.cell? ⟨b8, 3, none⟩ = some (.int .i64 q)) := fun w' h => ⟨h.1.c2, h.2.1.c2, h.2.2.1.c2, h.2.2.2.c4.2⟩
  go_upto_region 10 with (fail)
  have hS : S4 b3 (b3 + 1) (b8 + 1) b8 (prc e A N mm) (fc c q) (prc e A2 N m2) (cvs (.slice a n m) p2 c q) w11.drew := ⟨h3, h5, h9, h8⟩
  have hdr : ∀ w' : World, Below w'.heap.size w' w'.drew := below_one'
  replace h6 := h6.below (hdr _)
  replace h7 := h7.below (hdr _)
  replace hpt := hpt.below (hdr _)
  replace hptq := hptq.below (hdr _)
  replace hptw := hptw.below (hdr _)
  replace hbd := hbd.trans ((below_one' _).mono hbd.size)
  clear h3 h5 h9 h8 hdr
  by_cases hc : c = 0
  · subst hc
    obtain ⟨j, hj, hjn, hq0, hok, hsb, hby2⟩ := prd_from HZL.out HBY.out HS.out
    have hp := HP.out rfl
    have hV := HV.out
    rw [if_pos rfl] at hV
    rw [hj] at hp hV HTW
    subst hp hV hq0
    have hjm : (j : Int) ≤ m := by omega
    have HOK := Lib.hid hok
    obtain ⟨Y, hY⟩ : ∃ Y, Y = prb (e, L) := ⟨_, rfl⟩
    have HY := Lib.hid hY
    have HYL : Hid (Y.length ≤ 47380) := Lib.hid (by rw [hY]; exact prb_len hok)
    have HZT := Lib.hid (HZ.out.take (k := j) hjn)
    rw [← hby2, ← hY] at HZT
    have he0 : 0 ≤ e := by have h1 : 1 ≤ e := (epk_bd (prok_parts hok).1).1; omega
    clear hby2 hY hok hj HP HV HS
    refine Seq.wp_region_seq (S4 b3 (b3 + 1) (b8 + 1) b8 (prc e A N mm) (fc 0 0) (prc e A2 N m2) (cvs (.slice a n m) j 0 0)) (by kernel_rfl) (by kernel_rfl) hS ?_
    repeat (first | (refine Seq.Seq.skip (by rfl) ?_; (try simp only [Act.put, List.setIfInBounds_toArray, List.set_cons_zero, List.set_cons_succ])) | (refine Seq.Seq.det ?_ (by rfl) (fun w hS => ?_) ?_; rotate_left; ((try dsimp only at hS); go_simp; (try rw [if_pos (by omega)]); with_reducible rfl); (try simp only [Act.put, List.setIfInBounds_toArray, List.set_cons_zero, List.set_cons_succ])))
    refine Seq.Seq.make (by rfl) (by rfl) (fun K Q' hK => ?_)
    go_simp
    go_at_call 17
    refine (rprsame_any _ _ e A N mm L e A2 N m2 L _ hpt hptw (by omega) (by omega) HPL.out HPL.out).mono ?_
    rintro en v1 ⟨rfl, hb10⟩
    rw [decide_eq_true rfl]
    replace h6 := h6.below hb10
    replace h7 := h7.below hb10
    replace hpt := hpt.below hb10
    replace hptq := hptq.below hb10
    replace hptw := hptw.below hb10
    replace hS := hS.below hb10
    replace hbd := hbd.trans (hb10.mono hbd.size)
    refine hK.out _ _ (hS) ?_
    clear hK K
    try simp only [Act.put, List.setIfInBounds_toArray, List.set_cons_zero, List.set_cons_succ]
    clear hb10
    repeat (first | (refine Seq.Seq.skip (by rfl) ?_; (try simp only [Act.put, List.setIfInBounds_toArray, List.set_cons_zero, List.set_cons_succ])) | (refine Seq.Seq.det ?_ (by rfl) (fun w hS => ?_) ?_; rotate_left; ((try dsimp only at hS); go_simp; (try rw [if_pos (by omega)]); with_reducible rfl); (try simp only [Act.put, List.setIfInBounds_toArray, List.set_cons_zero, List.set_cons_succ])))
    refine Seq.Seq.make (by rfl) (by rfl) (fun K Q' hK => ?_)
    go_simp
    go_at_call 15
    refine (rprright_any _ e A N mm L _ hpt (by omega) HPL.out he0).mono ?_
    rintro en v2 ⟨rfl, hb10⟩
    rw [HOK.out]
    replace h6 := h6.below hb10
    replace h7 := h7.below hb10
    replace hpt := hpt.below hb10
    replace hptq := hptq.below hb10
    replace hptw := hptw.below hb10
    replace hS := hS.below hb10
    replace hbd := hbd.trans (hb10.mono hbd.size)
    refine hK.out _ _ (hS) ?_
    clear hK K
    try simp only [Act.put, List.setIfInBounds_toArray, List.set_cons_zero, List.set_cons_succ]
    clear hb10
    repeat (first | (refine Seq.Seq.skip (by rfl) ?_; (try simp only [Act.put, List.setIfInBounds_toArray, List.set_cons_zero, List.set_cons_succ])) | (refine Seq.Seq.det ?_ (by rfl) (fun w hS => ?_) ?_; rotate_left; ((try dsimp only at hS); go_simp; (try rw [if_pos (by omega)]); with_reducible rfl); (try simp only [Act.put, List.setIfInBounds_toArray, List.set_cons_zero, List.set_cons_succ])))
    refine Seq.Seq.make (by rfl) (by rfl) (fun K Q' hK => ?_)
    go_simp
    go_at_call 21
    refine (rprbytes_any _ e A N mm L _ HOK.out hpt).mono ?_
    rintro en v3 ⟨A12, m12, rfl, hb10, hbs12, _, _, _⟩
    rw [← HY.out] at hbs12 ⊢
    replace h6 := h6.below hb10
    replace h7 := h7.below hb10
    replace hpt := hpt.below hb10
    replace hptq := hptq.below hb10
    replace hptw := hptw.below hb10
    replace hS := hS.below hb10
    replace hbd := hbd.trans (hb10.mono hbd.size)
    refine hK.out _ _ (hS) ?_
    clear hK K
    try simp only [Act.put, List.setIfInBounds_toArray, List.set_cons_zero, List.set_cons_succ]
    clear hb10
    repeat (first | (refine Seq.Seq.skip (by rfl) ?_; (try simp only [Act.put, List.setIfInBounds_toArray, List.set_cons_zero, List.set_cons_succ])) | (refine Seq.Seq.det ?_ (by rfl) (fun w hS => ?_) ?_; rotate_left; ((try dsimp only at hS); go_simp; (try rw [if_pos (by omega)]); with_reducible rfl); (try simp only [Act.put, List.setIfInBounds_toArray, List.set_cons_zero, List.set_cons_succ])))
    refine Seq.Seq.make (by rfl) (by rfl) (fun K Q' hK => ?_)
    go_simp
    go_at_call 13
    refine (same_any _ _ _ _ _ _ Y _ hbs12 (HZT.out.below hbd)).mono ?_
    rintro en w' ⟨rfl, rfl⟩
    refine hK.out _ _ (hS) ?_
    clear hK K
    try simp only [Act.put, List.setIfInBounds_toArray, List.set_cons_zero, List.set_cons_succ]
    repeat (first | (refine Seq.Seq.skip (by rfl) ?_; (try simp only [Act.put, List.setIfInBounds_toArray, List.set_cons_zero, List.set_cons_succ])) | (refine Seq.Seq.det ?_ (by rfl) (fun w hS => ?_) ?_; rotate_left; ((try dsimp only at hS); go_simp; (try rw [if_pos (by omega)]); with_reducible rfl); (try simp only [Act.put, List.setIfInBounds_toArray, List.set_cons_zero, List.set_cons_succ])))
    refine Seq.Seq.nil ?_
    clear L2 hbs12 hpt
    obtain ⟨_, _, h9, h8⟩ := hS
    obtain ⟨u0, u1, u2, u3⟩ := h8.c4
    go_wp2_with fail
    refine (rend_any _ _ _ _ _ _ _).mono ?_
    rintro en w13 ⟨c', q', rfl, hb13, hcq⟩
    replace h6 := h6.below hb13
    replace h7 := h7.below hb13
    replace h9 := h9.below hb13
    replace hptq := hptq.below hb13
    replace hptw := hptw.below hb13
    replace hbd := hbd.trans (hb13.mono hbd.size)
    clear h8 u0 u1 u2 u3 hb13
    rcases HTW.out with ⟨_, hlt, hqe, rfl, rfl⟩ | ⟨hno, hqe, rfl, rfl⟩
    · rw [if_pos ⟨by trivial, hlt⟩] at hcq
      obtain ⟨rfl, rfl⟩ := hcq
      have HQE : Hid ((qe, qL) = ((0 : Int), ([] : List Stp))) := Lib.hid hqe
      have HPW := Lib.hid (plen_nil 1000000)
      clear hqe hlt HTW
      have hbx := below_one w13 (.cells (cvs (.slice a n m) j 9 j) 48)
      have h12 := Blk.new w13 (cvs (.slice a n m) j 9 j) 48
      replace h6 := h6.below hbx
      replace h7 := h7.below hbx
      replace h9 := h9.below hbx
      replace hptq := hptq.below hbx
      replace hptw := hptw.below hbx
      replace hbd := hbd.trans (hbx.mono hbd.size)
      obtain ⟨x0, x1⟩ := h6.c2
      obtain ⟨z0, z1⟩ := h9.c2
      obtain ⟨u0, u1, u2, u3⟩ := h12.c4
      clear hbx
      go_wp2_with fail
      refine (rprsame_any _ _ qe qA qN qm qL 0 none 0 0 [] _ hptq (⟨rfl, Sq.nil _ _ (fun _ => True) _⟩) (by omega) (by omega) HPQ.out HPW.out).mono ?_
      rintro en w14 ⟨rfl, hb14⟩
      rw [decide_eq_true HQE.out]
      replace h7 := h7.below hb14
      replace h12 := h12.below hb14
      replace hbd := hbd.trans (hb14.mono hbd.size)
      clear hb14 x0 x1 z0 z1 u0 u1 u2 u3 h6 h9 hptq hptw
      obtain ⟨y0, y1⟩ := h7.c2
      obtain ⟨u0, u1, u2, u3⟩ := h12.c4
      clear h7 h12
      go_wp2_with fail
      refine (live20_any _).mono ?_
      rintro en wl ⟨rfl, hbl⟩
      replace hbd := hbd.trans (hbl.mono hbd.size)
      go_wp2
      go_ret
      exact ⟨rfl, hbd⟩
    · rw [if_neg (fun h => hno ⟨by trivial, h.2⟩)] at hcq
      obtain ⟨rfl, rfl⟩ := hcq
      have HQE := Lib.hid hqe
      have HPW := HPL
      clear hqe hno HTW
      have hbx := below_one w13 (.cells (cvs (.slice a n m) j 0 0) 48)
      have h12 := Blk.new w13 (cvs (.slice a n m) j 0 0) 48
      replace h6 := h6.below hbx
      replace h7 := h7.below hbx
      replace h9 := h9.below hbx
      replace hptq := hptq.below hbx
      replace hptw := hptw.below hbx
      replace hbd := hbd.trans (hbx.mono hbd.size)
      obtain ⟨x0, x1⟩ := h6.c2
      obtain ⟨z0, z1⟩ := h9.c2
      obtain ⟨u0, u1, u2, u3⟩ := h12.c4
      clear hbx
      go_wp2_with fail
      refine (rprsame_any _ _ qe qA qN qm qL e A2 N m2 L _ hptq hptw (by omega) (by omega) HPQ.out HPW.out).mono ?_
      rintro en w14 ⟨rfl, hb14⟩
      rw [decide_eq_true HQE.out]
      replace h7 := h7.below hb14
      replace h12 := h12.below hb14
      replace hbd := hbd.trans (hb14.mono hbd.size)
      clear hb14 x0 x1 z0 z1 u0 u1 u2 u3 h6 h9 hptq hptw
      obtain ⟨y0, y1⟩ := h7.c2
      obtain ⟨u0, u1, u2, u3⟩ := h12.c4
      clear h7 h12
      go_wp2_with fail
      refine (live20_any _).mono ?_
      rintro en wl ⟨rfl, hbl⟩
      replace hbd := hbd.trans (hbl.mono hbd.size)
      go_wp2
      go_ret
      exact ⟨rfl, hbd⟩
  · have hcb : (c == 0) = false := by simpa using hc
    have hcb2 : (c != 0) = true := by simpa using hc
    have hV := HV.out
    rw [if_neg hc] at hV
    subst hV
    have HNIL := Lib.hid (HS.out.nil hc)
    have HC := Lib.hid hc
    clear HV HS HP hc
    refine Seq.wp_region_seq (S4 b3 (b3 + 1) (b8 + 1) b8 (prc e A N mm) (fc c q) (prc e A2 N m2) (cvs (.slice a n m) p2 c q)) (by kernel_rfl) (by kernel_rfl) hS ?_
    repeat (first | (refine Seq.Seq.skip (by rfl) ?_; (try simp only [Act.put, List.setIfInBounds_toArray, List.set_cons_zero, List.set_cons_succ])) | (refine Seq.Seq.det ?_ (by rfl) (fun w hS => ?_) ?_; rotate_left; ((try dsimp only at hS); go_simp; (try rw [if_pos (by omega)]); with_reducible rfl); (try simp only [Act.put, List.setIfInBounds_toArray, List.set_cons_zero, List.set_cons_succ])))
    refine Seq.Seq.make (by rfl) (by rfl) (fun K Q' hK => ?_)
    go_simp
    go_at_call 17
    refine (rprsame_any _ _ e A N mm L e A2 N m2 L _ hpt hptw (by omega) (by omega) HPL.out HPL.out).mono ?_
    rintro en v1 ⟨rfl, hb10⟩
    rw [decide_eq_true rfl]
    replace h6 := h6.below hb10
    replace h7 := h7.below hb10
    replace hpt := hpt.below hb10
    replace hptq := hptq.below hb10
    replace hptw := hptw.below hb10
    replace hS := hS.below hb10
    replace hbd := hbd.trans (hb10.mono hbd.size)
    refine hK.out _ _ (hS) ?_
    clear hK K
    try simp only [Act.put, List.setIfInBounds_toArray, List.set_cons_zero, List.set_cons_succ]
    clear hb10
    repeat (first | (refine Seq.Seq.skip (by rfl) ?_; (try simp only [Act.put, List.setIfInBounds_toArray, List.set_cons_zero, List.set_cons_succ])) | (refine Seq.Seq.det ?_ (by rfl) (fun w hS => ?_) ?_; rotate_left; ((try dsimp only at hS); go_simp; (try rw [if_pos (by omega)]); with_reducible rfl); (try simp only [Act.put, List.setIfInBounds_toArray, List.set_cons_zero, List.set_cons_succ])))
    refine Seq.Seq.nil ?_
    clear L2 hpt
    obtain ⟨_, _, h9, h8⟩ := hS
    obtain ⟨u0, u1, u2, u3⟩ := h8.c4
    go_wp2_with fail
    refine (rend_any _ _ _ _ _ _ _).mono ?_
    rintro en w13 ⟨c', q', rfl, hb13, hcq⟩
    replace h6 := h6.below hb13
    replace h7 := h7.below hb13
    replace h9 := h9.below hb13
    replace hptq := hptq.below hb13
    replace hptw := hptw.below hb13
    replace hbd := hbd.trans (hb13.mono hbd.size)
    clear h8 u0 u1 u2 u3 hb13
    rcases HTW.out with ⟨hc0, _⟩ | ⟨hno, hqe, rfl, rfl⟩
    · exact absurd hc0 HC.out
    · rw [if_neg (fun h => HC.out h.1)] at hcq
      obtain ⟨rfl, rfl⟩ := hcq
      have HQE : Hid ((qe, qL) = ((0 : Int), ([] : List Stp))) := Lib.hid (hqe.trans HNIL.out)
      have HPW := Lib.hid (plen_nil 1000000)
      clear hqe hno HTW
      have hbx := below_one w13 (.cells (cvs (.slice a n m) p2 c' q') 48)
      have h12 := Blk.new w13 (cvs (.slice a n m) p2 c' q') 48
      replace h6 := h6.below hbx
      replace h7 := h7.below hbx
      replace h9 := h9.below hbx
      replace hptq := hptq.below hbx
      replace hptw := hptw.below hbx
      replace hbd := hbd.trans (hbx.mono hbd.size)
      obtain ⟨x0, x1⟩ := h6.c2
      obtain ⟨z0, z1⟩ := h9.c2
      obtain ⟨u0, u1, u2, u3⟩ := h12.c4
      clear hbx
      go_wp2_with fail
      refine (rprsame_any _ _ qe qA qN qm qL 0 none 0 0 [] _ hptq (⟨rfl, Sq.nil _ _ (fun _ => True) _⟩) (by omega) (by omega) HPQ.out HPW.out).mono ?_
      rintro en w14 ⟨rfl, hb14⟩
      rw [decide_eq_true HQE.out]
      replace h7 := h7.below hb14
      replace h12 := h12.below hb14
      replace hbd := hbd.trans (hb14.mono hbd.size)
      clear hb14 x0 x1 z0 z1 u0 u1 u2 u3 h6 h9 hptq hptw
      obtain ⟨y0, y1⟩ := h7.c2
      obtain ⟨u0, u1, u2, u3⟩ := h12.c4
      clear h7 h12
      go_wp2_with fail
      refine (live20_any _).mono ?_
      rintro en wl ⟨rfl, hbl⟩
      replace hbd := hbd.trans (hbl.mono hbd.size)
      go_wp2
      go_ret
      exact ⟨rfl, hbd⟩

set_option maxRecDepth 100000 in
theorem lifted (os : Os) (started : os.Started) (H : Type) (enc : TypeId × Value → H) :
    ReturnsInHanded {} Try.checked os 4 .any (Rows.projReadsSpec.pre6 enc Try.prog Try.f4 Rows.projReadsRow.domain false) (Rows.projReadsSpec.post enc Try.prog Try.f4 false true false false) := by
  refine returnsInHanded_of_change (C := Try.checked) own started (by kernel_rfl) Try.func4
    (ChangeSpec.witness6 (enc := enc) (C := Try.checked) false ⟨#[], #[.slice none 0 0], []⟩ 8 (by kernel_rfl) (by kernel_rfl) (by kernel_rfl) (by kernel_rfl)) ?_
  intro W base args ds gs before hval0 hW hcnd _
  have hval : ∀ (j : Nat) t v, Try.f4.params[j]? = some t → args[j]? = some v → Value.okWide Try.prog W .any base t v := hval0
  have hW' := hW
  obtain ⟨p, q, hA0, hV, rfl, hfz, hnd⟩ := hW
  have hA : DataW.TrodAll enc Try.prog W 0 (fun _ => true) true Try.f4.params.toList args.toList ds p := hA0
  rw [Try.params4] at hA hval
  obtain ⟨v0, vs0, d0, ds0, p0, q0, hargs, rfl, rfl, h0, r0⟩ := trodAll_cons hA
  obtain ⟨rfl, rfl, rfl⟩ := trodAll_nil r0
  obtain rfl : args = #[v0] := by cases args; simp_all
  obtain ⟨rfl, rfl⟩ := trodVars_none hV
  have lt0 : ∀ x ∈ p0, x.block < W.heap.size := by obtain ⟨m, hm⟩ := h0; exact DataW.trod_lt m _ _ _ hm
  clear hA0 hval0
  refine (walk enc W base v0 d0 p0 (hval 0 26 v0 rfl rfl) h0).mono fun e W' ⟨he, bel⟩ => ?_
  subst he
  exact ⟨_, rfl, _, _, _, [], _, [], hW', trodAll_mk1 (shut_bool Try.underlying4 _), (trodAll_cons_mk (Below.trod laidOut (by kernel_rfl) (of_decide_eq_true (by kernel_rfl)) h0 bel lt0) trodAll_mk0), rfl, bel.frame _, fun h => by cases h⟩

theorem over : Rows.projReadsRow.holds Try.pinned (OpenSpec.ofChange Rows.projReadsSpec) :=
  OpenClaim.holds_of_wide 4 Try.f4 rfl rfl rfl rfl rfl rfl rfl ⟨rfl, rfl, rfl, rfl, rfl⟩ rfl rfl rfl rfl rfl (by kernel_rfl) Try.func4 (by kernel_rfl)
    (of_decide_eq_true (by kernel_rfl)) (by unfold Func.isWrapper; first | (rw [if_pos (by decide +kernel)]; kernel_rfl) | (rw [if_neg (by decide +kernel)]; exact ⟨rfl, rfl⟩))
    (fun os started H enc _ => lifted os started H enc)

/-- THE STATEMENT. -/
theorem proved : Rows.ProjReadsSaid := over
#print axioms proved
end Go.Proofs.Ytghlediibhnloaa.projReads
