/- TokenReads: called with any bytes, the law returns true; no condition. -/
import Derived.Test.YtppccdogfcmfjaaRows
import Derived.Test.YtppccdogfcmfjaaTokM
import Derived.Test.YtppccdogfcmfjaaTokL
import Derived.Test.YtppccdogfcmfjaaTokI
import Derived.Test.YtppccdogfcmfjaaTokJ
import Derived.Test.YtppccdogfcmfjaaTokG
import Derived.Test.YtppccdogfcmfjaaTokF
import Derived.Test.YtppccdogfcmfjaaTokE
import Derived.Test.YtppccdogfcmfjaaTokC
import Derived.Test.YtppccdogfcmfjaaK1
import Derived.Test.YtppccdogfcmfjaaSeqX
import Derived.Deep.CutRange
import Derived.Deep.QuietTactic
import Derived.BigQuiet
import Derived.ProofKit
import Derived.OpenShut
import Derived.ShutString
import Derived.ChangeOld
namespace Go.Proofs.Ytppccdogfcmfjaa.tokenReads
open Go.ChangeShapes Go.WideShapes Go.ChangeAt Go.RowKit
open Go.ChangeMaps (open_string shut_string)
set_option linter.unusedVariables false

theorem own : ownKnob Try.prog.godebug = none := by kernel_rfl
theorem laidOut : laidOutB Try.prog = true := by kernel_rfl
open Cur Mem


theorem one_cell {w : World} {g : Nat} {t : Tk} {n c : Nat} {A : Option Addr} (h : Blk w g #[.slice A n c, .int .i64 t.2.1, .int .i64 t.2.2] 28) (hb : Bs w A n t.1) (hn : A = none → c = 0) (hl : n ≤ c) : TksL w (some ⟨g, 0, none⟩) 1 [t] :=
  ⟨rfl, fun i hi => by
    obtain rfl : i = 0 := by omega
    obtain ⟨c0, c1, c2⟩ := h.c3
    exact ⟨g, 0, A, n, c, rfl, ⟨by simpa using c0, by simpa using c1, by simpa using c2, hb⟩, hn, hl⟩⟩

theorem of_bad {n : Nat} {z : List Int} {p v p' c' q' c q : Int} (h : St 0 n (ofs z p) p 0 0 v p' c' q') (h0 : (ofs z p).2.2.1 ≠ 0) (h1 : (ofs z p).2.2.1 = c) (h2 : (ofs z p).2.2.2 = q) : v = 0 ∧ c = c' ∧ q = q' := by
  by_cases hc : c' = 0
  · subst hc
    exact absurd h.good.2.1 h0
  · obtain ⟨a, b, d⟩ := h.flt hc
    exact ⟨h.nil hc, by rw [b, h1], by rw [d, h2]⟩
theorem tr_hd_bad {n : Nat} {z : List Int} {u : Bool × Int} {p1 c1 q1 : Int} (hh : St (false, 0) n (hd z 0) 0 0 0 u p1 c1 q1) (hc : c1 ≠ 0) : c1 = (tr z 0).2.2.1 ∧ q1 = (tr z 0).2.2.2 := by
  obtain ⟨a, b, d⟩ := hh.flt hc
  unfold tr
  rw [Rs.bind_bad a]
  exact ⟨b, d⟩
theorem tr_of_bad {n : Nat} {z : List Int} {k p1 q1 : Int} (hby : ∀ x ∈ z, 0 ≤ x ∧ x < 256) (h : (tr z 0).2.2.1 ≠ 0) (hh : St (false, 0) n (hd z 0) 0 0 0 (true, k) p1 0 q1) : (ofs z p1).2.2.1 ≠ 0 ∧ (ofs z p1).2.2.1 = (tr z 0).2.2.1 ∧ (ofs z p1).2.2.2 = (tr z 0).2.2.2 := by
  obtain ⟨_, g1, hv, hp, _⟩ := hh.good
  have ht := tr_hd g1
  rw [← hv, ← hp, trb_cpy] at ht
  by_cases e : (ofs z p1).2.2.1 = 0
  · obtain ⟨_, _, e2⟩ := ofs_ok e
    rw [ht, Rs.bind_of e2] at h
    exact absurd rfl h
  · rw [ht, Rs.bind_bad e]
    exact ⟨e, rfl, rfl⟩
theorem of_ok {n : Nat} {z : List Int} {p v p' c' q' o : Int} (h : St 0 n (ofs z p) p 0 0 v p' c' q') (h0 : (ofs z p).2.2.1 = 0) (h1 : (ofs z p).1 = o) : v = o ∧ c' = 0 ∧ q' = 0 := by
  by_cases hc : c' = 0
  · subst hc
    obtain ⟨_, _, gv, _, gq⟩ := h.good
    exact ⟨by rw [gv, h1], rfl, gq⟩
  · exact absurd h0 (h.flt hc).1
theorem tr_hd_ok {n : Nat} {z : List Int} {t : Tk} {p' q' : Int} {cp : Bool} {k p1 c1 q1 : Int} (hby : ∀ x ∈ z, 0 ≤ x ∧ x < 256) (hz : (0 : Int) ≤ z.length) (h : St tk0 n (tr z 0) 0 0 0 t p' 0 q') (hh : St (false, 0) n (hd z 0) 0 0 0 (cp, k) p1 c1 q1) :
    (tr z 0).2.2.1 = 0 ∧ c1 = 0 ∧ (q1 = 0 ∧ (cp = true → (ofs z p1).2.2.1 = 0 ∧ (ofs z p1).1 = t.2.1) ∧ tsz t.1.length t.2.1 t.2.2 = k ∧ tcpy t.1.length t.2.1 t.2.2 = cp) := by
  obtain ⟨_, g0, gv, gp, gq⟩ := h.good
  obtain ⟨g1, g2⟩ := Rs.bind_ok (show ((hd z 0).bind tk0 (trb z)).2.2.1 = 0 from g0)
  have hc1 : c1 = 0 := by
    by_cases e : c1 = 0
    · exact e
    · exact absurd g1 (hh.flt e).1
  subst hc1
  obtain ⟨_, _, hv, hp, hq⟩ := hh.good
  obtain ⟨r1, r2⟩ := hd_rng hby g1
  obtain ⟨l1, l2⟩ := hd_pl hby (Int.le_refl _) hz g1
  have ht := tr_hd g1
  rw [← hv, ← hp] at ht
  rw [← hv] at r1 r2
  rw [← hp] at l1 l2
  simp only at r1 r2
  rw [ht] at g0 gv
  obtain ⟨_, _, _, t4, _, _⟩ := tr_once hby (Int.le_refl _) hz (by rw [ht]; exact g0)
  rw [ht, ← gv] at t4
  have hl := trb_len (by omega) l2 (by omega) g0
  rw [← gv] at hl
  refine ⟨by rw [ht]; exact g0, rfl, hq, ?_⟩
  cases cp
  · rw [trb_run] at g0 gv
    obtain ⟨q1, q2⟩ := Rs.bind_ok g0
    rw [q2] at gv
    have e1 : t.2.1 = 0 := by rw [gv]
    have e2 : t.2.2 = 0 := by rw [gv]
    rw [e2] at hl
    unfold tright at t4
    rw [e1, e2] at t4 ⊢
    have h3 : tcpy t.1.length 0 0 = false := by unfold tcpy; rw [decide_eq_false_iff_not]; omega
    rw [h3, Bool.or_false] at t4
    refine ⟨fun h => absurd h (by decide), ?_, h3⟩
    rw [tsz_run t4]
    simp at hl
    exact hl
  · rw [trb_cpy] at g0 gv
    obtain ⟨q1, q2⟩ := Rs.bind_ok g0
    rw [q2] at gv
    have e0 : t.1 = [] := by rw [gv]
    have e1 : t.2.1 = (ofs z p1).1 := by rw [gv]
    have e2 : t.2.2 = k := by rw [gv]
    refine ⟨fun _ => ⟨q1, e1.symm⟩, ?_⟩
    unfold tright at t4
    have h3 : trun t.1.length t.2.1 t.2.2 = false := by unfold trun; rw [decide_eq_false_iff_not, e0, e2]; simp
    rw [h3, Bool.false_or] at t4
    exact ⟨by rw [tsz_cpy t4, e2], t4⟩

theorem blk_two (w : World) (o : Obj) (cs : Array Value) (t : Nat) : Blk ((w.alloc o).alloc (.cells cs t)) (w.heap.size + 1) cs t := by
  have := Blk.new (w.alloc o) cs t
  rwa [show (w.alloc o).heap.size = w.heap.size + 1 by simp] at this
theorem tr_tkok {n : Nat} {z : List Int} {p : Int} {u : Tk} {p' c' q' : Int} (hby : ∀ x ∈ z, 0 ≤ x ∧ x < 256) (h1 : 0 ≤ p ∧ p ≤ z.length) (h : St tk0 n (tr z p) p 0 0 u p' c' q') : tkok u := by
  by_cases hc : c' = 0
  · subst hc
    obtain ⟨_, g0, gv, _⟩ := h.good
    obtain ⟨_, _, _, _, t5, _⟩ := tr_once hby h1.1 h1.2 g0
    rw [gv]
    exact t5
  · rw [h.nil hc]
    exact ⟨fun x hx => absurd hx (by simp [tk0]), by decide, by decide⟩

set_option maxRecDepth 100000 in
set_option maxHeartbeats 8000000 in
theorem walk {H : Type} (enc : TypeId × Value → H) (w : World) (base : Nat) (v0 : Value) (d0 : DataW H) (p0 : List MemPlace) (g0 : Value.okWide Try.prog w .any base 26 v0) (h0 : DataW.Trod enc Try.prog w 0 (fun _ => true) true 26 v0 d0 p0) :
    Calls Try.prog 4 #[v0] w fun e w' => e = .returned (.bool true) ∧ Below w.heap.size w w' := by
  obtain ⟨a, n, m, z, rfl, hnm, hz, hby, hnil⟩ := open_bytes g0 h0
  clear g0 h0
  have hbd := Below.refl w.heap.size w
  by_cases hn : 500 < (n : Int)
  · go_enter Try.func4, Try.ntmps4
    go_wp2_with fail
    refine (live11_any _).mono ?_
    rintro e w15 ⟨rfl, hb15⟩
    go_wp2
    go_ret
    exact ⟨rfl, hbd.trans (hb15.mono hbd.size)⟩
  have HBY := Lib.hid hby
  have HNIL := Lib.hid hnil
  clear hby hnil
  go_enter Try.func4, Try.ntmps4
  go_wp2_with fail
  refine (tget_any _ _ _ _ _ hz hnm (by omega) HBY.out).mono ?_
  rintro e w1 ⟨v1, T, c, q, rfl, ho1, hb1, hv1⟩
  obtain ⟨A1, k1, rfl⟩ := ho1.slice
  have hX1 := Blk.new w1 #[.int .i64 c, .int .i64 q] 42
  have hbX := below_one w1 (.cells #[.int .i64 c, .int .i64 q] 42)
  replace hbd := hb1.trans (hbX.mono hb1.size)
  replace ho1 := ho1.below hbX
  clear hb1 hbX
  go_wp2_with fail
  refine (rtget_any _ _ _ _ _ (hz.below hbd) HNIL.out hnm (by omega) HBY.out).mono ?_
  rintro e w2 ⟨v2, T2, c2, q2, rfl, ho2, hb2, hv2⟩
  rw [← hv1] at hv2
  injection hv2 with e1 e2
  injection e2 with e2 e3
  subst e1 e2 e3
  obtain ⟨A2, k2, rfl⟩ := ho2.slice
  have hX2 := Blk.new w2 #[.int .i64 c2, .int .i64 q2] 42
  have hbX := below_one w2 (.cells #[.int .i64 c2, .int .i64 q2] 42)
  replace hX1 := (hX1.below hb2).below hbX
  replace ho1 := (ho1.below hb2).below hbX
  replace ho2 := ho2.below hbX
  replace hbd := hbd.trans (hb2.mono hbd.size)
  replace hbd := hbd.trans (hbX.mono hbd.size)
  clear hb2 hbX
  have hok : ∀ t ∈ T2, tkok t := by
    by_cases hc : c2 = 0
    · subst hc; exact fun t ht => ((tgv_once HBY.out hv1).1 t ht).2
    · rw [tgv_nil hv1 hc]; exact fun t ht => absurd ht (by simp)
  have HOK := Lib.hid hok
  have HTL : Hid (T2.length ≤ 1000000) := Lib.hid (by
    by_cases hc : c2 = 0
    · subst hc
      have := tcat_len T2
      rw [(tgv_once HBY.out hv1).2, hz.1] at this
      omega
    · rw [tgv_nil hv1 hc]; simp)
  clear hok hv1
  go_wp2_with fail
  have hX1l := hX1.lt
  have hX2l := hX2.lt
  refine (new_some _ _ _ _ hnm).mono ?_
  rintro e w3 ⟨rb, rfl, hrb, hb3, hr⟩
  have hrw : w.heap.size ≤ rb := Nat.le_trans hbd.size hrb
  replace hX1 := hX1.below hb3
  replace hX2 := hX2.below hb3
  replace ho1 := ho1.below hb3
  replace ho2 := ho2.below hb3
  replace hbd := hbd.trans (hb3.mono hbd.size)
  clear hb3
  have hz3 := hz.below hbd
  go_wp2_with fail
  refine (tread_any _ _ _ _ _ _ _ _ _ hr hz3 (by omega) (by omega) (Nat.le_refl _) (by omega) HBY.out).mono ?_
  rintro e w4 ⟨vt, t, p', c', q', rfl, hot, hk4, hr4, hs4⟩
  have HS4 := Lib.hid hs4
  obtain ⟨At, kt, rfl, hlt, hnt, hkt⟩ := hot.parts
  have hne1 : w1.heap.size ≠ rb := by omega
  have hne2 : w2.heap.size ≠ rb := by omega
  replace hX1 := blk_kp hX1 hk4 hne1
  replace hX2 := blk_kp hX2 hk4 hne2
  obtain ⟨_, _, _, hT1⟩ := (ho1.kp_blk hr (by decide) (.inl (by decide)) hk4).tks
  obtain ⟨_, _, _, hT2⟩ := (ho2.kp_blk hr (by decide) (.inl (by decide)) hk4).tks
  replace hbd := Kp.below hbd (Nat.le_refl _) hk4 hrw
  have hXt := Blk.new w4 #[.slice At t.1.length kt, .int .i64 t.2.1, .int .i64 t.2.2] 28
  have hbX := below_one w4 (.cells #[.slice At t.1.length kt, .int .i64 t.2.1, .int .i64 t.2.2] 28)
  replace hX1 := hX1.below hbX
  replace hX2 := hX2.below hbX
  replace hT1 := hT1.below hbX
  replace hT2 := hT2.below hbX
  replace hlt := hlt.below hbX
  replace hr4 := hr4.below hbX
  replace hbd := hbd.trans (hbX.mono hbd.size)
  clear hbX hk4 hot ho1 ho2 hr hs4 hz3
  have hz5 := hz.below hbd
  go_wp2_with fail
  refine (rtread_any _ _ _ _ _ _ _ _ hz5 HNIL.out (by omega) (by omega) hnm (by omega) HBY.out).mono ?_
  rintro e w6 ⟨vu, u, p6, c6, q6, rfl, hou, hb6, hs6⟩
  obtain ⟨h1, h2, h3, h4⟩ := HS4.out.det hs6
  subst h1 h2 h3
  have HP := Lib.hid h4
  obtain ⟨Au, ku, rfl, hlu, hnu, hku⟩ := hou.parts
  have hb8 := below_two w6 (.cells (cvs (.slice a n m) p6 c' q') 49) (.cells #[.slice Au t.1.length ku, .int .i64 t.2.1, .int .i64 t.2.2] 28)
  have hC := (Blk.new w6 (cvs (.slice a n m) p6 c' q') 49).alloc (.cells #[.slice Au t.1.length ku, .int .i64 t.2.1, .int .i64 t.2.2] 28)
  have hU := Blk.new (w6.alloc (.cells (cvs (.slice a n m) p6 c' q') 49)) #[.slice Au t.1.length ku, .int .i64 t.2.1, .int .i64 t.2.2] 28
  rw [show (w6.alloc (.cells (cvs (.slice a n m) p6 c' q') 49)).heap.size = w6.heap.size + 1 by simp] at hU
  replace hX1 := (hX1.below hb6).below hb8
  replace hX2 := (hX2.below hb6).below hb8
  replace hT1 := (hT1.below hb6).below hb8
  replace hT2 := (hT2.below hb6).below hb8
  replace hlt := (hlt.below hb6).below hb8
  replace hr4 := (hr4.below hb6).below hb8
  replace hXt := (hXt.below hb6).below hb8
  replace hlu := hlu.below hb8
  replace hbd := hbd.trans (hb6.mono hbd.size)
  replace hbd := hbd.trans (hb8.mono hbd.size)
  clear hb6 hb8 hou hs6
  go_upto_region 8 with (fail)
  generalize (w6.alloc (.cells (cvs (.slice a n m) p6 c' q') 49)).alloc (.cells #[.slice Au t.1.length ku, .int .i64 t.2.1, .int .i64 t.2.2] 28) = w8 at *
  have L1 : ∀ w', Below w8.heap.size w8 w' → w'.cell? ⟨w1.heap.size, 0, none⟩ = some (.int .i64 c2) ∧ w'.cell? ⟨w1.heap.size, 1, none⟩ = some (.int .i64 q2) := fun w' h => (hX1.below h).c2
  have L2 : ∀ w', Below w8.heap.size w8 w' → w'.cell? ⟨w2.heap.size, 0, none⟩ = some (.int .i64 c2) ∧ w'.cell? ⟨w2.heap.size, 1, none⟩ = some (.int .i64 q2) := fun w' h => (hX2.below h).c2
  have L3 : ∀ w', Below w8.heap.size w8 w' → w'.cell? ⟨w4.heap.size, 0, none⟩ = some (.slice At t.1.length kt) ∧ w'.cell? ⟨w4.heap.size, 1, none⟩ = some (.int .i64 t.2.1) ∧ w'.cell? ⟨w4.heap.size, 2, none⟩ = some (.int .i64 t.2.2) := fun w' h => (hXt.below h).c3
  have L4 : ∀ w', Below w8.heap.size w8 w' → w'.cell? ⟨w6.heap.size + 1, 0, none⟩ = some (.slice Au t.1.length ku) ∧ w'.cell? ⟨w6.heap.size + 1, 1, none⟩ = some (.int .i64 t.2.1) ∧ w'.cell? ⟨w6.heap.size + 1, 2, none⟩ = some (.int .i64 t.2.2) := fun w' h => (hU.below h).c3
  have L5 : ∀ w', Below w8.heap.size w8 w' → w'.cell? ⟨w6.heap.size, 1, none⟩ = some (.int .i64 p6) ∧ w'.cell? ⟨w6.heap.size, 2, none⟩ = some (.int .i64 c') ∧ w'.cell? ⟨w6.heap.size, 3, none⟩ = some (.int .i64 q') := fun w' h => (hC.below h).c4.2
  have M1 := Lib.hid (fun w' (h : Below w8.heap.size w8 w') => hT1.below h)
  have M2 := Lib.hid (fun w' (h : Below w8.heap.size w8 w') => hT2.below h)
  have M3 := Lib.hid (fun w' (h : Below w8.heap.size w8 w') => hlt.below h)
  have M4 := Lib.hid (fun w' (h : Below w8.heap.size w8 w') => hlu.below h)
  have M5 := Lib.hid (fun w' (h : Below w8.heap.size w8 w') => hr4.below h)
  have HOT : Hid (∀ x ∈ [t], tkok x) := Lib.hid (fun x hx => by
    rw [List.mem_singleton] at hx
    subst hx
    exact tr_tkok HBY.out (by omega) HS4.out)
  have R1 : Hid (∀ w9, Below w8.heap.size w8 w9 → Calls Try.prog 21 #[.slice (some ⟨w9.heap.size, 0, none⟩) 1 1, .slice (some ⟨w9.heap.size + 1, 0, none⟩) 1 1] ((w9.alloc (.cells #[.slice At t.1.length kt, .int .i64 t.2.1, .int .i64 t.2.2] 28)).alloc (.cells #[.slice Au t.1.length ku, .int .i64 t.2.1, .int .i64 t.2.2] 28)) (fun e w' => e = .returned (.bool true) ∧ Below w8.heap.size w8 w')) := Lib.hid (fun w9 h9 => by
    have hb := h9.trans ((below_two w9 (.cells #[.slice At t.1.length kt, .int .i64 t.2.1, .int .i64 t.2.2] 28) (.cells #[.slice Au t.1.length ku, .int .i64 t.2.1, .int .i64 t.2.2] 28)).mono h9.size)
    refine (rtsame_any _ _ 1 1 1 1 [t] [t] _ (by omega) (one_cell (Blk.alloc (Blk.new _ _ _) _) (M3.out _ hb) hnt hkt) (one_cell (blk_two _ _ _ _) (M4.out _ hb) hnu hku) HOT.out HOT.out).mono ?_
    rintro e w10 ⟨rfl, hb10⟩
    exact ⟨by rw [decide_eq_true rfl], hb.trans (hb10.mono hb.size)⟩)
  have R2 : Hid (∀ w9, Below w8.heap.size w8 w9 → Calls Try.prog 21 #[.slice (some ⟨w9.heap.size + 1, 0, none⟩) 1 1, .slice (some ⟨w9.heap.size, 0, none⟩) 1 1] ((w9.alloc (.cells #[.slice Au t.1.length ku, .int .i64 t.2.1, .int .i64 t.2.2] 28)).alloc (.cells #[.slice At t.1.length kt, .int .i64 t.2.1, .int .i64 t.2.2] 28)) (fun e w' => e = .returned (.bool true) ∧ Below w8.heap.size w8 w')) := Lib.hid (fun w9 h9 => by
    have hb := h9.trans ((below_two w9 (.cells #[.slice Au t.1.length ku, .int .i64 t.2.1, .int .i64 t.2.2] 28) (.cells #[.slice At t.1.length kt, .int .i64 t.2.1, .int .i64 t.2.2] 28)).mono h9.size)
    refine (rtsame_any _ _ 1 1 1 1 [t] [t] _ (by omega) (one_cell (blk_two _ _ _ _) (M3.out _ hb) hnt hkt) (one_cell (Blk.alloc (Blk.new _ _ _) _) (M4.out _ hb) hnu hku) HOT.out HOT.out).mono ?_
    rintro e w10 ⟨rfl, hb10⟩
    exact ⟨by rw [decide_eq_true rfl], hb.trans (hb10.mono hb.size)⟩)
  clear hX1 hX2 hXt hU hC hT1 hT2 hlt hlu hr4
  have e0 : (c2 != c2) = false := by simp
  have e1 : (q2 != q2) = false := by simp
  have e2 : (c' != c') = false := by simp
  have e3 : (q' != q') = false := by simp
  go_cut [74] from 38 to 74 (fun v74 wx => v74 = .bool false ∧ Below w8.heap.size w8 wx)
  case first =>
    have hS : Below w8.heap.size w8 w8.drew := below_one' w8
    refine Seq.wp_region_pair (fun o => o.dst == some 49) 11 13 (fun w' => Below w8.heap.size w8 w') (by kernel_rfl) (by kernel_rfl) hS ?_
    repeat (first | (refine Seq.SeqX.skip (by rfl) (by rfl) ?_; (try simp only [Act.put, List.setIfInBounds_toArray, List.set_cons_zero, List.set_cons_succ])) | (refine Seq.SeqX.det ?_ (by rfl) (by rfl) (fun w hS => ?_) ?_; rotate_left; ((try dsimp only at hS); go_simp; (try rw [if_pos (by omega)]); with_reducible rfl); (try simp only [Act.put, List.setIfInBounds_toArray, List.set_cons_zero, List.set_cons_succ])))
    refine Seq.SeqX.make (by rfl) (by rfl) (by rfl) (fun K Q' hK => ?_)
    go_simp
    go_at_call 21
    with_reducible refine (rtsame_any A1 A2 T2.length T2.length k1 k2 T2 T2 _ HTL.out (M1.out _ hS) (M2.out _ hS) HOK.out HOK.out).mono ?_
    rintro e w9 ⟨rfl, hb9⟩
    rw [decide_eq_true rfl]
    replace hS := hS.trans (hb9.mono hS.size)
    clear hb9
    refine hK.out _ _ (hS) ?_
    clear hK K
    try simp only [Act.put, List.setIfInBounds_toArray, List.set_cons_zero, List.set_cons_succ]
    repeat (first | (refine Seq.SeqX.skip (by rfl) (by rfl) ?_; (try simp only [Act.put, List.setIfInBounds_toArray, List.set_cons_zero, List.set_cons_succ])) | (refine Seq.SeqX.det ?_ (by rfl) (by rfl) (fun w hS => ?_) ?_; rotate_left; ((try dsimp only at hS); go_simp; (try rw [if_pos (by omega)]); with_reducible rfl); (try simp only [Act.put, List.setIfInBounds_toArray, List.set_cons_zero, List.set_cons_succ])))
    refine Seq.SeqX.pair (by rfl) (by rfl) (by rfl) (fun K Q' hK => ?_) ?_
    · go_simp
      have hS0 := hS
      replace hS := hS.alloc hS.size (.cells #[.slice At t.1.length kt, .int .i64 t.2.1, .int .i64 t.2.2] 28)
      refine hK.out _ _ (hS) ?_
      clear hK K
      try simp only [Act.put, List.setIfInBounds_toArray, List.set_cons_zero, List.set_cons_succ]
      repeat (first | (refine Seq.Seq.skip (by rfl) ?_; (try simp only [Act.put, List.setIfInBounds_toArray, List.set_cons_zero, List.set_cons_succ])) | (refine Seq.Seq.det ?_ (by rfl) (fun w hS => ?_) ?_; rotate_left; ((try dsimp only at hS); go_simp; (try rw [if_pos (by omega)]); with_reducible rfl); (try simp only [Act.put, List.setIfInBounds_toArray, List.set_cons_zero, List.set_cons_succ])))
      refine Seq.Seq.make (by rfl) (by rfl) (fun K Q' hK => ?_)
      go_simp
      have hS1 := hS0
      have hS0 := hS
      replace hS := hS.alloc hS.size (.cells #[.slice Au t.1.length ku, .int .i64 t.2.1, .int .i64 t.2.2] 28)
      refine hK.out _ _ (hS) ?_
      clear hK K
      try simp only [Act.put, List.setIfInBounds_toArray, List.set_cons_zero, List.set_cons_succ]
      replace hS0 := hS1
      clear hS1
      repeat (first | (refine Seq.Seq.skip (by rfl) ?_; (try simp only [Act.put, List.setIfInBounds_toArray, List.set_cons_zero, List.set_cons_succ])) | (refine Seq.Seq.det ?_ (by rfl) (fun w hS => ?_) ?_; rotate_left; ((try dsimp only at hS); go_simp; (try rw [if_pos (by omega)]); with_reducible rfl); (try simp only [Act.put, List.setIfInBounds_toArray, List.set_cons_zero, List.set_cons_succ])))
      refine Seq.Seq.make (by rfl) (by rfl) (fun K Q' hK => ?_)
      go_simp
      go_at_call 21
      with_reducible refine (R1.out _ hS0).mono ?_
      rintro e w11 ⟨rfl, hS⟩
      refine hK.out _ _ (hS) ?_
      clear hK K
      try simp only [Act.put, List.setIfInBounds_toArray, List.set_cons_zero, List.set_cons_succ]
      clear hS0
      by_cases hc : c' = 0
      · have hcb : (c' == 0) = true := by simpa using hc
        have hpe : p' = p6 := HP.out hc
        subst hpe
        have e4 : (p' != p') = false := by simp
        clear hc
        repeat (first | (refine Seq.Seq.skip (by rfl) ?_; (try simp only [Act.put, List.setIfInBounds_toArray, List.set_cons_zero, List.set_cons_succ])) | (refine Seq.Seq.det ?_ (by rfl) (fun w hS => ?_) ?_; rotate_left; ((try dsimp only at hS); go_simp; (try rw [if_pos (by omega)]); with_reducible rfl); (try simp only [Act.put, List.setIfInBounds_toArray, List.set_cons_zero, List.set_cons_succ])))
        refine Seq.Seq.make (by rfl) (by rfl) (fun K Q' hK => ?_)
        go_simp
        go_at_call 27
        refine (fault_any _ _ _ _ _ _ (M5.out _ hS)).mono ?_
        rintro e w12 ⟨rfl, hb12⟩
        replace hS := hS.trans (hb12.mono hS.size)
        clear hb12
        refine hK.out _ _ (hS) ?_
        clear hK K
        try simp only [Act.put, List.setIfInBounds_toArray, List.set_cons_zero, List.set_cons_succ]
        repeat (first | (refine Seq.Seq.skip (by rfl) ?_; (try simp only [Act.put, List.setIfInBounds_toArray, List.set_cons_zero, List.set_cons_succ])) | (refine Seq.Seq.det ?_ (by rfl) (fun w hS => ?_) ?_; rotate_left; ((try dsimp only at hS); go_simp; (try rw [if_pos (by omega)]); with_reducible rfl); (try simp only [Act.put, List.setIfInBounds_toArray, List.set_cons_zero, List.set_cons_succ])))
        refine Seq.Seq.make (by rfl) (by rfl) (fun K Q' hK => ?_)
        go_simp
        go_at_call 28
        refine (at_any _ _ _ _ _ _ (M5.out _ hS)).mono ?_
        rintro e w13 ⟨rfl, rfl⟩
        refine hK.out _ _ (hS) ?_
        clear hK K
        try simp only [Act.put, List.setIfInBounds_toArray, List.set_cons_zero, List.set_cons_succ]
        repeat (first | (refine Seq.Seq.skip (by rfl) ?_; (try simp only [Act.put, List.setIfInBounds_toArray, List.set_cons_zero, List.set_cons_succ])) | (refine Seq.Seq.det ?_ (by rfl) (fun w hS => ?_) ?_; rotate_left; ((try dsimp only at hS); go_simp; (try rw [if_pos (by omega)]); with_reducible rfl); (try simp only [Act.put, List.setIfInBounds_toArray, List.set_cons_zero, List.set_cons_succ])))
        refine Seq.Seq.nil ?_
        go_wp2
        go_meet
        exact ⟨rfl, hS⟩
      · have hcb : (c' == 0) = false := by simpa using hc
        clear hc
        repeat (first | (refine Seq.Seq.skip (by rfl) ?_; (try simp only [Act.put, List.setIfInBounds_toArray, List.set_cons_zero, List.set_cons_succ])) | (refine Seq.Seq.det ?_ (by rfl) (fun w hS => ?_) ?_; rotate_left; ((try dsimp only at hS); go_simp; (try rw [if_pos (by omega)]); with_reducible rfl); (try simp only [Act.put, List.setIfInBounds_toArray, List.set_cons_zero, List.set_cons_succ])))
        refine Seq.Seq.make (by rfl) (by rfl) (fun K Q' hK => ?_)
        go_simp
        go_at_call 27
        refine (fault_any _ _ _ _ _ _ (M5.out _ hS)).mono ?_
        rintro e w12 ⟨rfl, hb12⟩
        replace hS := hS.trans (hb12.mono hS.size)
        clear hb12
        refine hK.out _ _ (hS) ?_
        clear hK K
        try simp only [Act.put, List.setIfInBounds_toArray, List.set_cons_zero, List.set_cons_succ]
        repeat (first | (refine Seq.Seq.skip (by rfl) ?_; (try simp only [Act.put, List.setIfInBounds_toArray, List.set_cons_zero, List.set_cons_succ])) | (refine Seq.Seq.det ?_ (by rfl) (fun w hS => ?_) ?_; rotate_left; ((try dsimp only at hS); go_simp; (try rw [if_pos (by omega)]); with_reducible rfl); (try simp only [Act.put, List.setIfInBounds_toArray, List.set_cons_zero, List.set_cons_succ])))
        refine Seq.Seq.nil ?_
        go_wp2
        go_meet
        exact ⟨rfl, hS⟩
    · simp only [Seq.swp, Seq.making, Bool.false_eq_true, if_false, if_true, reduceIte]
      repeat (first | (refine Seq.Seq.skip (by rfl) ?_; (try simp only [Act.put, List.setIfInBounds_toArray, List.set_cons_zero, List.set_cons_succ])) | (refine Seq.Seq.det ?_ (by rfl) (fun w hS => ?_) ?_; rotate_left; ((try dsimp only at hS); go_simp; (try rw [if_pos (by omega)]); with_reducible rfl); (try simp only [Act.put, List.setIfInBounds_toArray, List.set_cons_zero, List.set_cons_succ])))
      refine Seq.Seq.make (by rfl) (by rfl) (fun K Q' hK => ?_)
      go_simp
      have hS0 := hS
      replace hS := hS.alloc hS.size (.cells #[.slice Au t.1.length ku, .int .i64 t.2.1, .int .i64 t.2.2] 28)
      refine hK.out _ _ (hS) ?_
      clear hK K
      try simp only [Act.put, List.setIfInBounds_toArray, List.set_cons_zero, List.set_cons_succ]
      repeat (first | (refine Seq.Seq.skip (by rfl) ?_; (try simp only [Act.put, List.setIfInBounds_toArray, List.set_cons_zero, List.set_cons_succ])) | (refine Seq.Seq.det ?_ (by rfl) (fun w hS => ?_) ?_; rotate_left; ((try dsimp only at hS); go_simp; (try rw [if_pos (by omega)]); with_reducible rfl); (try simp only [Act.put, List.setIfInBounds_toArray, List.set_cons_zero, List.set_cons_succ])))
      refine Seq.Seq.make (by rfl) (by rfl) (fun K Q' hK => ?_)
      go_simp
      have hS1 := hS0
      have hS0 := hS
      replace hS := hS.alloc hS.size (.cells #[.slice At t.1.length kt, .int .i64 t.2.1, .int .i64 t.2.2] 28)
      refine hK.out _ _ (hS) ?_
      clear hK K
      try simp only [Act.put, List.setIfInBounds_toArray, List.set_cons_zero, List.set_cons_succ]
      replace hS0 := hS1
      clear hS1
      repeat (first | (refine Seq.Seq.skip (by rfl) ?_; (try simp only [Act.put, List.setIfInBounds_toArray, List.set_cons_zero, List.set_cons_succ])) | (refine Seq.Seq.det ?_ (by rfl) (fun w hS => ?_) ?_; rotate_left; ((try dsimp only at hS); go_simp; (try rw [if_pos (by omega)]); with_reducible rfl); (try simp only [Act.put, List.setIfInBounds_toArray, List.set_cons_zero, List.set_cons_succ])))
      refine Seq.Seq.make (by rfl) (by rfl) (fun K Q' hK => ?_)
      go_simp
      go_at_call 21
      with_reducible refine (R2.out _ hS0).mono ?_
      rintro e w11 ⟨rfl, hS⟩
      refine hK.out _ _ (hS) ?_
      clear hK K
      try simp only [Act.put, List.setIfInBounds_toArray, List.set_cons_zero, List.set_cons_succ]
      clear hS0
      by_cases hc : c' = 0
      · have hcb : (c' == 0) = true := by simpa using hc
        have hpe : p' = p6 := HP.out hc
        subst hpe
        have e4 : (p' != p') = false := by simp
        clear hc
        repeat (first | (refine Seq.Seq.skip (by rfl) ?_; (try simp only [Act.put, List.setIfInBounds_toArray, List.set_cons_zero, List.set_cons_succ])) | (refine Seq.Seq.det ?_ (by rfl) (fun w hS => ?_) ?_; rotate_left; ((try dsimp only at hS); go_simp; (try rw [if_pos (by omega)]); with_reducible rfl); (try simp only [Act.put, List.setIfInBounds_toArray, List.set_cons_zero, List.set_cons_succ])))
        refine Seq.Seq.make (by rfl) (by rfl) (fun K Q' hK => ?_)
        go_simp
        go_at_call 27
        refine (fault_any _ _ _ _ _ _ (M5.out _ hS)).mono ?_
        rintro e w12 ⟨rfl, hb12⟩
        replace hS := hS.trans (hb12.mono hS.size)
        clear hb12
        refine hK.out _ _ (hS) ?_
        clear hK K
        try simp only [Act.put, List.setIfInBounds_toArray, List.set_cons_zero, List.set_cons_succ]
        repeat (first | (refine Seq.Seq.skip (by rfl) ?_; (try simp only [Act.put, List.setIfInBounds_toArray, List.set_cons_zero, List.set_cons_succ])) | (refine Seq.Seq.det ?_ (by rfl) (fun w hS => ?_) ?_; rotate_left; ((try dsimp only at hS); go_simp; (try rw [if_pos (by omega)]); with_reducible rfl); (try simp only [Act.put, List.setIfInBounds_toArray, List.set_cons_zero, List.set_cons_succ])))
        refine Seq.Seq.make (by rfl) (by rfl) (fun K Q' hK => ?_)
        go_simp
        go_at_call 28
        refine (at_any _ _ _ _ _ _ (M5.out _ hS)).mono ?_
        rintro e w13 ⟨rfl, rfl⟩
        refine hK.out _ _ (hS) ?_
        clear hK K
        try simp only [Act.put, List.setIfInBounds_toArray, List.set_cons_zero, List.set_cons_succ]
        repeat (first | (refine Seq.Seq.skip (by rfl) ?_; (try simp only [Act.put, List.setIfInBounds_toArray, List.set_cons_zero, List.set_cons_succ])) | (refine Seq.Seq.det ?_ (by rfl) (fun w hS => ?_) ?_; rotate_left; ((try dsimp only at hS); go_simp; (try rw [if_pos (by omega)]); with_reducible rfl); (try simp only [Act.put, List.setIfInBounds_toArray, List.set_cons_zero, List.set_cons_succ])))
        refine Seq.Seq.nil ?_
        go_wp2
        go_meet
        exact ⟨rfl, hS⟩
      · have hcb : (c' == 0) = false := by simpa using hc
        clear hc
        repeat (first | (refine Seq.Seq.skip (by rfl) ?_; (try simp only [Act.put, List.setIfInBounds_toArray, List.set_cons_zero, List.set_cons_succ])) | (refine Seq.Seq.det ?_ (by rfl) (fun w hS => ?_) ?_; rotate_left; ((try dsimp only at hS); go_simp; (try rw [if_pos (by omega)]); with_reducible rfl); (try simp only [Act.put, List.setIfInBounds_toArray, List.set_cons_zero, List.set_cons_succ])))
        refine Seq.Seq.make (by rfl) (by rfl) (fun K Q' hK => ?_)
        go_simp
        go_at_call 27
        refine (fault_any _ _ _ _ _ _ (M5.out _ hS)).mono ?_
        rintro e w12 ⟨rfl, hb12⟩
        replace hS := hS.trans (hb12.mono hS.size)
        clear hb12
        refine hK.out _ _ (hS) ?_
        clear hK K
        try simp only [Act.put, List.setIfInBounds_toArray, List.set_cons_zero, List.set_cons_succ]
        repeat (first | (refine Seq.Seq.skip (by rfl) ?_; (try simp only [Act.put, List.setIfInBounds_toArray, List.set_cons_zero, List.set_cons_succ])) | (refine Seq.Seq.det ?_ (by rfl) (fun w hS => ?_) ?_; rotate_left; ((try dsimp only at hS); go_simp; (try rw [if_pos (by omega)]); with_reducible rfl); (try simp only [Act.put, List.setIfInBounds_toArray, List.set_cons_zero, List.set_cons_succ])))
        refine Seq.Seq.nil ?_
        go_wp2
        go_meet
        exact ⟨rfl, hS⟩
  case rest =>
    obtain ⟨rfl, hS⟩ := hcut
    clear R1 R2 L1 L2 L3 M1 M2 M3 M4 M5 e0 e1
    go_wp2_with fail
    refine (new_some _ _ _ _ hnm).mono ?_
    rintro e w10 ⟨sb, rfl, hsb, hb10, hrs⟩
    have hSb : w8.heap.size ≤ sb := Nat.le_trans hS.size hsb
    replace hS := hS.trans (hb10.mono hS.size)
    clear hb10 hsb
    have hz10 := hz.below (hbd.trans (hS.mono hbd.size))
    go_wp2_with fail
    refine (thead_any _ _ _ _ _ _ _ _ _ hrs hz10 (by omega) (by omega) (by omega) HBY.out).mono ?_
    rintro e w11 ⟨cp, k, p1, c1, q1, rfl, hk11, hr11, hs11⟩
    obtain ⟨p10, p11⟩ := hs11.place
    replace hS := Kp.below hS (Nat.le_refl _) hk11 hSb
    have hz11 := hz.below (hbd.trans (hS.mono hbd.size))
    have HS11 := Lib.hid hs11
    clear hs11 hk11 hrs hz10
    by_cases hc : c' = 0
    · subst hc
      obtain ⟨ht, hc1, hh⟩ := tr_hd_ok HBY.out (by omega) HS4.out HS11.out
      subst hc1
      obtain ⟨rfl, t1, t2, t3⟩ := hh
      have hcb : ((0 : Int) == 0) = true := rfl
      have T1 := Lib.hid t1
      have T2' : Hid (tsz t.1.length t.2.1 t.2.2 = k) := Lib.hid t2
      have T3 := Lib.hid t3
      clear ht t1 t2 t3 HS4 HS11 HP
      obtain ⟨x1, x2, x3⟩ := L5 _ hS
      cases cp
      · go_wp2_with fail
        refine Seq.wp_region_seq (fun w' => Below w8.heap.size w8 w') (by kernel_rfl) (by kernel_rfl) (hS.drew) ?_
        repeat (first | (refine Seq.Seq.skip (by rfl) ?_; (try simp only [Act.put, List.setIfInBounds_toArray, List.set_cons_zero, List.set_cons_succ])) | (refine Seq.Seq.det ?_ (by rfl) (fun w hS => ?_) ?_; rotate_left; ((try dsimp only at hS); go_simp; (try rw [if_pos (by omega)]); with_reducible rfl); (try simp only [Act.put, List.setIfInBounds_toArray, List.set_cons_zero, List.set_cons_succ])))
        refine Seq.Seq.nil ?_
        have hr12 := hr11.drewN 1
        replace hS := hS.drew
        replace hr12 : IsRd w11.drew sb _ _ _ _ := hr12
        generalize w11.drew = w12 at *
        clear L5
        go_wp2_with fail
        refine (rtlen_any _ _ _ _ _ _).mono ?_
        rintro e w13 ⟨rfl, hb13⟩
        rw [T2'.out]
        replace hr12 := hr12.below hb13
        replace hS := hS.trans (hb13.mono hS.size)
        clear hb13
        have e5 : (k == k) = true := by simp
        go_wp2_with fail
        refine (rcopy_any _ _ _ _ _ _).mono ?_
        rintro e w14 ⟨rfl, hb14⟩
        rw [T3.out]
        replace hr12 := hr12.below hb14
        replace hS := hS.trans (hb14.mono hS.size)
        clear hb14
        have e6 : (false == false) = true := rfl
        go_wp2_with fail
        refine (good_any _ _ _ _ _ _ hr12).mono ?_
        rintro e w16 ⟨rfl, hb16⟩
        rw [show ((0 : Int) == 0) = true from rfl]
        replace hS := hS.trans (hb16.mono hS.size)
        clear hb16
        replace hbd := hbd.trans (hS.mono hbd.size)
        clear hS
        go_wp2_with fail
        refine (live11_any _).mono ?_
        rintro e w15 ⟨rfl, hb15⟩
        go_wp2
        go_ret
        exact ⟨rfl, hbd.trans (hb15.mono hbd.size)⟩
      · go_wp2_with fail
        refine Seq.wp_region_seq (fun w' => Below w8.heap.size w8 w') (by kernel_rfl) (by kernel_rfl) (hS.drew) ?_
        have hr11' : IsRd w11.drew sb _ _ _ _ := hr11
        have hz11' := hz11.drewN 1
        replace hz11' : Bs w11.drew a n z := hz11'
        replace hS := hS.drew
        generalize w11.drew = w11' at *
        clear x1 x2 x3
        repeat (first | (refine Seq.Seq.skip (by rfl) ?_; (try simp only [Act.put, List.setIfInBounds_toArray, List.set_cons_zero, List.set_cons_succ])) | (refine Seq.Seq.det ?_ (by rfl) (fun w hS => ?_) ?_; rotate_left; ((try dsimp only at hS); go_simp; (try rw [if_pos (by omega)]); with_reducible rfl); (try simp only [Act.put, List.setIfInBounds_toArray, List.set_cons_zero, List.set_cons_succ])))
        refine Seq.Seq.make (by rfl) (by rfl) (fun K Q' hK => ?_)
        go_simp
        go_at_call 30
        refine (toffset_any _ _ _ _ _ _ _ _ _ hr11' hz11' p10 p11 (by omega) HBY.out).mono ?_
        rintro e w12 ⟨ov, p2, c3, q3, rfl, hk12, hr12, hs12⟩
        replace hS := Kp.below hS (Nat.le_refl _) hk12 hSb
        obtain ⟨rfl, rfl, rfl⟩ := of_ok hs12 (T1.out trivial).1 (T1.out trivial).2
        refine hK.out _ _ (hS) ?_
        clear hK K
        try simp only [Act.put, List.setIfInBounds_toArray, List.set_cons_zero, List.set_cons_succ]
        have e7 : (t.2.1 != t.2.1) = false := by simp
        repeat (first | (refine Seq.Seq.skip (by rfl) ?_; (try simp only [Act.put, List.setIfInBounds_toArray, List.set_cons_zero, List.set_cons_succ])) | (refine Seq.Seq.det ?_ (by rfl) (fun w hS => ?_) ?_; rotate_left; ((try dsimp only at hS); go_simp; (try rw [if_pos (by omega)]); with_reducible rfl); (try simp only [Act.put, List.setIfInBounds_toArray, List.set_cons_zero, List.set_cons_succ])))
        refine Seq.Seq.nil ?_
        clear hk12 hs12 hr11 hr11' hz11 hz11'
        clear L5
        go_wp2_with fail
        refine (rtlen_any _ _ _ _ _ _).mono ?_
        rintro e w13 ⟨rfl, hb13⟩
        rw [T2'.out]
        replace hr12 := hr12.below hb13
        replace hS := hS.trans (hb13.mono hS.size)
        clear hb13
        have e5 : (k == k) = true := by simp
        go_wp2_with fail
        refine (rcopy_any _ _ _ _ _ _).mono ?_
        rintro e w14 ⟨rfl, hb14⟩
        rw [T3.out]
        replace hr12 := hr12.below hb14
        replace hS := hS.trans (hb14.mono hS.size)
        clear hb14
        have e6 : (true == true) = true := rfl
        go_wp2_with fail
        refine (good_any _ _ _ _ _ _ hr12).mono ?_
        rintro e w16 ⟨rfl, hb16⟩
        rw [show ((0 : Int) == 0) = true from rfl]
        replace hS := hS.trans (hb16.mono hS.size)
        clear hb16
        replace hbd := hbd.trans (hS.mono hbd.size)
        clear hS
        go_wp2_with fail
        refine (live11_any _).mono ?_
        rintro e w15 ⟨rfl, hb15⟩
        go_wp2
        go_ret
        exact ⟨rfl, hbd.trans (hb15.mono hbd.size)⟩
    · have hcb : (c' == 0) = false := by simpa using hc
      have hcr : ((0 : Int) == c') = false := by simp; omega
      obtain ⟨g1, g2, g3⟩ := HS4.out.flt hc
      have HG := Lib.hid (And.intro g1 (And.intro g2 g3))
      have f1 : (c' == c') = true := by simp
      have f2 : (q' == q') = true := by simp
      clear g1 g2 g3 HS4 HP L4
      by_cases hc1 : c1 = 0
      · subst hc1
        have hq1 : q1 = 0 := HS11.out.good.2.2.2.2
        subst hq1
        cases cp
        · -- the fault stands behind the head
          go_wp2_with fail
          refine Seq.wp_region_seq (fun w' => Below w8.heap.size w8 w') (by kernel_rfl) (by kernel_rfl) (hS.drew) ?_
          have hr12 : IsRd w11.drew sb _ _ _ _ := hr11
          replace hS := hS.drew
          generalize w11.drew = w12 at *
          repeat (first | (refine Seq.Seq.skip (by rfl) ?_; (try simp only [Act.put, List.setIfInBounds_toArray, List.set_cons_zero, List.set_cons_succ])) | (refine Seq.Seq.det ?_ (by rfl) (fun w hS => ?_) ?_; rotate_left; ((try dsimp only at hS); go_simp; (try rw [if_pos (by omega)]); with_reducible rfl); (try simp only [Act.put, List.setIfInBounds_toArray, List.set_cons_zero, List.set_cons_succ])))
          refine Seq.Seq.make (by rfl) (by rfl) (fun K Q' hK => ?_)
          go_simp
          go_at_call 32
          refine (good_any _ _ _ _ _ _ hr12).mono ?_
          rintro e w13 ⟨rfl, hb13⟩
          rw [show ((0 : Int) == 0) = true from rfl]
          replace hr12 := hr12.below hb13
          replace hS := hS.trans (hb13.mono hS.size)
          clear hb13
          refine hK.out _ _ (hS) ?_
          clear hK K
          try simp only [Act.put, List.setIfInBounds_toArray, List.set_cons_zero, List.set_cons_succ]
          repeat (first | (refine Seq.Seq.skip (by rfl) ?_; (try simp only [Act.put, List.setIfInBounds_toArray, List.set_cons_zero, List.set_cons_succ])) | (refine Seq.Seq.det ?_ (by rfl) (fun w hS => ?_) ?_; rotate_left; ((try dsimp only at hS); go_simp; (try rw [if_pos (by omega)]); with_reducible rfl); (try simp only [Act.put, List.setIfInBounds_toArray, List.set_cons_zero, List.set_cons_succ])))
          refine Seq.Seq.nil ?_
          go_wp2_with fail
          refine Seq.wp_region_seq (fun w' => Below w8.heap.size w8 w') (by kernel_rfl) (by kernel_rfl) (hS.drew) ?_
          replace hr12 : IsRd w13.drew sb _ _ _ _ := hr12
          replace hS := hS.drew
          generalize w13.drew = w14 at *
          repeat (first | (refine Seq.Seq.skip (by rfl) ?_; (try simp only [Act.put, List.setIfInBounds_toArray, List.set_cons_zero, List.set_cons_succ])) | (refine Seq.Seq.det ?_ (by rfl) (fun w hS => ?_) ?_; rotate_left; ((try dsimp only at hS); go_simp; (try rw [if_pos (by omega)]); with_reducible rfl); (try simp only [Act.put, List.setIfInBounds_toArray, List.set_cons_zero, List.set_cons_succ])))
          refine Seq.Seq.make (by rfl) (by rfl) (fun K Q' hK => ?_)
          go_simp
          go_at_call 27
          refine (fault_any _ _ _ _ _ _ hr12).mono ?_
          rintro e w15 ⟨rfl, hb15⟩
          replace hr12 := hr12.below hb15
          replace hS := hS.trans (hb15.mono hS.size)
          clear hb15
          refine hK.out _ _ (hS) ?_
          clear hK K
          try simp only [Act.put, List.setIfInBounds_toArray, List.set_cons_zero, List.set_cons_succ]
          repeat (first | (refine Seq.Seq.skip (by rfl) ?_; (try simp only [Act.put, List.setIfInBounds_toArray, List.set_cons_zero, List.set_cons_succ])) | (refine Seq.Seq.det ?_ (by rfl) (fun w hS => ?_) ?_; rotate_left; ((try dsimp only at hS); go_simp; (try rw [if_pos (by omega)]); with_reducible rfl); (try simp only [Act.put, List.setIfInBounds_toArray, List.set_cons_zero, List.set_cons_succ])))
          refine Seq.Seq.nil ?_
          go_wp2_with fail
          refine Seq.wp_region_seq (fun w' => Below w8.heap.size w8 w') (by kernel_rfl) (by kernel_rfl) (hS.drew) ?_
          replace hr12 : IsRd w15.drew sb _ _ _ _ := hr12
          replace hS := hS.drew
          generalize w15.drew = w16 at *
          repeat (first | (refine Seq.Seq.skip (by rfl) ?_; (try simp only [Act.put, List.setIfInBounds_toArray, List.set_cons_zero, List.set_cons_succ])) | (refine Seq.Seq.det ?_ (by rfl) (fun w hS => ?_) ?_; rotate_left; ((try dsimp only at hS); go_simp; (try rw [if_pos (by omega)]); with_reducible rfl); (try simp only [Act.put, List.setIfInBounds_toArray, List.set_cons_zero, List.set_cons_succ])))
          refine Seq.Seq.make (by rfl) (by rfl) (fun K Q' hK => ?_)
          go_simp
          go_at_call 32
          refine (good_any _ _ _ _ _ _ hr12).mono ?_
          rintro e w17 ⟨rfl, hb17⟩
          rw [show ((0 : Int) == 0) = true from rfl]
          replace hS := hS.trans (hb17.mono hS.size)
          clear hb17
          refine hK.out _ _ (hS) ?_
          clear hK K
          try simp only [Act.put, List.setIfInBounds_toArray, List.set_cons_zero, List.set_cons_succ]
          repeat (first | (refine Seq.Seq.skip (by rfl) ?_; (try simp only [Act.put, List.setIfInBounds_toArray, List.set_cons_zero, List.set_cons_succ])) | (refine Seq.Seq.det ?_ (by rfl) (fun w hS => ?_) ?_; rotate_left; ((try dsimp only at hS); go_simp; (try rw [if_pos (by omega)]); with_reducible rfl); (try simp only [Act.put, List.setIfInBounds_toArray, List.set_cons_zero, List.set_cons_succ])))
          refine Seq.Seq.make (by rfl) (by rfl) (fun K Q' hK => ?_)
          go_simp
          go_at_call 8
          refine (live11_any _).mono ?_
          rintro e w20 ⟨rfl, hb20⟩
          replace hS := hS.trans (hb20.mono hS.size)
          clear hb20
          refine hK.out _ _ (hS) ?_
          clear hK K
          try simp only [Act.put, List.setIfInBounds_toArray, List.set_cons_zero, List.set_cons_succ]
          repeat (first | (refine Seq.Seq.skip (by rfl) ?_; (try simp only [Act.put, List.setIfInBounds_toArray, List.set_cons_zero, List.set_cons_succ])) | (refine Seq.Seq.det ?_ (by rfl) (fun w hS => ?_) ?_; rotate_left; ((try dsimp only at hS); go_simp; (try rw [if_pos (by omega)]); with_reducible rfl); (try simp only [Act.put, List.setIfInBounds_toArray, List.set_cons_zero, List.set_cons_succ])))
          refine Seq.Seq.nil ?_
          go_wp2
          go_ret
          exact ⟨rfl, hbd.trans (hS.mono hbd.size)⟩
        · -- the fault stands behind a copy's head
          obtain ⟨o1, o2⟩ := tr_of_bad HBY.out HG.out.1 HS11.out
          rw [HG.out.2.1.symm, HG.out.2.2.symm] at o2
          have HO := Lib.hid (And.intro o1 o2)
          clear o1 o2
          go_wp2_with fail
          refine Seq.wp_region_seq (fun w' => Below w8.heap.size w8 w') (by kernel_rfl) (by kernel_rfl) (hS.drew) ?_
          have hr12 : IsRd w11.drew sb _ _ _ _ := hr11
          have hz12 := hz11.drewN 1
          replace hz12 : Bs w11.drew a n z := hz12
          replace hS := hS.drew
          generalize w11.drew = w12 at *
          repeat (first | (refine Seq.Seq.skip (by rfl) ?_; (try simp only [Act.put, List.setIfInBounds_toArray, List.set_cons_zero, List.set_cons_succ])) | (refine Seq.Seq.det ?_ (by rfl) (fun w hS => ?_) ?_; rotate_left; ((try dsimp only at hS); go_simp; (try rw [if_pos (by omega)]); with_reducible rfl); (try simp only [Act.put, List.setIfInBounds_toArray, List.set_cons_zero, List.set_cons_succ])))
          refine Seq.Seq.make (by rfl) (by rfl) (fun K Q' hK => ?_)
          go_simp
          go_at_call 32
          refine (good_any _ _ _ _ _ _ hr12).mono ?_
          rintro e w13 ⟨rfl, hb13⟩
          rw [show ((0 : Int) == 0) = true from rfl]
          replace hr12 := hr12.below hb13
          replace hz12 := hz12.below hb13
          replace hS := hS.trans (hb13.mono hS.size)
          clear hb13
          refine hK.out _ _ (hS) ?_
          clear hK K
          try simp only [Act.put, List.setIfInBounds_toArray, List.set_cons_zero, List.set_cons_succ]
          repeat (first | (refine Seq.Seq.skip (by rfl) ?_; (try simp only [Act.put, List.setIfInBounds_toArray, List.set_cons_zero, List.set_cons_succ])) | (refine Seq.Seq.det ?_ (by rfl) (fun w hS => ?_) ?_; rotate_left; ((try dsimp only at hS); go_simp; (try rw [if_pos (by omega)]); with_reducible rfl); (try simp only [Act.put, List.setIfInBounds_toArray, List.set_cons_zero, List.set_cons_succ])))
          refine Seq.Seq.make (by rfl) (by rfl) (fun K Q' hK => ?_)
          go_simp
          go_at_call 30
          refine (toffset_any _ _ _ _ _ _ _ _ _ hr12 hz12 p10 p11 (by omega) HBY.out).mono ?_
          rintro e w14 ⟨ov, p2, c3, q3, rfl, hk14, hr14, hs14⟩
          replace hS := Kp.below hS (Nat.le_refl _) hk14 hSb
          obtain ⟨rfl, rfl, rfl⟩ := of_bad hs14 HO.out.1 HO.out.2.1 HO.out.2.2
          clear hk14 hs14 hr12 hz12 hr11 hz11
          refine hK.out _ _ (hS) ?_
          clear hK K
          try simp only [Act.put, List.setIfInBounds_toArray, List.set_cons_zero, List.set_cons_succ]
          repeat (first | (refine Seq.Seq.skip (by rfl) ?_; (try simp only [Act.put, List.setIfInBounds_toArray, List.set_cons_zero, List.set_cons_succ])) | (refine Seq.Seq.det ?_ (by rfl) (fun w hS => ?_) ?_; rotate_left; ((try dsimp only at hS); go_simp; (try rw [if_pos (by omega)]); with_reducible rfl); (try simp only [Act.put, List.setIfInBounds_toArray, List.set_cons_zero, List.set_cons_succ])))
          refine Seq.Seq.make (by rfl) (by rfl) (fun K Q' hK => ?_)
          go_simp
          go_at_call 27
          refine (fault_any _ _ _ _ _ _ hr14).mono ?_
          rintro e w15 ⟨rfl, hb15⟩
          replace hr14 := hr14.below hb15
          replace hS := hS.trans (hb15.mono hS.size)
          clear hb15
          refine hK.out _ _ (hS) ?_
          clear hK K
          try simp only [Act.put, List.setIfInBounds_toArray, List.set_cons_zero, List.set_cons_succ]
          repeat (first | (refine Seq.Seq.skip (by rfl) ?_; (try simp only [Act.put, List.setIfInBounds_toArray, List.set_cons_zero, List.set_cons_succ])) | (refine Seq.Seq.det ?_ (by rfl) (fun w hS => ?_) ?_; rotate_left; ((try dsimp only at hS); go_simp; (try rw [if_pos (by omega)]); with_reducible rfl); (try simp only [Act.put, List.setIfInBounds_toArray, List.set_cons_zero, List.set_cons_succ])))
          refine Seq.Seq.nil ?_
          go_wp2_with fail
          refine Seq.wp_region_seq (fun w' => Below w8.heap.size w8 w') (by kernel_rfl) (by kernel_rfl) (hS.drew) ?_
          replace hr14 : IsRd w15.drew sb _ _ _ _ := hr14
          replace hS := hS.drew
          generalize w15.drew = w16 at *
          repeat (first | (refine Seq.Seq.skip (by rfl) ?_; (try simp only [Act.put, List.setIfInBounds_toArray, List.set_cons_zero, List.set_cons_succ])) | (refine Seq.Seq.det ?_ (by rfl) (fun w hS => ?_) ?_; rotate_left; ((try dsimp only at hS); go_simp; (try rw [if_pos (by omega)]); with_reducible rfl); (try simp only [Act.put, List.setIfInBounds_toArray, List.set_cons_zero, List.set_cons_succ])))
          refine Seq.Seq.make (by rfl) (by rfl) (fun K Q' hK => ?_)
          go_simp
          go_at_call 27
          refine (fault_any _ _ _ _ _ _ hr14).mono ?_
          rintro e w17 ⟨rfl, hb17⟩
          replace hS := hS.trans (hb17.mono hS.size)
          clear hb17
          refine hK.out _ _ (hS) ?_
          clear hK K
          try simp only [Act.put, List.setIfInBounds_toArray, List.set_cons_zero, List.set_cons_succ]
          repeat (first | (refine Seq.Seq.skip (by rfl) ?_; (try simp only [Act.put, List.setIfInBounds_toArray, List.set_cons_zero, List.set_cons_succ])) | (refine Seq.Seq.det ?_ (by rfl) (fun w hS => ?_) ?_; rotate_left; ((try dsimp only at hS); go_simp; (try rw [if_pos (by omega)]); with_reducible rfl); (try simp only [Act.put, List.setIfInBounds_toArray, List.set_cons_zero, List.set_cons_succ])))
          refine Seq.Seq.nil ?_
          clear hr14
          replace hbd := hbd.trans (hS.mono hbd.size)
          clear hS
          go_wp2_with fail
          refine (live11_any _).mono ?_
          rintro e w15 ⟨rfl, hb15⟩
          go_wp2
          go_ret
          exact ⟨rfl, hbd.trans (hb15.mono hbd.size)⟩
      · -- the head has the fault
        obtain ⟨o1, o2⟩ := tr_hd_bad HS11.out hc1
        rw [← HG.out.2.1] at o1
        rw [← HG.out.2.2] at o2
        obtain ⟨rfl, rfl⟩ := hd_cp HS11.out hc1
        subst o1 o2
        have hcb1 : (c1 == 0) = false := by simpa using hc1
        clear HG HS11 hc1 hc
        go_wp2_with fail
        refine Seq.wp_region_seq (fun w' => Below w8.heap.size w8 w') (by kernel_rfl) (by kernel_rfl) (hS.drew) ?_
        have hr12 : IsRd w11.drew sb _ _ _ _ := hr11
        replace hS := hS.drew
        generalize w11.drew = w12 at *
        clear hr11 hz11
        repeat (first | (refine Seq.Seq.skip (by rfl) ?_; (try simp only [Act.put, List.setIfInBounds_toArray, List.set_cons_zero, List.set_cons_succ])) | (refine Seq.Seq.det ?_ (by rfl) (fun w hS => ?_) ?_; rotate_left; ((try dsimp only at hS); go_simp; (try rw [if_pos (by omega)]); with_reducible rfl); (try simp only [Act.put, List.setIfInBounds_toArray, List.set_cons_zero, List.set_cons_succ])))
        refine Seq.Seq.make (by rfl) (by rfl) (fun K Q' hK => ?_)
        go_simp
        go_at_call 32
        refine (good_any _ _ _ _ _ _ hr12).mono ?_
        rintro e w13 ⟨rfl, hb13⟩
        rw [hcb1]
        replace hr12 := hr12.below hb13
        replace hS := hS.trans (hb13.mono hS.size)
        clear hb13
        refine hK.out _ _ (hS) ?_
        clear hK K
        try simp only [Act.put, List.setIfInBounds_toArray, List.set_cons_zero, List.set_cons_succ]
        repeat (first | (refine Seq.Seq.skip (by rfl) ?_; (try simp only [Act.put, List.setIfInBounds_toArray, List.set_cons_zero, List.set_cons_succ])) | (refine Seq.Seq.det ?_ (by rfl) (fun w hS => ?_) ?_; rotate_left; ((try dsimp only at hS); go_simp; (try rw [if_pos (by omega)]); with_reducible rfl); (try simp only [Act.put, List.setIfInBounds_toArray, List.set_cons_zero, List.set_cons_succ])))
        refine Seq.Seq.nil ?_
        go_wp2_with fail
        refine Seq.wp_region_seq (fun w' => Below w8.heap.size w8 w') (by kernel_rfl) (by kernel_rfl) (hS.drew) ?_
        replace hr12 : IsRd w13.drew sb _ _ _ _ := hr12
        replace hS := hS.drew
        generalize w13.drew = w14 at *
        repeat (first | (refine Seq.Seq.skip (by rfl) ?_; (try simp only [Act.put, List.setIfInBounds_toArray, List.set_cons_zero, List.set_cons_succ])) | (refine Seq.Seq.det ?_ (by rfl) (fun w hS => ?_) ?_; rotate_left; ((try dsimp only at hS); go_simp; (try rw [if_pos (by omega)]); with_reducible rfl); (try simp only [Act.put, List.setIfInBounds_toArray, List.set_cons_zero, List.set_cons_succ])))
        refine Seq.Seq.make (by rfl) (by rfl) (fun K Q' hK => ?_)
        go_simp
        go_at_call 27
        refine (fault_any _ _ _ _ _ _ hr12).mono ?_
        rintro e w15 ⟨rfl, hb15⟩
        replace hr12 := hr12.below hb15
        replace hS := hS.trans (hb15.mono hS.size)
        clear hb15
        refine hK.out _ _ (hS) ?_
        clear hK K
        try simp only [Act.put, List.setIfInBounds_toArray, List.set_cons_zero, List.set_cons_succ]
        repeat (first | (refine Seq.Seq.skip (by rfl) ?_; (try simp only [Act.put, List.setIfInBounds_toArray, List.set_cons_zero, List.set_cons_succ])) | (refine Seq.Seq.det ?_ (by rfl) (fun w hS => ?_) ?_; rotate_left; ((try dsimp only at hS); go_simp; (try rw [if_pos (by omega)]); with_reducible rfl); (try simp only [Act.put, List.setIfInBounds_toArray, List.set_cons_zero, List.set_cons_succ])))
        refine Seq.Seq.nil ?_
        go_wp2_with fail
        refine Seq.wp_region_seq (fun w' => Below w8.heap.size w8 w') (by kernel_rfl) (by kernel_rfl) (hS.drew) ?_
        replace hr12 : IsRd w15.drew sb _ _ _ _ := hr12
        replace hS := hS.drew
        generalize w15.drew = w16 at *
        repeat (first | (refine Seq.Seq.skip (by rfl) ?_; (try simp only [Act.put, List.setIfInBounds_toArray, List.set_cons_zero, List.set_cons_succ])) | (refine Seq.Seq.det ?_ (by rfl) (fun w hS => ?_) ?_; rotate_left; ((try dsimp only at hS); go_simp; (try rw [if_pos (by omega)]); with_reducible rfl); (try simp only [Act.put, List.setIfInBounds_toArray, List.set_cons_zero, List.set_cons_succ])))
        refine Seq.Seq.make (by rfl) (by rfl) (fun K Q' hK => ?_)
        go_simp
        go_at_call 32
        refine (good_any _ _ _ _ _ _ hr12).mono ?_
        rintro e w17 ⟨rfl, hb17⟩
        rw [hcb1]
        replace hr12 := hr12.below hb17
        replace hS := hS.trans (hb17.mono hS.size)
        clear hb17
        refine hK.out _ _ (hS) ?_
        clear hK K
        try simp only [Act.put, List.setIfInBounds_toArray, List.set_cons_zero, List.set_cons_succ]
        repeat (first | (refine Seq.Seq.skip (by rfl) ?_; (try simp only [Act.put, List.setIfInBounds_toArray, List.set_cons_zero, List.set_cons_succ])) | (refine Seq.Seq.det ?_ (by rfl) (fun w hS => ?_) ?_; rotate_left; ((try dsimp only at hS); go_simp; (try rw [if_pos (by omega)]); with_reducible rfl); (try simp only [Act.put, List.setIfInBounds_toArray, List.set_cons_zero, List.set_cons_succ])))
        refine Seq.Seq.make (by rfl) (by rfl) (fun K Q' hK => ?_)
        go_simp
        go_at_call 27
        refine (fault_any _ _ _ _ _ _ hr12).mono ?_
        rintro e w18 ⟨rfl, hb18⟩
        replace hS := hS.trans (hb18.mono hS.size)
        clear hb18
        refine hK.out _ _ (hS) ?_
        clear hK K
        try simp only [Act.put, List.setIfInBounds_toArray, List.set_cons_zero, List.set_cons_succ]
        repeat (first | (refine Seq.Seq.skip (by rfl) ?_; (try simp only [Act.put, List.setIfInBounds_toArray, List.set_cons_zero, List.set_cons_succ])) | (refine Seq.Seq.det ?_ (by rfl) (fun w hS => ?_) ?_; rotate_left; ((try dsimp only at hS); go_simp; (try rw [if_pos (by omega)]); with_reducible rfl); (try simp only [Act.put, List.setIfInBounds_toArray, List.set_cons_zero, List.set_cons_succ])))
        refine Seq.Seq.make (by rfl) (by rfl) (fun K Q' hK => ?_)
        go_simp
        go_at_call 8
        refine (live11_any _).mono ?_
        rintro e w20 ⟨rfl, hb20⟩
        replace hS := hS.trans (hb20.mono hS.size)
        clear hb20
        refine hK.out _ _ (hS) ?_
        clear hK K
        try simp only [Act.put, List.setIfInBounds_toArray, List.set_cons_zero, List.set_cons_succ]
        repeat (first | (refine Seq.Seq.skip (by rfl) ?_; (try simp only [Act.put, List.setIfInBounds_toArray, List.set_cons_zero, List.set_cons_succ])) | (refine Seq.Seq.det ?_ (by rfl) (fun w hS => ?_) ?_; rotate_left; ((try dsimp only at hS); go_simp; (try rw [if_pos (by omega)]); with_reducible rfl); (try simp only [Act.put, List.setIfInBounds_toArray, List.set_cons_zero, List.set_cons_succ])))
        refine Seq.Seq.nil ?_
        go_wp2
        go_ret
        exact ⟨rfl, hbd.trans (hS.mono hbd.size)⟩

set_option maxRecDepth 100000 in
theorem lifted (os : Os) (started : os.Started) (H : Type) (enc : TypeId × Value → H) :
    ReturnsInHanded {} Try.checked os 4 .any (Rows.tokenReadsSpec.pre6 enc Try.prog Try.f4 Rows.tokenReadsRow.domain false) (Rows.tokenReadsSpec.post enc Try.prog Try.f4 false true false false) := by
  refine returnsInHanded_of_change (C := Try.checked) own started (by kernel_rfl) Try.func4
    (ChangeSpec.witness6 (enc := enc) (C := Try.checked) false ⟨#[], #[.slice none 0 0], []⟩ 8 (by kernel_rfl) (by kernel_rfl) (by kernel_rfl) (by kernel_rfl)) ?_
  intro W base args ds gs before hval0 hW hcnd _
  have hval : ∀ (j : Nat) t v, Try.f4.params[j]? = some t → args[j]? = some v → Value.okWide Try.prog W .any base t v := hval0
  have hW' := hW
  obtain ⟨p, q, hA0, hV, rfl, hfz, hnd⟩ := hW
  have hA : DataW.TrodAll enc Try.prog W 0 (fun _ => true) true Try.f4.params.toList args.toList ds p := hA0
  rw [Try.params4] at hA hval
  obtain ⟨v0, vs0, d0, ds0, p0, q0, hargs, rfl, rfl, h0, r0⟩ := trodAll_cons hA
  obtain ⟨rfl, rfl, rfl⟩ := trodAll_nil r0
  obtain rfl : args = #[v0] := by cases args; simp_all
  obtain ⟨rfl, rfl⟩ := trodVars_none hV
  have lt0 : ∀ x ∈ p0, x.block < W.heap.size := by obtain ⟨m, hm⟩ := h0; exact DataW.trod_lt m _ _ _ hm
  clear hA0 hval0
  refine (walk enc W base v0 d0 p0 (hval 0 26 v0 rfl rfl) h0).mono fun e W' ⟨he, bel⟩ => ?_
  subst he
  exact ⟨_, rfl, _, _, _, [], _, [], hW', trodAll_mk1 (shut_bool Try.underlying4 _), (trodAll_cons_mk (Below.trod laidOut (by kernel_rfl) (of_decide_eq_true (by kernel_rfl)) h0 bel lt0) trodAll_mk0), rfl, bel.frame _, fun h => by cases h⟩

theorem over : Rows.tokenReadsRow.holds Try.pinned (OpenSpec.ofChange Rows.tokenReadsSpec) :=
  OpenClaim.holds_of_wide 4 Try.f4 rfl rfl rfl rfl rfl rfl rfl ⟨rfl, rfl, rfl, rfl, rfl⟩ rfl rfl rfl rfl rfl (by kernel_rfl) Try.func4 (by kernel_rfl)
    (of_decide_eq_true (by kernel_rfl)) (by unfold Func.isWrapper; first | (rw [if_pos (by decide +kernel)]; kernel_rfl) | (rw [if_neg (by decide +kernel)]; exact ⟨rfl, rfl⟩))
    (fun os started H enc _ => lifted os started H enc)

/-- THE STATEMENT. -/
theorem proved : Rows.TokenReadsSaid := over
#print axioms proved
end Go.Proofs.Ytppccdogfcmfjaa.tokenReads
