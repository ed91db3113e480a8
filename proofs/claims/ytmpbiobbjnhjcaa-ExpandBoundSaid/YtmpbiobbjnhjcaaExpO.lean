/- How many bytes written tokens make, by the document. -/
import Derived.Test.YtmpbiobbjnhjcaaExpN
namespace Go.Proofs.Ytmpbiobbjnhjcaa.Cur
open Go.RowKit Mem
set_option linter.unusedVariables false

def LC (n m : Nat) (a : Option Addr) (z : List Int) (w : World) (gk : Nat) (v : Value) (wr : World) : Prop :=
  ∃ (k : Nat) (pk t : Int), v = .int .i64 t ∧ Blk wr (w.heap.size + 1) (cvs (.slice a n m) pk 0 0) 60 ∧ Blk wr w.heap.size #[.int .i64 0, .int .i64 0] 28 ∧ Below w.heap.size w wr ∧ 0 ≤ pk ∧ pk ≤ n ∧
    gk = (n - pk).toNat + 1 ∧ Hid (0 ≤ t ∧ t ≤ 1048576 * pk) ∧ Hid ((n : Int) - pk < k ∧ leng z = lens z k pk t)

theorem lenv_at {z : List Int} {k : Nat} {p t : Int} (e : leng z = lens z (k + 1) p t) (h : p < z.length) (hc : (tr z p).2.2.1 ≠ 0) : lenv z = (0, (tr z p).2.2.1, (tr z p).2.2.2) := by
  refine lenv_bad ?_ hc
  rw [e, lens_step h, Rs.bind_bad hc]
  exact ⟨rfl, rfl⟩

set_option maxRecDepth 100000 in
set_option maxHeartbeats 4000000 in
theorem relength_any (a : Option Addr) (n m : Nat) (z : List Int) (w : World) (hz : Bs w a n z) (ha : a = none → m = 0) (hm : n ≤ m) (hn : n ≤ 100000) (hby : ∀ x ∈ z, 0 ≤ x ∧ x < 256) :
    Calls Try.prog 16 #[.slice a n m] w (LnPost (lenv z) w) := by
  have HBY := Lib.hid hby
  have HA := Lib.hid ha
  clear hby ha
  have hzl := hz.1
  have hF := (Blk.new w #[.int .i64 0, .int .i64 0] 28).alloc (.cells (cvs (.slice a n m) 0 0 0) 60)
  have hC := Blk.new (w.alloc (.cells #[.int .i64 0, .int .i64 0] 28)) (cvs (.slice a n m) 0 0 0) 60
  rw [show (w.alloc (.cells #[.int .i64 0, .int .i64 0] 28)).heap.size = w.heap.size + 1 by simp] at hC
  have hbd := below_two w (.cells #[.int .i64 0, .int .i64 0] 28) (.cells (cvs (.slice a n m) 0 0 0) 60)
  go_enter Try.func16, Try.ntmps16
  go_wp2
  go_loopg [5] ((n : Nat) + 1) (fun gk v wr => LC n m a z w gk v wr)
  case atStart => exact ⟨z.length + 1, 0, 0, rfl, hC, hF, hbd, by omega, by omega, by simp, Lib.hid ⟨by omega, by omega⟩, Lib.hid ⟨by omega, rfl⟩⟩
  case round =>
    clear hC hF hbd
    obtain ⟨k, pk, t, rfl, hC, hF, hbd, k0, k1, hg, HT, H⟩ := hrel
    obtain ⟨c0, c1, c2, c3⟩ := hC.c4
    by_cases hkn : pk = n
    · have hng : ¬ pk < (n : Int) := by omega
      have HE := Lib.hid (lenv_good H.out.2 (by omega))
      obtain ⟨f0, f1⟩ := hF.c2
      obtain ⟨g0, g1⟩ := hF.f2
      clear hkn
      go_wp2
      refine bodyPost_ret (v := .tuple #[.int .i64 t, .agg #[.int .i64 0, .int .i64 0]]) (by simp [results, Try.results16, go_sem, f0, f1]) rfl ⟨by rw [HE.out], ?_⟩
      exact (hbd.setCell (Nat.le_refl _) _).setCell (Nat.le_refl _) _
    · have hgt : pk < (n : Int) := by omega
      have hlt : pk < z.length := by omega
      have HLT := Lib.hid hlt
      obtain ⟨k, rfl⟩ : ∃ k', k = k' + 1 := ⟨k - 1, by have := H.out.1; omega⟩
      clear hkn hlt
      go_wp2_with fail
      refine (rtread_any _ _ _ _ _ _ _ _ (hz.below hbd) HA.out k0 k1 hm (by omega) HBY.out).mono ?_
      rintro e w3 ⟨v, u, p2, c2', q2, rfl, ho3, hb3, hs3⟩
      obtain ⟨p20, p21⟩ := hs3.place
      have HS3 := Lib.hid hs3
      obtain ⟨Au, mu, rfl⟩ := ho3.slice
      replace hF := hF.below hb3
      replace hC := hC.below hb3
      replace hbd := hbd.trans (hb3.mono hbd.size)
      clear hs3 hb3 c0 c1 c2 c3 ho3
      have hCl := hC.lt
      go_upto_region 4 with (fail)
      have hb4 := below_two w3 (.cells (cvs (.slice a n m) p2 c2' q2) 60) (.cells #[.slice Au u.1.length mu, .int .i64 u.2.1, .int .i64 u.2.2] 34)
      have hE := (Blk.new w3 (cvs (.slice a n m) p2 c2' q2) 60).alloc (.cells #[.slice Au u.1.length mu, .int .i64 u.2.1, .int .i64 u.2.2] 34)
      have hX := Blk.new (w3.alloc (.cells (cvs (.slice a n m) p2 c2' q2) 60)) #[.slice Au u.1.length mu, .int .i64 u.2.1, .int .i64 u.2.2] 34
      rw [show (w3.alloc (.cells (cvs (.slice a n m) p2 c2' q2) 60)).heap.size = w3.heap.size + 1 by simp] at hX
      replace hF := hF.below hb4
      replace hC := hC.below hb4
      replace hbd := hbd.trans (hb4.mono hbd.size)
      generalize (w3.alloc (.cells (cvs (.slice a n m) p2 c2' q2) 60)).alloc (.cells #[.slice Au u.1.length mu, .int .i64 u.2.1, .int .i64 u.2.2] 34) = w4 at *
      clear hb4
      generalize w3.heap.size = X at *
      obtain ⟨e0', e1', e2', e3'⟩ := hE.c4
      by_cases hc2 : c2' = 0
      · have hcb2 : (c2' != 0) = false := by simpa using hc2
        subst hc2
        obtain ⟨_, g0, gv, gp, gq⟩ := HS3.out.good
        obtain ⟨t1, t2, t3, _⟩ := tr_once HBY.out k0 (by omega) g0
        have HEX : Hid (leng z = lens z k p2 (t + tln u)) := Lib.hid (by rw [H.out.2, lens_step HLT.out, Rs.bind_of t3, gv, gp])
        rw [← gp] at t1
        subst gq
        have HT1 := Lib.hid t1
        obtain ⟨x0', x1', x2'⟩ := hX.c3
        have hbu := tln_bd u
        obtain ⟨y, hy⟩ : ∃ y, y = tln u := ⟨_, rfl⟩
        rw [← hy] at hbu HEX
        have HY : Hid (tsz u.1.length u.2.1 u.2.2 = y) := Lib.hid hy.symm
        have hth := HT.out
        have e1 : IntKind.i64.wrap (t + y) = t + y := IntWalk.i64_in _ (by omega)
        have hng : ¬ 1099511627776 < t + y := by omega
        have HTN : Hid (0 ≤ t + y ∧ t + y ≤ 1048576 * p2) := Lib.hid ⟨by omega, by omega⟩
        clear g0 gv gp t1 t2 t3 HS3 hy hth hbu
        go_wp2_with fail
        refine (rtlen_any _ _ _ _ _ _).mono ?_
        rintro e w5 ⟨rfl, hb5⟩
        rw [HY.out]
        replace hF := hF.below hb5
        replace hC := hC.below hb5
        replace hE := hE.below hb5
        replace hbd := hbd.trans (hb5.mono hbd.size)
        clear e0' e1' e2' e3'
        obtain ⟨c0, c1, c2, c3⟩ := hC.c4
        obtain ⟨f0, f1, f2, f3⟩ := hC.f4
        obtain ⟨e0', e1', e2', e3'⟩ := hE.c4
        obtain ⟨hC5, hk5⟩ := set4 hC (.slice a n m) (.int .i64 p2) (.int .i64 0) (.int .i64 0)
        have hF5 := blk_kp hF hk5 (by omega)
        have hbd5 := Kp.below hbd (Nat.le_refl _) hk5 (by omega)
        clear hb5 hX x0' x1' x2' hF hbd hk5
        go_wp2
        go_roundg ((n - p2).toNat + 1)
        case measure => have := HT1.out; omega
        case rel => exact ⟨k, p2, t + y, rfl, hC5, hF5, hbd5, p20, p21, rfl, HTN.out, Lib.hid ⟨by have := H.out.1; have := HT1.out; omega, HEX.out⟩⟩
      · have hcb2 : (c2' != 0) = true := by simpa using hc2
        obtain ⟨g1, g2, g3⟩ := HS3.out.flt hc2
        have HX : Hid (lenv z = (0, c2', q2)) := Lib.hid (by
          have := lenv_at H.out.2 HLT.out g1
          rw [this, g2, g3])
        clear g1 g2 g3 HS3 hc2 H
        obtain ⟨f0, f1⟩ := hF.c2
        obtain ⟨g0, g1⟩ := hF.f2
        go_wp2
        go_region
        go_wp2
        refine bodyPost_ret (v := .tuple #[.int .i64 0, .agg #[.int .i64 c2', .int .i64 q2]]) (by simp [results, Try.results16, go_sem, f0, f1]) rfl ⟨by rw [HX.out], ?_⟩
        exact (hbd.drew.setCell (Nat.le_refl _) _).setCell (Nat.le_refl _) _
end Go.Proofs.Ytmpbiobbjnhjcaa.Cur
