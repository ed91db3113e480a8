/- How many bytes written tokens make, by the program: all of them (visitWritten with the step of Length); Length. -/
import Derived.Test.YtmpbiobbjnhjcaaExpL
namespace Go.Proofs.Ytmpbiobbjnhjcaa.Cur
open Go.RowKit Mem
set_option linter.unusedVariables false

theorem lenv_good {z : List Int} {k : Nat} {p t : Int} (e : leng z = lens z k p t) (h : (z.length : Int) ≤ p) : lenv z = (t, 0, 0) := by
  unfold lenv; rw [e, lens_stop h]; rfl
theorem lenv_bad {z : List Int} {c q : Int} (h : (leng z).2.2.1 = c ∧ (leng z).2.2.2 = q) (hc : c ≠ 0) : lenv z = (0, c, q) := by
  unfold lenv; rw [h.1, h.2, if_neg hc]

def VisLPost (oc : Nat) (g : Int × Int × Int) (w : World) (e : Ending) (w' : World) : Prop :=
  ∃ t c q, e = .returned (.agg #[.int .i64 c, .int .i64 q]) ∧ Blk w' oc #[.int .i64 t] 3 ∧ Ks (fun k => k = oc) w w' ∧ ((c = 0 ∧ g = (t, 0, 0) ∧ q = 0) ∨ (c ≠ 0 ∧ g = (0, c, q)))

/-- What holds whenever the run comes to the label. -/
def VL (a : Option Addr) (n m oc : Nat) (z : List Int) (w : World) (a' : Act) (wr : World) : Prop :=
  ∃ (k : Nat) (p c q t : Int) (u6 u7 u8 u9 u10 u11 u12 u13 u14 u15 u16 u17 u18 u19 : Value), a' = { tmps := #[.slice a n m, .func (.func 35) #[] #[.pointer (some ⟨oc, 0, none⟩)], undef, undef, .pointer (some ⟨w.heap.size, 0, none⟩), .pointer (some ⟨w.heap.size + 1, 0, none⟩), u6, u7, u8, u9, u10, u11, u12, u13, u14, u15, u16, u17, u18, u19], defers := [] } ∧
    Blk wr oc #[.int .i64 t] 3 ∧ IsRd wr (w.heap.size + 1) (.slice a n n) p c q ∧ Blk wr w.heap.size #[.int .i64 0, .int .i64 0] 28 ∧ Ks (fun k => k = oc) w wr ∧ 0 ≤ p ∧ p ≤ n ∧
    ((c = 0 ∧ q = 0 ∧ Hid (0 ≤ t ∧ t ≤ 1048576 * p) ∧ Hid ((n : Int) - p < k ∧ leng z = lens z k p t)) ∨ (c ≠ 0 ∧ Hid ((leng z).2.2.1 = c ∧ (leng z).2.2.2 = q)))


set_option maxRecDepth 100000 in
set_option maxHeartbeats 4000000 in
theorem visit_len (a : Option Addr) (n m oc : Nat) (z : List Int) (w : World) (hz : Bs w a n z) (hm : n ≤ m) (hn : n ≤ 100000) (hby : ∀ x ∈ z, 0 ≤ x ∧ x < 256)
    (hoc : Blk w oc #[.int .i64 0] 3) (hzo : 0 < n → ∀ A, a = some A → ¬ A.block = oc) :
    Calls Try.prog 28 #[.slice a n m, .func (.func 35) #[] #[.pointer (some ⟨oc, 0, none⟩)]] w (VisLPost oc (lenv z) w) := by
  have HBY := Lib.hid hby
  have HZO := Lib.hid hzo
  have hzl := hz.1
  have hocl := hoc.lt
  have hF := Blk.new w #[.int .i64 0, .int .i64 0] 28
  have hbF := below_one w (.cells #[.int .i64 0, .int .i64 0] 28)
  clear hby hzo
  go_enter Try.func28, Try.ntmps28
  go_wp2
  refine jumps_skip 0 (VL a n m oc z w) (fun _ wr => rdm n (w.heap.size + 1) wr) rfl ?_ ?_
  · intro key
    have KEY := Lib.hid key
    clear key
    go_wp2_with fail
    refine (new_any _ _ _ _ hm).mono ?_
    rintro e w1 ⟨rfl, hb1, hsz, hr1⟩
    rw [show (w.alloc (.cells #[.int .i64 0, .int .i64 0] 28)).heap.size = w.heap.size + 1 by simp] at hr1 ⊢
    have hF1 := hF.below hb1
    have hoc1 := (hoc.below hbF).below hb1
    have hk1 := (Ks.of_below (S := fun k => k = oc) hbF).trans (Ks.of_below hb1)
    clear hb1
    go_wp2_with fail
    go_step3
    rename_i Kq hKq
    refine hKq _ _ (KEY.out _ _ ?_)
    exact ⟨z.length + 1, 0, 0, 0, 0, _, _, _, _, _, _, _, _, _, _, _, _, _, _, rfl, hoc1, hr1, hF1, hk1, by omega, by omega, .inl ⟨rfl, rfl, Lib.hid ⟨by omega, by omega⟩, Lib.hid ⟨by omega, rfl⟩⟩⟩
  · clear hF hbF hoc
    rintro a' wr ⟨k, p, c, q, t, u6, u7, u8, u9, u10, u11, u12, u13, u14, u15, u16, u17, u18, u19, rfl, hoc, hr, hF, hks, h0, h1, hst⟩
    rcases hst with ⟨rfl, rfl, HR, HE⟩ | ⟨hc, HE⟩
    · go_wp2_with fail
      refine (good_any _ _ _ _ _ _ hr).mono ?_
      rintro e w1 ⟨rfl, hb1⟩
      rw [show ((0 : Int) == 0) = true from rfl]
      have hmz := rdm_of (n := n) hr
      replace hoc := hoc.below hb1
      replace hr := hr.below hb1
      replace hF := hF.below hb1
      replace hks := hks.trans (Ks.of_below hb1)
      clear hb1
      go_wp2_with fail
      refine (left_any _ _ _ _ _ _ _ _ hr h0 h1 (by omega)).mono ?_
      rintro e w2 ⟨rfl, j, rfl⟩
      have hb2 := below_drewN (Below.refl w1.heap.size w1) j
      replace hoc := hoc.below hb2
      replace hr := hr.below hb2
      replace hF := hF.below hb2
      replace hks := hks.trans (Ks.of_below hb2)
      clear hb2
      generalize w1.drewN j = w2 at *
      by_cases hpn : p = n
      · have hng : ¬ 0 < (n : Int) - p := by omega
        have HX := Lib.hid (lenv_good HE.out.2 (by omega))
        clear hmz hpn
        go_wp2_with fail
        refine (fault_any _ _ _ _ _ _ hr).mono ?_
        rintro e w3 ⟨rfl, hb3⟩
        replace hoc := hoc.below hb3
        replace hr := hr.below hb3
        replace hF := hF.below hb3
        replace hks := hks.trans (Ks.of_below hb3)
        clear hb3
        obtain ⟨f0, f1⟩ := hF.c2
        obtain ⟨g0, g1⟩ := hF.f2
        go_wp2
        simp only [Exit.jump]
        refine bodyPost_ret (v := .agg #[.int .i64 0, .int .i64 0]) (by simp [results, Try.results28, go_sem, f0, f1]) rfl ⟨t, 0, 0, rfl, ?_, ?_, .inl ⟨rfl, HX.out, rfl⟩⟩
        · exact (hoc.far 0 _ (by omega)).far 1 _ (by omega)
        · exact (hks.trans' (Ks.setCell (S := fun k => k = w.heap.size) w3 w.heap.size 0 _ rfl) (fun i hi e => by omega)).trans' (Ks.setCell (S := fun k => k = w.heap.size) _ w.heap.size 1 _ rfl) (fun i hi e => by omega)
      · have hgt : 0 < (n : Int) - p := by omega
        obtain ⟨k, rfl⟩ : ∃ k', k = k' + 1 := ⟨k - 1, by have := HE.out.1; omega⟩
        have hlt : p < n := by omega
        have hz2 := hz.ks hks HZO.out
        have hst := lstep_any (w.heap.size + 1) oc a n n z p t w2 hr hz2 h0 h1 (Nat.le_refl _) hn HBY.out hoc (by omega) HR.out.1 (by have := HR.out.2; omega)
        have HLT := Lib.hid hlt
        clear hpn hlt
        go_wp2_with fail
        refine hst.mono ?_
        rintro e w3 ⟨u, p3, c3, q3, rfl, hoc3, hk3, hr3, hs3⟩
        obtain ⟨p30, p31⟩ := hs3.place
        have hF3 := hF.ks hk3 (fun h => by rcases h with h | h <;> omega)
        have hks3 := hks.trans' hk3 (fun i hi h => by rcases h with h | h <;> omega)
        have hm3 := rdm_of (n := n) hr3
        have HS := Lib.hid hs3
        clear hst hk3 hoc hr hF hks hz2 hs3
        go_wp2_with fail
        go_step3
        refine ⟨rfl, ⟨k, p3, c3, q3, t + tln u, _, _, _, _, _, _, _, _, _, _, _, _, _, _, rfl, hoc3, hr3, hF3, hks3, p30, p31, ?_⟩, ?_⟩
        · by_cases hc : c3 = 0
          · subst hc
            obtain ⟨_, g0, gv, gp, gq⟩ := HS.out.good
            obtain ⟨k1, k2, k3, _⟩ := tr_once HBY.out h0 (by omega) g0
            subst gv
            subst gp
            have := tln_bd (tr z p).1
            have := HR.out
            exact .inl ⟨rfl, gq, Lib.hid ⟨by omega, by omega⟩, Lib.hid ⟨by have := HE.out.1; omega, by rw [HE.out.2, lens_step (by have := HLT.out; omega), Rs.bind_of k3]⟩⟩
          · obtain ⟨g1, g2, g3⟩ := HS.out.flt hc
            refine .inr ⟨hc, Lib.hid ?_⟩
            rw [HE.out.2, lens_step (by have := HLT.out; omega), Rs.bind_bad g1]
            exact ⟨g2.symm, g3.symm⟩
        · show rdm n (w.heap.size + 1) w3 < rdm n (w.heap.size + 1) wr
          rw [hm3, hmz, if_pos trivial]
          have hlt := HLT.out
          by_cases hc : c3 = 0
          · rw [if_pos hc]
            subst hc
            obtain ⟨_, g0, gv, gp, gq⟩ := HS.out.good
            obtain ⟨k1, k2, k3, _⟩ := tr_once HBY.out h0 (by omega) g0
            subst gp
            omega
          · rw [if_neg hc]
            omega
    · have hcb : (c == 0) = false := by simpa using hc
      have HX := Lib.hid (lenv_bad HE.out hc)
      have HC := Lib.hid hc
      clear hc
      go_wp2_with fail
      refine (good_any _ _ _ _ _ _ hr).mono ?_
      rintro e w1 ⟨rfl, hb1⟩
      rw [hcb]
      replace hoc := hoc.below hb1
      replace hr := hr.below hb1
      replace hF := hF.below hb1
      replace hks := hks.trans (Ks.of_below hb1)
      clear hb1
      go_wp2_with fail
      refine (fault_any _ _ _ _ _ _ hr).mono ?_
      rintro e w3 ⟨rfl, hb3⟩
      replace hoc := hoc.below hb3
      replace hr := hr.below hb3
      replace hF := hF.below hb3
      replace hks := hks.trans (Ks.of_below hb3)
      clear hb3
      obtain ⟨f0, f1⟩ := hF.c2
      obtain ⟨g0, g1⟩ := hF.f2
      go_wp2
      simp only [Exit.jump]
      refine bodyPost_ret (v := .agg #[.int .i64 c, .int .i64 q]) (by simp [results, Try.results28, go_sem, f0, f1]) rfl ⟨t, c, q, rfl, ?_, ?_, .inr ⟨HC.out, HX.out⟩⟩
      · exact (hoc.far 0 _ (by omega)).far 1 _ (by omega)
      · exact (hks.trans' (Ks.setCell (S := fun k => k = w.heap.size) w3 w.heap.size 0 _ rfl) (fun i hi e => by omega)).trans' (Ks.setCell (S := fun k => k = w.heap.size) _ w.heap.size 1 _ rfl) (fun i hi e => by omega)

def LnPost (g : Int × Int × Int) (w : World) (e : Ending) (w' : World) : Prop :=
  e = .returned (.tuple #[.int .i64 g.1, .agg #[.int .i64 g.2.1, .int .i64 g.2.2]]) ∧ Below w.heap.size w w'

set_option maxRecDepth 100000 in
set_option maxHeartbeats 2000000 in
theorem elength_any (a : Option Addr) (n m : Nat) (z : List Int) (w : World) (hz : Bs w a n z) (hm : n ≤ m) (hn : n ≤ 100000) (hby : ∀ x ∈ z, 0 ≤ x ∧ x < 256) :
    Calls Try.prog 15 #[.slice a n m] w (LnPost (lenv z) w) := by
  have hF := (Blk.new w #[.int .i64 0, .int .i64 0] 28).alloc (.cells #[.int .i64 0] 3)
  have hO := Blk.new (w.alloc (.cells #[.int .i64 0, .int .i64 0] 28)) #[.int .i64 0] 3
  rw [show (w.alloc (.cells #[.int .i64 0, .int .i64 0] 28)).heap.size = w.heap.size + 1 by simp] at hO
  have hb3 := below_two w (.cells #[.int .i64 0, .int .i64 0] 28) (.cells #[.int .i64 0] 3)
  have hz3 := hz.below hb3
  have hsz : ((w.alloc (.cells #[.int .i64 0, .int .i64 0] 28)).alloc (.cells #[.int .i64 0] 3)).heap.size = w.heap.size + 2 := by simp
  have hv := visit_len a n m (w.heap.size + 1) z _ hz3 hm hn hby hO (fun h A hA e => by have := hz.lt h A hA; omega)
  clear hz hz3 hby
  generalize lenv z = g at *
  go_enter Try.func15, Try.ntmps15
  go_wp2_with fail
  generalize ((w.alloc (.cells #[.int .i64 0, .int .i64 0] 28)).alloc (.cells #[.int .i64 0] 3)) = w1 at *
  refine hv.mono ?_
  rintro e w2 ⟨t, c, q, rfl, hO2, hk, hg⟩
  have hF2 := hF.ks hk (by omega)
  have hbd := Ks.below hb3 (Nat.le_refl _) hk (fun k e => by omega)
  have hG := Blk.new w2 #[.int .i64 c, .int .i64 q] 28
  have hbG := below_one w2 (.cells #[.int .i64 c, .int .i64 q] 28)
  replace hF2 := hF2.below hbG
  replace hO2 := hO2.below hbG
  replace hbd := hbd.trans (hbG.mono hbd.size)
  obtain ⟨x0, x1⟩ := hG.c2
  clear hbG hk hF hO hv
  go_wp2_with fail
  refine (fgood_any _ _ _).mono ?_
  rintro e w3 ⟨rfl, hb3⟩
  replace hG := hG.below hb3
  replace hF2 := hF2.below hb3
  replace hO2 := hO2.below hb3
  replace hbd := hbd.trans (hb3.mono hbd.size)
  obtain ⟨f0, f1⟩ := hF2.c2
  obtain ⟨g0, g1⟩ := hF2.f2
  have hFl := hF2.lt
  have hGl := hG.lt
  have o0 := hO2.c1
  clear x0 x1
  obtain ⟨x0, x1⟩ := hG.c2
  clear hb3
  rcases hg with ⟨rfl, rfl, rfl⟩ | ⟨hc, rfl⟩
  · rw [show ((0 : Int) == 0) = true from rfl]
    go_wp2
    go_region
    go_wp2
    refine bodyPost_ret (v := .tuple #[.int .i64 t, .agg #[.int .i64 0, .int .i64 0]]) (by simp [results, Try.results15, go_sem, f0, f1]) rfl ⟨rfl, ?_⟩
    exact (hbd.drew.setCell (by show w.heap.size ≤ w.heap.size; omega) _).setCell (by show w.heap.size ≤ w.heap.size; omega) _
  · rw [show (c == 0) = false by simpa using hc]
    clear hc
    go_wp2
    go_region
    go_wp2
    refine bodyPost_ret (v := .tuple #[.int .i64 0, .agg #[.int .i64 c, .int .i64 q]]) (by simp [results, Try.results15, go_sem, f0, f1]) rfl ⟨rfl, ?_⟩
    exact (hbd.drew.setCell (by show w.heap.size ≤ w.heap.size; omega) _).setCell (by show w.heap.size ≤ w.heap.size; omega) _
end Go.Proofs.Ytmpbiobbjnhjcaa.Cur
