/- Written tokens expanded, by the program: all of them (visitWritten with the step of Bytes). -/
import Derived.Test.YtmpbiobbjnhjcaaExpI
namespace Go.Proofs.Ytmpbiobbjnhjcaa.Cur
open Go.RowKit Mem
set_option linter.unusedVariables false

/-- How much a reader has still before it. -/
def rdm (n b : Nat) (w : World) : Nat := match w.cell? ⟨b, 2, none⟩, w.cell? ⟨b, 1, none⟩ with
  | some (.int _ c), some (.int _ p) => if c = 0 then ((n : Int) - p).toNat + 1 else 0
  | _, _ => 0
theorem rdm_of {n b : Nat} {w : World} {s : Value} {p c q : Int} (h : IsRd w b s p c q) : rdm n b w = if c = 0 then ((n : Int) - p).toNat + 1 else 0 := by
  obtain ⟨_, c1, c2, _⟩ := h.cells
  unfold rdm
  rw [c1, c2]
theorem exv_good {z : List Int} {bound : Int} {k : Nat} {p : Int} {y : List Int} (e : exg z bound = exs z bound k p y) (h : (z.length : Int) ≤ p) : exv z bound = (y, 0, 0) := by
  unfold exv; rw [e, exs_stop h]; rfl
theorem exv_bad {z : List Int} {bound c q : Int} (h : (exg z bound).2.2.1 = c ∧ (exg z bound).2.2.2 = q) (hc : c ≠ 0) : exv z bound = ([], c, q) := by
  unfold exv; rw [h.1, h.2, if_neg hc]

def VisPost (oc : Nat) (g : List Int × Int × Int) (w : World) (e : Ending) (w' : World) : Prop :=
  ∃ v y c q, e = .returned (.agg #[.int .i64 c, .int .i64 q]) ∧ Own w' w.heap.size v y ∧ Blk w' oc #[v] 25 ∧ Ks (fun k => k = oc) w w' ∧ ((c = 0 ∧ g = (y, 0, 0) ∧ q = 0) ∨ (c ≠ 0 ∧ g = ([], c, q)))

/-- What holds whenever the run comes to the label. -/
def VJ (a : Option Addr) (n m oc bb : Nat) (z : List Int) (bound : Int) (R : Int → List Int → Prop) (w : World) (a' : Act) (wr : World) : Prop :=
  ∃ (k : Nat) (p c q : Int) (y : List Int) (v u6 u7 u8 u9 u10 u11 u12 u13 u14 u15 u16 u17 u18 u19 : Value), a' = { tmps := #[.slice a n m, .func (.func 29) #[] #[.pointer (some ⟨oc, 0, none⟩), .pointer (some ⟨bb, 0, none⟩)], undef, undef, .pointer (some ⟨w.heap.size, 0, none⟩), .pointer (some ⟨w.heap.size + 1, 0, none⟩), u6, u7, u8, u9, u10, u11, u12, u13, u14, u15, u16, u17, u18, u19], defers := [] } ∧
    Own wr (w.heap.size + 2) v y ∧ Blk wr oc #[v] 25 ∧ Blk wr bb #[.int .i64 bound] 3 ∧ IsRd wr (w.heap.size + 1) (.slice a n n) p c q ∧ Blk wr w.heap.size #[.int .i64 0, .int .i64 0] 28 ∧ Ks (fun k => k = oc) w wr ∧ 0 ≤ p ∧ p ≤ n ∧
    ((c = 0 ∧ q = 0 ∧ Hid (R p y) ∧ Hid ((n : Int) - p < k ∧ exg z bound = exs z bound k p y)) ∨ (c ≠ 0 ∧ Hid ((exg z bound).2.2.1 = c ∧ (exg z bound).2.2.2 = q)))


set_option maxRecDepth 100000 in
set_option maxHeartbeats 4000000 in
theorem visit_byte (a : Option Addr) (n m oc bb : Nat) (z : List Int) (bound : Int) (R : Int → List Int → Prop) (w : World) (hz : Bs w a n z) (hm : n ≤ m) (hn : n ≤ 100000) (hby : ∀ x ∈ z, 0 ≤ x ∧ x < 256)
    (hoc : Blk w oc #[.slice none 0 0] 25) (hbb : Blk w bb #[.int .i64 bound] 3) (hzo : 0 < n → ∀ A, a = some A → ¬ A.block = oc)
    (hR0 : R 0 []) (hRs : ∀ p y, R p y → 0 ≤ p → p < n → (ex z bound y p).2.2.1 = 0 → R (ex z bound y p).2.1 (ex z bound y p).1) (hRl : ∀ p y, R p y → y.length ≤ 800000) :
    Calls Try.prog 28 #[.slice a n m, .func (.func 29) #[] #[.pointer (some ⟨oc, 0, none⟩), .pointer (some ⟨bb, 0, none⟩)]] w (VisPost oc (exv z bound) w) := by
  have HBY := Lib.hid hby
  have HZO := Lib.hid hzo
  have HR0 := Lib.hid hR0
  have HRS := Lib.hid hRs
  have HRL := Lib.hid hRl
  have hzl := hz.1
  have hocl := hoc.lt
  have hbbl := hbb.lt
  have hob : bb ≠ oc := by
    intro e
    subst e
    have h1 := hoc.c1
    rw [hbb.c1] at h1
    injection h1 with h1
    cases h1
  have hF := Blk.new w #[.int .i64 0, .int .i64 0] 28
  have hbF := below_one w (.cells #[.int .i64 0, .int .i64 0] 28)
  clear hby hzo hR0 hRs hRl
  go_enter Try.func28, Try.ntmps28
  go_wp2
  refine jumps_skip 0 (VJ a n m oc bb z bound R w) (fun _ wr => rdm n (w.heap.size + 1) wr) rfl ?_ ?_
  · intro key
    have KEY := Lib.hid key
    clear key
    go_wp2_with fail
    refine (new_any _ _ _ _ hm).mono ?_
    rintro e w1 ⟨rfl, hb1, hsz, hr1⟩
    rw [show (w.alloc (.cells #[.int .i64 0, .int .i64 0] 28)).heap.size = w.heap.size + 1 by simp] at hr1 ⊢
    have hF1 := hF.below hb1
    have hoc1 := (hoc.below hbF).below hb1
    have hbb1 := (hbb.below hbF).below hb1
    have hk1 := (Ks.of_below (S := fun k => k = oc) hbF).trans (Ks.of_below hb1)
    clear hb1
    go_wp2_with fail
    go_step3
    rename_i Kq hKq
    refine hKq _ _ (KEY.out _ _ ?_)
    exact ⟨z.length + 1, 0, 0, 0, [], _, _, _, _, _, _, _, _, _, _, _, _, _, _, _, rfl, Own.nil _ _, hoc1, hbb1, hr1, hF1, hk1, by omega, by omega, .inl ⟨rfl, rfl, HR0, Lib.hid ⟨by omega, rfl⟩⟩⟩
  · clear hF hbF hoc hbb
    rintro a' wr ⟨k, p, c, q, y, v, u6, u7, u8, u9, u10, u11, u12, u13, u14, u15, u16, u17, u18, u19, rfl, ho, hoc, hbb, hr, hF, hks, h0, h1, hst⟩
    obtain ⟨Av, cv, rfl, _⟩ := ho.parts
    rcases hst with ⟨rfl, rfl, HR, HE⟩ | ⟨hc, HE⟩
    · go_wp2_with fail
      refine (good_any _ _ _ _ _ _ hr).mono ?_
      rintro e w1 ⟨rfl, hb1⟩
      rw [show ((0 : Int) == 0) = true from rfl]
      have hmz := rdm_of (n := n) hr
      replace ho : Own _ (w.heap.size + 2) _ y := ho.below hb1
      replace hoc := hoc.below hb1
      replace hbb := hbb.below hb1
      replace hr := hr.below hb1
      replace hF := hF.below hb1
      replace hks := hks.trans (Ks.of_below hb1)
      clear hb1
      go_wp2_with fail
      refine (left_any _ _ _ _ _ _ _ _ hr h0 h1 (by omega)).mono ?_
      rintro e w2 ⟨rfl, j, rfl⟩
      have hb2 := below_drewN (Below.refl w1.heap.size w1) j
      replace ho : Own _ (w.heap.size + 2) _ y := ho.below hb2
      replace hoc := hoc.below hb2
      replace hbb := hbb.below hb2
      replace hr := hr.below hb2
      replace hF := hF.below hb2
      replace hks := hks.trans (Ks.of_below hb2)
      clear hb2
      generalize w1.drewN j = w2 at *
      by_cases hpn : p = n
      · have hng : ¬ 0 < (n : Int) - p := by omega
        have HX := Lib.hid (exv_good HE.out.2 (by omega))
        clear hmz hpn
        go_wp2_with fail
        refine (fault_any _ _ _ _ _ _ hr).mono ?_
        rintro e w3 ⟨rfl, hb3⟩
        replace ho : Own _ (w.heap.size + 2) _ y := ho.below hb3
        replace hoc := hoc.below hb3
        replace hbb := hbb.below hb3
        replace hr := hr.below hb3
        replace hF := hF.below hb3
        replace hks := hks.trans (Ks.of_below hb3)
        clear hb3
        obtain ⟨f0, f1⟩ := hF.c2
        obtain ⟨g0, g1⟩ := hF.f2
        go_wp2
        simp only [Exit.jump]
        refine bodyPost_ret (v := .agg #[.int .i64 0, .int .i64 0]) (by simp [results, Try.results28, go_sem, f0, f1]) rfl ⟨.slice Av y.length cv, y, 0, 0, rfl, ?_, ?_, ?_, .inl ⟨rfl, HX.out, rfl⟩⟩
        · exact (Own.far (p := ⟨w.heap.size, 1, none⟩) (Own.far (p := ⟨w.heap.size, 0, none⟩) ho (by show w.heap.size < w.heap.size + 2; omega) _) (by show w.heap.size < w.heap.size + 2; omega) _).base (fun g hg => by have := Own.ge ho g hg; omega)
        · exact (hoc.far 0 _ (by omega)).far 1 _ (by omega)
        · exact (hks.trans' (Ks.setCell (S := fun k => k = w.heap.size) w3 w.heap.size 0 _ rfl) (fun i hi e => by omega)).trans' (Ks.setCell (S := fun k => k = w.heap.size) _ w.heap.size 1 _ rfl) (fun i hi e => by omega)
      · have hgt : 0 < (n : Int) - p := by omega
        obtain ⟨k, rfl⟩ : ∃ k', k = k' + 1 := ⟨k - 1, by have := HE.out.1; omega⟩
        have hlt : p < n := by omega
        have hB : w.heap.size + 2 ≤ w2.heap.size := hr.lt
        have hz2 := hz.ks hks HZO.out
        have hst := step_byte (w.heap.size + 1) (w.heap.size + 2) oc bb a n n z y p bound _ w2 hr hz2 h0 h1 (Nat.le_refl _) hn HBY.out ho hB (Nat.lt_succ_self _) (HRL.out _ _ HR.out) (fun h => HRL.out _ _ (HRS.out _ _ HR.out h0 hlt h)) hoc hbb (by omega) (by omega)
        have HLT := Lib.hid hlt
        clear hpn hlt
        go_wp2_with fail
        refine hst.mono ?_
        rintro e w3 ⟨v3, y3, p3, c3, q3, rfl, ho3, hoc3, hk3, hr3, p30, p31, hs3⟩
        have hbb3 := hbb.ks hk3 (fun h => by omega)
        have hF3 := hF.ks hk3 (fun h => by omega)
        have hks3 := hks.trans' hk3 (fun i hi h => by omega)
        have hm3 := rdm_of (n := n) hr3
        clear hst hk3 ho hoc hbb hr hF hks hz2
        go_wp2_with fail
        go_step3
        refine ⟨rfl, ⟨k, p3, c3, q3, y3, _, _, _, _, _, _, _, _, _, _, _, _, _, _, _, rfl, ho3, hoc3, hbb3, hr3, hF3, hks3, p30, p31, ?_⟩, ?_⟩
        · rcases hs3 with ⟨s1, rfl, rfl, rfl, rfl⟩ | ⟨s1, rfl, rfl⟩
          · obtain ⟨e1, e2, e3⟩ := ex_ok HBY.out h0 (by have := HLT.out; omega) s1
            refine .inl ⟨rfl, rfl, Lib.hid (HRS.out _ _ HR.out h0 HLT.out s1), Lib.hid ⟨by have := HE.out.1; omega, ?_⟩⟩
            rw [HE.out.2, exs_step (by have := HLT.out; omega), Rs.bind_of e3]
          · refine .inr ⟨s1, Lib.hid ?_⟩
            rw [HE.out.2, exs_step (by have := HLT.out; omega), Rs.bind_bad s1]
            exact ⟨rfl, rfl⟩
        · show rdm n (w.heap.size + 1) w3 < rdm n (w.heap.size + 1) wr
          rw [hm3, hmz, if_pos trivial]
          have hlt := HLT.out
          rcases hs3 with ⟨s1, rfl, rfl, rfl, rfl⟩ | ⟨s1, rfl, rfl⟩
          · obtain ⟨e1, e2, e3⟩ := ex_ok HBY.out h0 (by omega) s1
            rw [if_pos rfl]
            omega
          · rw [if_neg s1]
            omega
    · have hcb : (c == 0) = false := by simpa using hc
      have HX := Lib.hid (exv_bad HE.out hc)
      have HC := Lib.hid hc
      clear hc
      go_wp2_with fail
      refine (good_any _ _ _ _ _ _ hr).mono ?_
      rintro e w1 ⟨rfl, hb1⟩
      rw [hcb]
      replace ho : Own _ (w.heap.size + 2) _ y := ho.below hb1
      replace hoc := hoc.below hb1
      replace hbb := hbb.below hb1
      replace hr := hr.below hb1
      replace hF := hF.below hb1
      replace hks := hks.trans (Ks.of_below hb1)
      clear hb1
      go_wp2_with fail
      refine (fault_any _ _ _ _ _ _ hr).mono ?_
      rintro e w3 ⟨rfl, hb3⟩
      replace ho : Own _ (w.heap.size + 2) _ y := ho.below hb3
      replace hoc := hoc.below hb3
      replace hbb := hbb.below hb3
      replace hr := hr.below hb3
      replace hF := hF.below hb3
      replace hks := hks.trans (Ks.of_below hb3)
      clear hb3
      obtain ⟨f0, f1⟩ := hF.c2
      obtain ⟨g0, g1⟩ := hF.f2
      go_wp2
      simp only [Exit.jump]
      refine bodyPost_ret (v := .agg #[.int .i64 c, .int .i64 q]) (by simp [results, Try.results28, go_sem, f0, f1]) rfl ⟨.slice Av y.length cv, y, c, q, rfl, ?_, ?_, ?_, .inr ⟨HC.out, HX.out⟩⟩
      · exact (Own.far (p := ⟨w.heap.size, 1, none⟩) (Own.far (p := ⟨w.heap.size, 0, none⟩) ho (by show w.heap.size < w.heap.size + 2; omega) _) (by show w.heap.size < w.heap.size + 2; omega) _).base (fun g hg => by have := Own.ge ho g hg; omega)
      · exact (hoc.far 0 _ (by omega)).far 1 _ (by omega)
      · exact (hks.trans' (Ks.setCell (S := fun k => k = w.heap.size) w3 w.heap.size 0 _ rfl) (fun i hi e => by omega)).trans' (Ks.setCell (S := fun k => k = w.heap.size) _ w.heap.size 1 _ rfl) (fun i hi e => by omega)
end Go.Proofs.Ytmpbiobbjnhjcaa.Cur
