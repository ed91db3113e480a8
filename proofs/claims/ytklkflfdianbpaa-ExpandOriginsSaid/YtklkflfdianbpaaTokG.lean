/- The document's reader of a token. -/
import Derived.Test.YtklkflfdianbpaaTokF
namespace Go.Proofs.Ytklkflfdianbpaa.Cur
open Go.RowKit Mem
set_option linter.unusedVariables false

theorem tr_bad {n : Nat} {z : List Int} {p c q v p1 c1 q1 : Int} (h : St 0 n (vg z p) p c q v p1 c1 q1) (hc : c1 ≠ 0) : St tk0 n (tr z p) p c q tk0 p1 c1 q1 :=
  (h.bind (d := (false, 0)) (f := fun x p1 => if 1048576 < (hdv x).2 then ((false, 0), 0, 2, p) else (hdv x, p1, 0, 0)) (St.stay h.place.1 h.place.2 hc)).bind (f := trb z) (St.stay h.place.1 h.place.2 hc)
theorem hd_ok {n : Nat} {z : List Int} {p c q v p1 q1 : Int} (h : St 0 n (vg z p) p c q v p1 0 q1) (hb : ¬ 1048576 < (hdv v).2) : St (false, 0) n (hd z p) p c q (hdv v) p1 0 q1 := by
  have := h.test (α := Bool × Int) (d := (false, 0)) (bad := fun x => 1048576 < (hdv x).2) (C := 2) (P := p) (r := hdv) (by decide) (.inr ⟨hb, by rw [if_pos rfl], rfl, rfl⟩)
  exact this
theorem tr_long {n : Nat} {z : List Int} {p c q v p1 c1 q1 c2 q2 : Int} (h : St 0 n (vg z p) p c q v p1 c1 q1) (hb : 1048576 < (hdv v).2) (hf : FailSt c1 q1 2 p c2 q2) : St tk0 n (tr z p) p c q tk0 p1 c2 q2 := by
  have h2 : St (false, 0) n (hd z p) p c q (false, 0) p1 c2 q2 := h.test (bad := fun x => 1048576 < (hdv x).2) (r := hdv) (by decide) (.inl ⟨hb, rfl, hf⟩)
  exact h2.bind (f := trb z) (St.stay h.place.1 h.place.2 (hf.ne (by decide)))

/-- What the document's Read hands back. -/
def RTRdPost (s : Value) (n : Nat) (g : Rs Tk) (p c q : Int) (w : World) (e : Ending) (w' : World) : Prop :=
  ∃ v t p' c' q', e = .returned (.tuple #[cv s p' c' q', .agg #[v, .int .i64 t.2.1, .int .i64 t.2.2]]) ∧ Own w' w.heap.size v t.1 ∧ Below w.heap.size w w' ∧ St tk0 n g p c q t p' c' q'


set_option maxRecDepth 100000 in
set_option maxHeartbeats 4000000 in
theorem rtread_any (a : Option Addr) (n m : Nat) (z : List Int) (p c q : Int) (w : World) (hz : Bs w a n z) (ha : a = none → m = 0) (h0 : 0 ≤ p) (h1 : p ≤ n) (hm : n ≤ m) (hn : n ≤ 1000000) (hby : ∀ x ∈ z, 0 ≤ x ∧ x < 256) :
    Calls Try.prog 34 #[cv (.slice a n m) p c q] w (RTRdPost (.slice a n m) n (tr z p) p c q w) := by
  have HBY := Lib.hid hby
  have HA := Lib.hid ha
  clear hby ha
  go_enter Try.func34, Try.ntmps34
  go_wp2_with fail
  refine (rread_any _ _ _ _ _ _ _ _ (hz.below (below_three _ _ _ _)) h0 h1 hm hn HBY.out).mono ?_
  rintro e w1 ⟨x, p1, c1, q1, rfl, hb1, hs1⟩
  obtain ⟨hC, hR1, hR2, hbd⟩ := three_new hb1
  have hst := hs1.st hz.1 h0 h1 HBY.out
  obtain ⟨x0, x1⟩ := rd_lt hs1 hz.1 h0 h1 HBY.out
  obtain ⟨p10, p11⟩ := hst.place
  have HS := Lib.hid hst
  have hlt1 := hR2.lt
  replace hbd := hbd.alloc hbd.size (.cells (cvs (.slice a n m) p1 c1 q1) 60)
  replace hR1 := hR1.alloc (.cells (cvs (.slice a n m) p1 c1 q1) 60)
  replace hR2 := hR2.alloc (.cells (cvs (.slice a n m) p1 c1 q1) 60)
  replace hC := hC.alloc (.cells (cvs (.slice a n m) p1 c1 q1) 60)
  have hD := Blk.new w1 (cvs (.slice a n m) p1 c1 q1) 60
  clear hs1 hst hb1
  obtain ⟨d0, d1, d2, d3⟩ := hD.c4
  obtain ⟨kk0, kk1, kk2, kk3⟩ := hC.c4
  by_cases hc1 : c1 = 0
  · have hcb : (c1 != 0) = false := by simpa using hc1
    subst hc1
    have hm0 : 0 ≤ x % 2 ∧ x % 2 < 2 := by omega
    by_cases hcp : x % 2 = 1
    · have hcb1 : (x % 2 == 0) = false := by simp; omega
      have HV : Hid (hdv x = (true, x / 2 + 4)) := Lib.hid (by unfold hdv; rw [if_pos hcp])
      by_cases hbig : 1048572 < x / 2
      · have HF : Hid (∀ c2 q2, FailSt 0 q1 2 p c2 q2 → St tk0 n (tr z p) p c q tk0 p1 c2 q2) := Lib.hid fun c2 q2 hf => tr_long HS.out (by rw [HV.out]; show 1048576 < x / 2 + 4; omega) hf
        clear hcp hm0 HS HV
        go_wp2_with fail
        refine (rfail_any _ _ _ _ _ _ _ _ _).mono ?_
        rintro e w2 ⟨c2, q2, rfl, hb2, hf⟩
        have HE := Lib.hid (HF.out _ _ hf)
        replace hR1 := hR1.below hb2
        replace hR2 := hR2.below hb2
        replace hbd := hbd.trans (hb2.mono hbd.size)
        clear hf hb2 hC hD d0 d1 d2 d3 kk0 kk1 kk2 kk3
        obtain ⟨r0, r1, r2, r3⟩ := hR1.c4
        obtain ⟨g0, g1, g2, g3⟩ := hR1.f4
        obtain ⟨s0, s1, s2⟩ := hR2.c3
        have f0 := hR2.free 0
        have f1 := hR2.free 1
        have f2 := hR2.free 2
        have HOE := Lib.hid ((Own.nil w2 w2.heap.size))
        have HLE := Lib.hid ((hR2.lt))
        go_wp2
        refine bodyPost_ret (v := .tuple #[cv (.slice a n m) (p1) (c2) (q2), .agg #[Value.slice none 0 0, .int .i64 (0), .int .i64 (0)]]) (by simp [results, Try.results34, go_sem, r0, r1, r2, r3, s0, s1, s2]) rfl ⟨Value.slice none 0 0, ([], 0, 0), _, _, _, rfl, ?_, ?_, HE.out⟩
        · refine Own.base (B := w2.heap.size) ?_ (fun g hg => by have := Own.ge HOE.out g hg; have := HLE.out; omega)
          iterate 7 (refine Own.far ?_ (by have := HLE.out; simp <;> omega) _)
          exact HOE.out
        · iterate 7 (refine Below.setCell ?_ (by simp; try omega) _)
          exact hbd
      · have HH : Hid (St (false, 0) n (hd z p) p c q (true, x / 2 + 4) p1 0 q1) := Lib.hid (by have := hd_ok HS.out (by rw [HV.out]; show ¬ 1048576 < x / 2 + 4; omega); rw [HV.out] at this; exact this)
        clear hcp hm0 HS HV
        have e3 : IntKind.i64.wrap (x / 2) = x / 2 := IntWalk.i64_in _ (by omega)
        have e4 : IntKind.i64.wrap (x / 2 + 4) = x / 2 + 4 := IntWalk.i64_in _ (by omega)
        go_wp2_with fail
        refine (rread_any _ _ _ _ _ _ _ _ (hz.below hbd) p10 p11 hm hn HBY.out).mono ?_
        rintro e w2 ⟨y, p2, c2, q2, rfl, hb2, hs2⟩
        have hst2 := hs2.st hz.1 p10 p11 HBY.out
        obtain ⟨y0, y1⟩ := rd_lt hs2 hz.1 p10 p11 HBY.out
        have HS2 := Lib.hid hst2
        have HT : Hid (∀ u c3 q3, St 0 n (ofs z p1) p1 0 q1 u p2 c3 q3 → St tk0 n (tr z p) p c q (if c3 = 0 then ([], u, x / 2 + 4) else tk0) p2 c3 q3) := Lib.hid (fun u c3 q3 h => HH.out.bind (f := trb z) (by rw [trb_cpy]; exact h.fin (r := fun o => ([], o, x / 2 + 4))))
        replace hR1 := hR1.below hb2
        replace hR2 := hR2.below hb2
        replace hD := hD.below hb2
        replace hbd := hbd.trans (hb2.mono hbd.size)
        clear hb2 hC d0 d1 d2 d3 kk0 kk1 kk2 kk3 hs2 hst2 HH
        replace hbd := hbd.alloc hbd.size (.cells (cvs (.slice a n m) p2 c2 q2) 60)
        replace hR1 := hR1.alloc (.cells (cvs (.slice a n m) p2 c2 q2) 60)
        replace hR2 := hR2.alloc (.cells (cvs (.slice a n m) p2 c2 q2) 60)
        replace hD := hD.alloc (.cells (cvs (.slice a n m) p2 c2 q2) 60)
        have hE := Blk.new w2 (cvs (.slice a n m) p2 c2 q2) 60
        obtain ⟨d0, d1, d2, d3⟩ := hD.c4
        obtain ⟨kk0, kk1, kk2, kk3⟩ := hE.c4
        by_cases hc2 : c2 = 0
        · have hcb2 : (c2 != 0) = false := by simpa using hc2
          by_cases hbig2 : 65535 < y
          · have HF : Hid (∀ c3 q3, FailSt c2 q2 10 p1 c3 q3 → St tk0 n (tr z p) p c q tk0 p2 c3 q3) := Lib.hid fun c3 q3 hf => by
              have := HT.out 0 c3 q3 (HS2.out.test (bad := fun x => 65535 < x) (r := fun x => x + 1) (by decide) (.inl ⟨hbig2, rfl, hf⟩))
              rw [if_neg (hf.ne (by decide))] at this
              exact this
            clear hc2 HT HS2
            go_wp2_with fail
            refine (rfail_any _ _ _ _ _ _ _ _ _).mono ?_
            rintro e w3 ⟨c3, q3, rfl, hb3, hf⟩
            have HE := Lib.hid (HF.out _ _ hf)
            replace hR1 := hR1.below hb3
            replace hR2 := hR2.below hb3
            replace hbd := hbd.trans (hb3.mono hbd.size)
            clear hf hb3 hE hD d0 d1 d2 d3 kk0 kk1 kk2 kk3
            obtain ⟨r0, r1, r2, r3⟩ := hR1.c4
            obtain ⟨g0, g1, g2, g3⟩ := hR1.f4
            obtain ⟨s0, s1, s2⟩ := hR2.c3
            have f0 := hR2.free 0
            have f1 := hR2.free 1
            have f2 := hR2.free 2
            have HOE := Lib.hid ((Own.nil w3 w3.heap.size))
            have HLE := Lib.hid ((hR2.lt))
            go_wp2
            refine bodyPost_ret (v := .tuple #[cv (.slice a n m) (p2) (c3) (q3), .agg #[Value.slice none 0 0, .int .i64 (0), .int .i64 (0)]]) (by simp [results, Try.results34, go_sem, r0, r1, r2, r3, s0, s1, s2]) rfl ⟨Value.slice none 0 0, ([], 0, 0), _, _, _, rfl, ?_, ?_, HE.out⟩
            · refine Own.base (B := w3.heap.size) ?_ (fun g hg => by have := Own.ge HOE.out g hg; have := HLE.out; omega)
              iterate 7 (refine Own.far ?_ (by have := HLE.out; simp <;> omega) _)
              exact HOE.out
            · iterate 7 (refine Below.setCell ?_ (by simp; try omega) _)
              exact hbd
          · have e5 : IntKind.i64.wrap y = y := IntWalk.i64_in _ (by omega)
            have e6 : IntKind.i64.wrap (y + 1) = y + 1 := IntWalk.i64_in _ (by omega)
            have HE : Hid (St tk0 n (tr z p) p c q ([], y + 1, x / 2 + 4) p2 c2 q2) := Lib.hid (by
              have := HT.out (y + 1) c2 q2 (HS2.out.test (bad := fun x => 65535 < x) (r := fun x => x + 1) (C := 10) (P := p1) (by decide) (.inr ⟨hbig2, by rw [if_pos hc2], rfl, rfl⟩))
              rw [if_pos hc2] at this
              exact this)
            have hlw := hR2.lt
            clear hc2 HT HS2 hD hE
            obtain ⟨r0, r1, r2, r3⟩ := hR1.c4
            obtain ⟨g0, g1, g2, g3⟩ := hR1.f4
            obtain ⟨s0, s1, s2⟩ := hR2.c3
            have f0 := hR2.free 0
            have f1 := hR2.free 1
            have f2 := hR2.free 2
            have HOE := Lib.hid ((Own.nil (w2.alloc (.cells (cvs (.slice a n m) p2 c2 q2) 60)) (w.heap.size + 1 + 1 + 1)))
            have HLE := Lib.hid ((Nat.lt_succ_self (w.heap.size + 1 + 1)))
            go_wp2
            refine bodyPost_ret (v := .tuple #[cv (.slice a n m) (p2) (c2) (q2), .agg #[Value.slice none 0 0, .int .i64 (y + 1), .int .i64 (x / 2 + 4)]]) (by simp [results, Try.results34, go_sem, r0, r1, r2, r3, s0, s1, s2]) rfl ⟨Value.slice none 0 0, ([], y + 1, x / 2 + 4), _, _, _, rfl, ?_, ?_, HE.out⟩
            · refine Own.base (B := w.heap.size + 1 + 1 + 1) ?_ (fun g hg => by have := Own.ge HOE.out g hg; have := HLE.out; omega)
              iterate 7 (refine Own.far ?_ (by have := HLE.out; simp <;> omega) _)
              exact HOE.out
            · iterate 7 (refine Below.setCell ?_ (by simp; try omega) _)
              exact hbd
        · have hcb2 : (c2 != 0) = true := by simpa using hc2
          have HE : Hid (St tk0 n (tr z p) p c q ([], 0, 0) p2 c2 q2) := Lib.hid (by
            have hy := HS2.out.nil hc2
            have := HT.out 0 c2 q2 (HS2.out.test (bad := fun x => 65535 < x) (r := fun x => x + 1) (C := 10) (P := p1) (by decide) (.inr ⟨by rw [hy]; decide, by rw [if_neg hc2], rfl, rfl⟩))
            rw [if_neg hc2] at this
            exact this)
          have hlw := hR2.lt
          clear hc2 HT HS2 hD d0 d1 d2 d3 hE
          obtain ⟨r0, r1, r2, r3⟩ := hR1.c4
          obtain ⟨g0, g1, g2, g3⟩ := hR1.f4
          obtain ⟨s0, s1, s2⟩ := hR2.c3
          have f0 := hR2.free 0
          have f1 := hR2.free 1
          have f2 := hR2.free 2
          have HOE := Lib.hid ((Own.nil (w2.alloc (.cells (cvs (.slice a n m) p2 c2 q2) 60)) (w.heap.size + 1 + 1 + 1)))
          have HLE := Lib.hid ((Nat.lt_succ_self (w.heap.size + 1 + 1)))
          go_wp2
          refine bodyPost_ret (v := .tuple #[cv (.slice a n m) (p2) (c2) (q2), .agg #[Value.slice none 0 0, .int .i64 (0), .int .i64 (0)]]) (by simp [results, Try.results34, go_sem, r0, r1, r2, r3, s0, s1, s2]) rfl ⟨Value.slice none 0 0, ([], 0, 0), _, _, _, rfl, ?_, ?_, HE.out⟩
          · refine Own.base (B := w.heap.size + 1 + 1 + 1) ?_ (fun g hg => by have := Own.ge HOE.out g hg; have := HLE.out; omega)
            iterate 7 (refine Own.far ?_ (by have := HLE.out; simp <;> omega) _)
            exact HOE.out
          · iterate 7 (refine Below.setCell ?_ (by simp; try omega) _)
            exact hbd
    · have hce : x % 2 = 0 := by omega
      have hcb1 : (x % 2 == 0) = true := by simpa using hce
      have HV : Hid (hdv x = (false, x / 2 + 1)) := Lib.hid (by unfold hdv; rw [if_neg hcp])
      have e2 : IntKind.u64.wrap (x / 2 + 1) = x / 2 + 1 := IntWalk.u64_in _ (by omega)
      by_cases hbig : 1048576 < x / 2 + 1
      · have HF : Hid (∀ c2 q2, FailSt 0 q1 2 p c2 q2 → St tk0 n (tr z p) p c q tk0 p1 c2 q2) := Lib.hid fun c2 q2 hf => tr_long HS.out (by rw [HV.out]; exact hbig) hf
        clear hcp hce hm0 HS HV
        go_wp2_with fail
        refine (rfail_any _ _ _ _ _ _ _ _ _).mono ?_
        rintro e w2 ⟨c2, q2, rfl, hb2, hf⟩
        have HE := Lib.hid (HF.out _ _ hf)
        replace hR1 := hR1.below hb2
        replace hR2 := hR2.below hb2
        replace hbd := hbd.trans (hb2.mono hbd.size)
        clear hf hb2 hC hD d0 d1 d2 d3 kk0 kk1 kk2 kk3
        obtain ⟨r0, r1, r2, r3⟩ := hR1.c4
        obtain ⟨g0, g1, g2, g3⟩ := hR1.f4
        obtain ⟨s0, s1, s2⟩ := hR2.c3
        have f0 := hR2.free 0
        have f1 := hR2.free 1
        have f2 := hR2.free 2
        have HOE := Lib.hid ((Own.nil w2 w2.heap.size))
        have HLE := Lib.hid ((hR2.lt))
        go_wp2
        refine bodyPost_ret (v := .tuple #[cv (.slice a n m) (p1) (c2) (q2), .agg #[Value.slice none 0 0, .int .i64 (0), .int .i64 (0)]]) (by simp [results, Try.results34, go_sem, r0, r1, r2, r3, s0, s1, s2]) rfl ⟨Value.slice none 0 0, ([], 0, 0), _, _, _, rfl, ?_, ?_, HE.out⟩
        · refine Own.base (B := w2.heap.size) ?_ (fun g hg => by have := Own.ge HOE.out g hg; have := HLE.out; omega)
          iterate 7 (refine Own.far ?_ (by have := HLE.out; simp <;> omega) _)
          exact HOE.out
        · iterate 7 (refine Below.setCell ?_ (by simp; try omega) _)
          exact hbd
      · have e3 : IntKind.i64.wrap (x / 2) = x / 2 := IntWalk.i64_in _ (by omega)
        have e4 : IntKind.i64.wrap (x / 2 + 1) = x / 2 + 1 := IntWalk.i64_in _ (by omega)
        have HH : Hid (St (false, 0) n (hd z p) p c q (false, x / 2 + 1) p1 0 q1) := Lib.hid (by have := hd_ok HS.out (by rw [HV.out]; exact hbig); rw [HV.out] at this; exact this)
        clear hcp hce hm0 HS HV
        go_wp2_with fail
        refine (rtake_own _ _ _ _ _ _ _ _ _ (hz.below hbd) HA.out p10 p11 hm hn).mono ?_
        rintro e w2 ⟨ok, p2, c2, q2, A2, k2, m2, rfl, hb2, hs2, ho2⟩
        have hst2 := hs2.st hz.1 p10 p11
        generalize (if ok = true then piece z p1.toNat (p1 + (x / 2 + 1)).toNat else []) = y at *
        have HT : Hid (St tk0 n (tr z p) p c q (if c2 = 0 then (y, 0, 0) else tk0) p2 c2 q2) := Lib.hid (HH.out.bind (f := trb z) (by rw [trb_run]; exact hst2.fin (r := fun y => (y, 0, 0))))
        have hlw : w.heap.size + 2 < (w1.alloc (.cells (cvs (.slice a n m) p1 0 q1) 60)).heap.size := hR2.lt
        replace hR1 := hR1.below hb2
        replace hR2 := hR2.below hb2
        replace hbd := hbd.trans (hb2.mono hbd.size)
        have hlw2 := hR2.lt
        clear hb2 hC hD d0 d1 d2 d3 kk0 kk1 kk2 kk3 hs2 hst2
        generalize (w1.alloc (.cells (cvs (.slice a n m) p1 0 q1) 60)).heap.size = B2 at *
        replace hbd := hbd.alloc hbd.size (.cells (cvs (.slice a n m) p2 c2 q2) 60)
        replace hR1 := hR1.alloc (.cells (cvs (.slice a n m) p2 c2 q2) 60)
        replace hR2 := hR2.alloc (.cells (cvs (.slice a n m) p2 c2 q2) 60)
        replace ho2 := ho2.below (below_one w2 (.cells (cvs (.slice a n m) p2 c2 q2) 60))
        have hD := Blk.new w2 (cvs (.slice a n m) p2 c2 q2) 60
        obtain ⟨d0, d1, d2, d3⟩ := hD.c4
        by_cases hc2 : c2 = 0
        · have hcb2 : (c2 != 0) = false := by simpa using hc2
          have HE : Hid (St tk0 n (tr z p) p c q (y, 0, 0) p2 c2 q2) := Lib.hid (by have := HT.out; rw [if_pos hc2] at this; exact this)
          clear hc2 HT
          obtain ⟨r0, r1, r2, r3⟩ := hR1.c4
          obtain ⟨g0, g1, g2, g3⟩ := hR1.f4
          obtain ⟨s0, s1, s2⟩ := hR2.c3
          have f0 := hR2.free 0
          have f1 := hR2.free 1
          have f2 := hR2.free 2
          have HOE := Lib.hid (ho2)
          have HLE := Lib.hid (hlw)
          go_wp2
          refine bodyPost_ret (v := .tuple #[cv (.slice a n m) (p2) (c2) (q2), .agg #[Value.slice A2 k2 m2, .int .i64 (0), .int .i64 (0)]]) (by simp [results, Try.results34, go_sem, r0, r1, r2, r3, s0, s1, s2]) rfl ⟨Value.slice A2 k2 m2, (y, 0, 0), _, _, _, rfl, ?_, ?_, HE.out⟩
          · refine Own.base (B := B2) ?_ (fun g hg => by have := Own.ge HOE.out g hg; have := HLE.out; omega)
            iterate 7 (refine Own.far ?_ (by have := HLE.out; simp <;> omega) _)
            exact HOE.out
          · iterate 7 (refine Below.setCell ?_ (by simp; try omega) _)
            exact hbd
        · have hcb2 : (c2 != 0) = true := by simpa using hc2
          have HE : Hid (St tk0 n (tr z p) p c q ([], 0, 0) p2 c2 q2) := Lib.hid (by have := HT.out; rw [if_neg hc2] at this; exact this)
          clear hc2 HT
          obtain ⟨r0, r1, r2, r3⟩ := hR1.c4
          obtain ⟨g0, g1, g2, g3⟩ := hR1.f4
          obtain ⟨s0, s1, s2⟩ := hR2.c3
          have f0 := hR2.free 0
          have f1 := hR2.free 1
          have f2 := hR2.free 2
          have HOE := Lib.hid ((Own.nil (w2.alloc (.cells (cvs (.slice a n m) p2 c2 q2) 60)) B2))
          have HLE := Lib.hid (hlw)
          go_wp2
          refine bodyPost_ret (v := .tuple #[cv (.slice a n m) (p2) (c2) (q2), .agg #[Value.slice none 0 0, .int .i64 (0), .int .i64 (0)]]) (by simp [results, Try.results34, go_sem, r0, r1, r2, r3, s0, s1, s2]) rfl ⟨Value.slice none 0 0, ([], 0, 0), _, _, _, rfl, ?_, ?_, HE.out⟩
          · refine Own.base (B := B2) ?_ (fun g hg => by have := Own.ge HOE.out g hg; have := HLE.out; omega)
            iterate 7 (refine Own.far ?_ (by have := HLE.out; simp <;> omega) _)
            exact HOE.out
          · iterate 7 (refine Below.setCell ?_ (by simp; try omega) _)
            exact hbd
  · have hcb : (c1 != 0) = true := by simpa using hc1
    have HE := Lib.hid (tr_bad HS.out hc1)
    clear hc1 HS
    obtain ⟨r0, r1, r2, r3⟩ := hR1.c4
    obtain ⟨g0, g1, g2, g3⟩ := hR1.f4
    obtain ⟨s0, s1, s2⟩ := hR2.c3
    have f0 := hR2.free 0
    have f1 := hR2.free 1
    have f2 := hR2.free 2
    have HOE := Lib.hid ((Own.nil (w1.alloc (.cells (cvs (.slice a n m) p1 c1 q1) 60)) w1.heap.size))
    have HLE := Lib.hid (hlt1)
    go_wp2
    refine bodyPost_ret (v := .tuple #[cv (.slice a n m) (p1) (c1) (q1), .agg #[Value.slice none 0 0, .int .i64 (0), .int .i64 (0)]]) (by simp [results, Try.results34, go_sem, r0, r1, r2, r3, s0, s1, s2]) rfl ⟨Value.slice none 0 0, ([], 0, 0), _, _, _, rfl, ?_, ?_, HE.out⟩
    · refine Own.base (B := w1.heap.size) ?_ (fun g hg => by have := Own.ge HOE.out g hg; have := HLE.out; omega)
      iterate 7 (refine Own.far ?_ (by have := HLE.out; simp <;> omega) _)
      exact HOE.out
    · iterate 7 (refine Below.setCell ?_ (by simp; try omega) _)
      exact hbd
end Go.Proofs.Ytklkflfdianbpaa.Cur
