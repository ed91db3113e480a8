/- As the seat's text, without what nothing here names. -/
import Derived.Test.YtmiimjgfainclaaGreatBdyFw
import Derived.Test.YtmiimjgfainclaaGreatK17w
import Derived.Test.YtmiimjgfainclaaGreatK35w
import Derived.Test.YtmiimjgfainclaaGreatK25w
import Derived.Test.YtmiimjgfainclaaGreatK26w
import Derived.Test.YtmiimjgfainclaaGreatK37w
namespace Go.Proofs.YtmiimjgfainclaaGreat.Cur
open Go.RowKit Mem
set_option linter.unusedVariables false
set_option linter.unusedSimpArgs false
set_option maxRecDepth 100000
theorem seal_neqw (x y z a b c : Int) (w : World) : (binOp .neq 27 (.agg #[.int .u64 x, .int .u64 y, .int .u64 z]) (.agg #[.int .u64 a, .int .u64 b, .int .u64 c])).run Tryz.prog w = .ok (.bool (!decide (((x, y, z) : Sl3) = (a, b, c)))) w := by
  have u3 := Tryz.underlying22
  have hS : Tryz.prog.underlying 27 = some (.struct (Tryz.prog.fieldsOf 27)) := by kernel_rfl
  rw [run_neq_struct, show (10000 : Nat) = 9999 + 1 from rfl, run_equalIn_agg w 9999 27 _ _ hS (by kernel_rfl)]
  simp only [Program.fieldsOf, Tryz.underlying27]
  go_simp
  by_cases h1 : x = a <;> by_cases h2 : y = b <;> by_cases h3 : z = c <;> simp [h1, h2, h3]
def msame (M N : Ms) : Bool :=
  (M.k == N.k) && ((M.e == N.e) && ((M.q == N.q) && ((M.p == N.p) && ((M.c == N.c) && ((M.t == N.t) && (decide (((M.s.1, M.s.2.1, M.s.2.2) : Sl3) = (N.s.1, N.s.2.1, N.s.2.2)) &&
    (decide (M.S = N.S) && (decide (M.L = N.L) && (decide (M.D = N.D) && decide ((M.u, M.P) = (N.u, N.P)))))))))))
theorem msame_def (M N : Ms) : msame M N = (
  (M.k == N.k) && ((M.e == N.e) && ((M.q == N.q) && ((M.p == N.p) && ((M.c == N.c) && ((M.t == N.t) && (decide (((M.s.1, M.s.2.1, M.s.2.2) : Sl3) = (N.s.1, N.s.2.1, N.s.2.2)) &&
    (decide (M.S = N.S) && (decide (M.L = N.L) && (decide (M.D = N.D) && decide ((M.u, M.P) = (N.u, N.P)))))))))))) := rfl
theorem msame_self (M : Ms) : msame M M = true := by simp [msame]
set_option maxHeartbeats 4000000 in
theorem same28_any (Q R : Nat → Prop) (M N : Ms) (a b : Ma) (w : World) (hm : MsIn w Q M a) (hn : MsIn w R N b) (hS1 : M.S.length ≤ 1000000) (hS2 : N.S.length ≤ 1000000) (hL1 : M.L.length ≤ 1000000) (hL2 : N.L.length ≤ 1000000) (hP1 : M.P.length ≤ 1000000) (hP2 : N.P.length ≤ 1000000)
    (hl1 : blen 1000000 M.L) (hl2 : blen 1000000 N.L) (hp1 : plen 1000000 M.P) (hp2 : plen 1000000 N.P) :
    Calls Tryz.prog 16 #[msagg M a, msagg N b] w (BPost (.bool (msame M N)) w) := by
  have hX := (Blk.new w (msc M a) 32).alloc (.cells (msc N b) 32)
  have hY := Blk.new (w.alloc (.cells (msc M a) 32)) (msc N b) 32
  rw [show (w.alloc (.cells (msc M a) 32)).heap.size = w.heap.size + 1 by simp] at hY
  have hbd := below_two w (.cells (msc M a) 32) (.cells (msc N b) 32)
  have HX := Lib.hid hX
  have HY := Lib.hid hY
  have HM := Lib.hid (hm.below hbd)
  have HN := Lib.hid (hn.below hbd)
  have HB := Lib.hid hbd
  obtain ⟨⟨x0, x1, x2, x3, x4, x5, x6⟩, x7, x8, x9, x10, x11, x12, x13⟩ := ms_cells hX
  obtain ⟨⟨y0, y1, y2, y3, y4, y5, y6⟩, y7, y8, y9, y10, y11, y12, y13⟩ := ms_cells hY
  unfold BPost
  have HV := Lib.hid (msame_def M N)
  have hse := fun w' => seal_eqw M.s.1 M.s.2.1 M.s.2.2 N.s.1 N.s.2.1 N.s.2.2 w'
  have hsn := fun w' => seal_neqw M.s.1 M.s.2.1 M.s.2.2 N.s.1 N.s.2.1 N.s.2.2 w'
  generalize decide (((M.s.1, M.s.2.1, M.s.2.2) : Sl3) = (N.s.1, N.s.2.1, N.s.2.2)) = sl at *
  clear hm hn hX hY hbd
  have hcD := fun w' (h : Below ((w.alloc (.cells (msc M a) 32)).alloc (.cells (msc N b) 32)).heap.size ((w.alloc (.cells (msc M a) 32)).alloc (.cells (msc N b) 32)) w') => bequal_any a.A3 b.A3 M.D.length N.D.length a.m3 b.m3 M.D N.D w' (HM.out.below h).bs (HN.out.below h).bs HM.out.db HN.out.db
  have hcS := sequal_any a.A1 b.A1 M.S.length N.S.length a.m1 b.m1 M.S N.S _ HM.out.us HN.out.us hS1 hS2
  have hcL := fun w' (h : Below ((w.alloc (.cells (msc M a) 32)).alloc (.cells (msc N b) 32)).heap.size ((w.alloc (.cells (msc M a) 32)).alloc (.cells (msc N b) 32)) w') => lsame_any _ _ a.A2 b.A2 M.L.length N.L.length a.m2 b.m2 M.L N.L w' (HM.out.below h).lks (HN.out.below h).lks hL1 hL2 hl1 hl2
  have hcP := fun w' (h : Below ((w.alloc (.cells (msc M a) 32)).alloc (.cells (msc N b) 32)).heap.size ((w.alloc (.cells (msc M a) 32)).alloc (.cells (msc N b) 32)) w') => prsame_any _ _ M.u a.A4 M.P.length a.m4 M.P N.u b.A4 N.P.length b.m4 N.P w' (HM.out.below h).pts (HN.out.below h).pts hP1 hP2 hp1 hp2
  unfold BPost at hcS hcL hcP
  generalize decide (M.S = N.S) = bS at *
  generalize decide (M.L = N.L) = bL at *
  generalize decide (M.D = N.D) = bD at *
  generalize decide ((M.u, M.P) = (N.u, N.P)) = bP at *
  generalize msame M N = V at *
  clear hS1 hS2 hL1 hL2 hP1 hP2 hl1 hl2 hp1 hp2
  by_cases h : M.k = N.k
  case neg =>
    have f1 : (M.k == N.k) = false := by simpa using h
    have f2 : (M.k != N.k) = true := by simpa using h
    rw [f1, Bool.false_and] at HV
    clear h hcS hcL hcD hcP
    go_enter Tryz.func16, Tryz.ntmps16
    go_wp2
    go_ret
    exact ⟨by rw [HV.out]; rfl, HB.out⟩
  have fk1 : (M.k == N.k) = true := by simpa using h
  have fk2 : (M.k != N.k) = false := by simpa using h
  rw [fk1, Bool.true_and] at HV
  clear h
  by_cases h : M.e = N.e
  case neg =>
    have f1 : (M.e == N.e) = false := by simpa using h
    have f2 : (M.e != N.e) = true := by simpa using h
    rw [f1, Bool.false_and] at HV
    clear h hcS hcL hcD hcP
    go_enter Tryz.func16, Tryz.ntmps16
    go_wp2
    go_ret
    exact ⟨by rw [HV.out]; rfl, HB.out⟩
  have fe1 : (M.e == N.e) = true := by simpa using h
  have fe2 : (M.e != N.e) = false := by simpa using h
  rw [fe1, Bool.true_and] at HV
  clear h
  by_cases h : M.q = N.q
  case neg =>
    have f1 : (M.q == N.q) = false := by simpa using h
    have f2 : (M.q != N.q) = true := by simpa using h
    rw [f1, Bool.false_and] at HV
    clear h hcS hcL hcD hcP
    go_enter Tryz.func16, Tryz.ntmps16
    go_wp2
    go_ret
    exact ⟨by rw [HV.out]; rfl, HB.out⟩
  have fq1 : (M.q == N.q) = true := by simpa using h
  have fq2 : (M.q != N.q) = false := by simpa using h
  rw [fq1, Bool.true_and] at HV
  clear h
  by_cases h : M.p = N.p
  case neg =>
    have f1 : (M.p == N.p) = false := by simpa using h
    have f2 : (M.p != N.p) = true := by simpa using h
    rw [f1, Bool.false_and] at HV
    clear h hcS hcL hcD hcP
    go_enter Tryz.func16, Tryz.ntmps16
    go_wp2
    go_ret
    exact ⟨by rw [HV.out]; rfl, HB.out⟩
  have fp1 : (M.p == N.p) = true := by simpa using h
  have fp2 : (M.p != N.p) = false := by simpa using h
  rw [fp1, Bool.true_and] at HV
  clear h
  by_cases h : M.c = N.c
  case neg =>
    have f1 : (M.c == N.c) = false := by simpa using h
    have f2 : (M.c != N.c) = true := by simpa using h
    rw [f1, Bool.false_and] at HV
    clear h hcS hcL hcD hcP
    go_enter Tryz.func16, Tryz.ntmps16
    go_wp2
    go_ret
    exact ⟨by rw [HV.out]; rfl, HB.out⟩
  have fc1 : (M.c == N.c) = true := by simpa using h
  have fc2 : (M.c != N.c) = false := by simpa using h
  rw [fc1, Bool.true_and] at HV
  clear h
  by_cases h : M.t = N.t
  case neg =>
    have f1 : (M.t == N.t) = false := by simpa using h
    have f2 : (M.t != N.t) = true := by simpa using h
    rw [f1, Bool.false_and] at HV
    clear h hcS hcL hcD hcP
    go_enter Tryz.func16, Tryz.ntmps16
    go_wp2
    go_ret
    exact ⟨by rw [HV.out]; rfl, HB.out⟩
  have ft1 : (M.t == N.t) = true := by simpa using h
  have ft2 : (M.t != N.t) = false := by simpa using h
  rw [ft1, Bool.true_and] at HV
  clear h
  cases sl
  case false =>
    rw [Bool.false_and] at HV
    clear hcS hcL hcD hcP
    go_enter Tryz.func16, Tryz.ntmps16
    go_wp2
    go_ret
    exact ⟨by rw [HV.out]; rfl, HB.out⟩
  rw [Bool.true_and] at HV
  have HCL := Lib.hid hcL
  have HCD := Lib.hid hcD
  have HCP := Lib.hid hcP
  clear hcL hcD hcP
  go_enter Tryz.func16, Tryz.ntmps16
  go_wp2_with fail
  generalize (w.alloc (.cells (msc M a) 32)).alloc (.cells (msc N b) 32) = w0 at *
  refine hcS.mono ?_
  rintro e w1 ⟨rfl, hb1⟩
  clear x0 x1 x2 x3 x4 x5 x6 x7 x8 x9 x10 x11 x12 x13 y0 y1 y2 y3 y4 y5 y6 y7 y8 y9 y10 y11 y12 y13
  obtain ⟨⟨x0, x1, x2, x3, x4, x5, x6⟩, x7, x8, x9, x10, x11, x12, x13⟩ := ms_cells (HX.out.below hb1)
  obtain ⟨⟨y0, y1, y2, y3, y4, y5, y6⟩, y7, y8, y9, y10, y11, y12, y13⟩ := ms_cells (HY.out.below hb1)
  cases bS
  case false =>
    rw [Bool.false_and] at HV
    go_wp2
    go_ret
    exact ⟨by rw [HV.out]; rfl, HB.out.trans (hb1.mono HB.out.size)⟩
  rw [Bool.true_and] at HV
  have hcL := HCL.out w1 hb1
  have HB1 := Lib.hid hb1
  clear hb1 HCL
  go_wp2_with fail
  refine hcL.mono ?_
  rintro e w2 ⟨rfl, hb2⟩
  have HB2 := Lib.hid (HB1.out.trans (hb2.mono HB1.out.size))
  clear x0 x1 x2 x3 x4 x5 x6 x7 x8 x9 x10 x11 x12 x13 y0 y1 y2 y3 y4 y5 y6 y7 y8 y9 y10 y11 y12 y13
  obtain ⟨⟨x0, x1, x2, x3, x4, x5, x6⟩, x7, x8, x9, x10, x11, x12, x13⟩ := ms_cells (HX.out.below HB2.out)
  obtain ⟨⟨y0, y1, y2, y3, y4, y5, y6⟩, y7, y8, y9, y10, y11, y12, y13⟩ := ms_cells (HY.out.below HB2.out)
  clear hb2 HB1 hcL
  cases bL
  case false =>
    rw [Bool.false_and] at HV
    go_wp2
    go_ret
    exact ⟨by rw [HV.out]; rfl, HB.out.trans (HB2.out.mono HB.out.size)⟩
  rw [Bool.true_and] at HV
  have hcD := HCD.out w2 HB2.out
  clear HCD
  go_wp2_with fail
  refine hcD.mono ?_
  rintro e w3 ⟨rfl, rfl⟩
  clear hcD
  cases bD
  case false =>
    rw [Bool.false_and] at HV
    go_wp2
    go_ret
    exact ⟨by rw [HV.out]; rfl, HB.out.trans (HB2.out.mono HB.out.size)⟩
  rw [Bool.true_and] at HV
  have hcP := HCP.out w2 HB2.out
  clear HCP
  go_wp2_with fail
  refine hcP.mono ?_
  rintro e w4 ⟨rfl, hb4⟩
  have HB4 := Lib.hid (HB2.out.trans (hb4.mono HB2.out.size))
  clear hb4 hcP
  clear x0 x1 x2 x3 x4 x5 x6 x7 x8 x9 x10 x11 x12 x13 y0 y1 y2 y3 y4 y5 y6 y7 y8 y9 y10 y11 y12 y13
  go_wp2
  go_ret
  exact ⟨by rw [HV.out]; rfl, HB.out.trans (HB4.out.mono HB.out.size)⟩
set_option maxHeartbeats 4000000 in
theorem rsame28_any (Q R : Nat → Prop) (M N : Ms) (a b : Ma) (w : World) (hm : MsIn w Q M a) (hn : MsIn w R N b) (hS1 : M.S.length ≤ 1000000) (hS2 : N.S.length ≤ 1000000) (hL1 : M.L.length ≤ 1000000) (hL2 : N.L.length ≤ 1000000) (hP1 : M.P.length ≤ 1000000) (hP2 : N.P.length ≤ 1000000)
    (hl1 : blen 1000000 M.L) (hl2 : blen 1000000 N.L) (hp1 : plen 1000000 M.P) (hp2 : plen 1000000 N.P) :
    Calls Tryz.prog 17 #[msagg M a, msagg N b] w (BPost (.bool (msame M N)) w) := by
  have hX := (Blk.new w (msc M a) 32).alloc (.cells (msc N b) 32)
  have hY := Blk.new (w.alloc (.cells (msc M a) 32)) (msc N b) 32
  rw [show (w.alloc (.cells (msc M a) 32)).heap.size = w.heap.size + 1 by simp] at hY
  have hbd := below_two w (.cells (msc M a) 32) (.cells (msc N b) 32)
  have HX := Lib.hid hX
  have HY := Lib.hid hY
  have HM := Lib.hid (hm.below hbd)
  have HN := Lib.hid (hn.below hbd)
  have HB := Lib.hid hbd
  obtain ⟨⟨x0, x1, x2, x3, x4, x5, x6⟩, x7, x8, x9, x10, x11, x12, x13⟩ := ms_cells hX
  obtain ⟨⟨y0, y1, y2, y3, y4, y5, y6⟩, y7, y8, y9, y10, y11, y12, y13⟩ := ms_cells hY
  unfold BPost
  have HV := Lib.hid (msame_def M N)
  have hse := fun w' => seal_eqw M.s.1 M.s.2.1 M.s.2.2 N.s.1 N.s.2.1 N.s.2.2 w'
  have hsn := fun w' => seal_neqw M.s.1 M.s.2.1 M.s.2.2 N.s.1 N.s.2.1 N.s.2.2 w'
  generalize decide (((M.s.1, M.s.2.1, M.s.2.2) : Sl3) = (N.s.1, N.s.2.1, N.s.2.2)) = sl at *
  clear hm hn hX hY hbd
  have hcD := fun w' (h : Below ((w.alloc (.cells (msc M a) 32)).alloc (.cells (msc N b) 32)).heap.size ((w.alloc (.cells (msc M a) 32)).alloc (.cells (msc N b) 32)) w') => bsame_any a.A3 b.A3 M.D.length N.D.length a.m3 b.m3 M.D N.D w' (HM.out.below h).bs (HN.out.below h).bs HM.out.db HN.out.db
  have hcS := rsame5_gen a.A1 b.A1 M.S.length N.S.length a.m1 b.m1 M.S N.S _ HM.out.us HN.out.us hS1 hS2
  have hcL := fun w' (h : Below ((w.alloc (.cells (msc M a) 32)).alloc (.cells (msc N b) 32)).heap.size ((w.alloc (.cells (msc M a) 32)).alloc (.cells (msc N b) 32)) w') => rlsame_any _ _ a.A2 b.A2 M.L.length N.L.length a.m2 b.m2 M.L N.L w' (HM.out.below h).lks (HN.out.below h).lks hL1 hL2 hl1 hl2
  have hcP := fun w' (h : Below ((w.alloc (.cells (msc M a) 32)).alloc (.cells (msc N b) 32)).heap.size ((w.alloc (.cells (msc M a) 32)).alloc (.cells (msc N b) 32)) w') => rprsame_any _ _ M.u a.A4 M.P.length a.m4 M.P N.u b.A4 N.P.length b.m4 N.P w' (HM.out.below h).pts (HN.out.below h).pts hP1 hP2 hp1 hp2
  unfold BPost at hcS hcL hcP
  generalize decide (M.S = N.S) = bS at *
  generalize decide (M.L = N.L) = bL at *
  generalize decide (M.D = N.D) = bD at *
  generalize decide ((M.u, M.P) = (N.u, N.P)) = bP at *
  generalize msame M N = V at *
  clear hS1 hS2 hL1 hL2 hP1 hP2 hl1 hl2 hp1 hp2
  by_cases h : M.k = N.k
  case neg =>
    have f1 : (M.k == N.k) = false := by simpa using h
    have f2 : (M.k != N.k) = true := by simpa using h
    rw [f1, Bool.false_and] at HV
    clear h hcS hcL hcD hcP
    go_enter Tryz.func17, Tryz.ntmps17
    go_wp2
    go_ret
    exact ⟨by rw [HV.out]; rfl, HB.out⟩
  have fk1 : (M.k == N.k) = true := by simpa using h
  have fk2 : (M.k != N.k) = false := by simpa using h
  rw [fk1, Bool.true_and] at HV
  clear h
  by_cases h : M.e = N.e
  case neg =>
    have f1 : (M.e == N.e) = false := by simpa using h
    have f2 : (M.e != N.e) = true := by simpa using h
    rw [f1, Bool.false_and] at HV
    clear h hcS hcL hcD hcP
    go_enter Tryz.func17, Tryz.ntmps17
    go_wp2
    go_ret
    exact ⟨by rw [HV.out]; rfl, HB.out⟩
  have fe1 : (M.e == N.e) = true := by simpa using h
  have fe2 : (M.e != N.e) = false := by simpa using h
  rw [fe1, Bool.true_and] at HV
  clear h
  by_cases h : M.q = N.q
  case neg =>
    have f1 : (M.q == N.q) = false := by simpa using h
    have f2 : (M.q != N.q) = true := by simpa using h
    rw [f1, Bool.false_and] at HV
    clear h hcS hcL hcD hcP
    go_enter Tryz.func17, Tryz.ntmps17
    go_wp2
    go_ret
    exact ⟨by rw [HV.out]; rfl, HB.out⟩
  have fq1 : (M.q == N.q) = true := by simpa using h
  have fq2 : (M.q != N.q) = false := by simpa using h
  rw [fq1, Bool.true_and] at HV
  clear h
  by_cases h : M.p = N.p
  case neg =>
    have f1 : (M.p == N.p) = false := by simpa using h
    have f2 : (M.p != N.p) = true := by simpa using h
    rw [f1, Bool.false_and] at HV
    clear h hcS hcL hcD hcP
    go_enter Tryz.func17, Tryz.ntmps17
    go_wp2
    go_ret
    exact ⟨by rw [HV.out]; rfl, HB.out⟩
  have fp1 : (M.p == N.p) = true := by simpa using h
  have fp2 : (M.p != N.p) = false := by simpa using h
  rw [fp1, Bool.true_and] at HV
  clear h
  by_cases h : M.c = N.c
  case neg =>
    have f1 : (M.c == N.c) = false := by simpa using h
    have f2 : (M.c != N.c) = true := by simpa using h
    rw [f1, Bool.false_and] at HV
    clear h hcS hcL hcD hcP
    go_enter Tryz.func17, Tryz.ntmps17
    go_wp2
    go_ret
    exact ⟨by rw [HV.out]; rfl, HB.out⟩
  have fc1 : (M.c == N.c) = true := by simpa using h
  have fc2 : (M.c != N.c) = false := by simpa using h
  rw [fc1, Bool.true_and] at HV
  clear h
  by_cases h : M.t = N.t
  case neg =>
    have f1 : (M.t == N.t) = false := by simpa using h
    have f2 : (M.t != N.t) = true := by simpa using h
    rw [f1, Bool.false_and] at HV
    clear h hcS hcL hcD hcP
    go_enter Tryz.func17, Tryz.ntmps17
    go_wp2
    go_ret
    exact ⟨by rw [HV.out]; rfl, HB.out⟩
  have ft1 : (M.t == N.t) = true := by simpa using h
  have ft2 : (M.t != N.t) = false := by simpa using h
  rw [ft1, Bool.true_and] at HV
  clear h
  cases sl
  case false =>
    rw [Bool.false_and] at HV
    clear hcS hcL hcD hcP
    go_enter Tryz.func17, Tryz.ntmps17
    go_wp2
    go_ret
    exact ⟨by rw [HV.out]; rfl, HB.out⟩
  rw [Bool.true_and] at HV
  have HCL := Lib.hid hcL
  have HCD := Lib.hid hcD
  have HCP := Lib.hid hcP
  clear hcL hcD hcP
  go_enter Tryz.func17, Tryz.ntmps17
  go_wp2_with fail
  generalize (w.alloc (.cells (msc M a) 32)).alloc (.cells (msc N b) 32) = w0 at *
  refine hcS.mono ?_
  rintro e w1 ⟨rfl, hb1⟩
  clear x0 x1 x2 x3 x4 x5 x6 x7 x8 x9 x10 x11 x12 x13 y0 y1 y2 y3 y4 y5 y6 y7 y8 y9 y10 y11 y12 y13
  obtain ⟨⟨x0, x1, x2, x3, x4, x5, x6⟩, x7, x8, x9, x10, x11, x12, x13⟩ := ms_cells (HX.out.below hb1)
  obtain ⟨⟨y0, y1, y2, y3, y4, y5, y6⟩, y7, y8, y9, y10, y11, y12, y13⟩ := ms_cells (HY.out.below hb1)
  cases bS
  case false =>
    rw [Bool.false_and] at HV
    go_wp2
    go_ret
    exact ⟨by rw [HV.out]; rfl, HB.out.trans (hb1.mono HB.out.size)⟩
  rw [Bool.true_and] at HV
  have hcL := HCL.out w1 hb1
  have HB1 := Lib.hid hb1
  clear hb1 HCL
  go_wp2_with fail
  refine hcL.mono ?_
  rintro e w2 ⟨rfl, hb2⟩
  have HB2 := Lib.hid (HB1.out.trans (hb2.mono HB1.out.size))
  clear x0 x1 x2 x3 x4 x5 x6 x7 x8 x9 x10 x11 x12 x13 y0 y1 y2 y3 y4 y5 y6 y7 y8 y9 y10 y11 y12 y13
  obtain ⟨⟨x0, x1, x2, x3, x4, x5, x6⟩, x7, x8, x9, x10, x11, x12, x13⟩ := ms_cells (HX.out.below HB2.out)
  obtain ⟨⟨y0, y1, y2, y3, y4, y5, y6⟩, y7, y8, y9, y10, y11, y12, y13⟩ := ms_cells (HY.out.below HB2.out)
  clear hb2 HB1 hcL
  cases bL
  case false =>
    rw [Bool.false_and] at HV
    go_wp2
    go_ret
    exact ⟨by rw [HV.out]; rfl, HB.out.trans (HB2.out.mono HB.out.size)⟩
  rw [Bool.true_and] at HV
  have hcD := HCD.out w2 HB2.out
  clear HCD
  go_wp2_with fail
  refine hcD.mono ?_
  rintro e w3 ⟨rfl, rfl⟩
  clear hcD
  cases bD
  case false =>
    rw [Bool.false_and] at HV
    go_wp2
    go_ret
    exact ⟨by rw [HV.out]; rfl, HB.out.trans (HB2.out.mono HB.out.size)⟩
  rw [Bool.true_and] at HV
  have hcP := HCP.out w2 HB2.out
  clear HCP
  go_wp2_with fail
  refine hcP.mono ?_
  rintro e w4 ⟨rfl, hb4⟩
  have HB4 := Lib.hid (HB2.out.trans (hb4.mono HB2.out.size))
  clear hb4 hcP
  clear x0 x1 x2 x3 x4 x5 x6 x7 x8 x9 x10 x11 x12 x13 y0 y1 y2 y3 y4 y5 y6 y7 y8 y9 y10 y11 y12 y13
  go_wp2
  go_ret
  exact ⟨by rw [HV.out]; rfl, HB.out.trans (HB4.out.mono HB.out.size)⟩
end Go.Proofs.YtmiimjgfainclaaGreat.Cur
