/- As the seat's text, without what nothing here names. -/
import Derived.Test.YtmiimjgfainclaaGreatBdyGw
import Derived.Test.YtmiimjgfainclaaGreatK14w
import Derived.Test.YtmiimjgfainclaaGreatK35w
import Derived.Test.YtmiimjgfainclaaGreatK25w
import Derived.Test.YtmiimjgfainclaaGreatK26w
namespace Go.Proofs.YtmiimjgfainclaaGreat.Cur
open Go.RowKit Mem
set_option linter.unusedVariables false
set_option linter.unusedSimpArgs false
set_option maxRecDepth 100000
abbrev mz0 : Array Value := #[.int .i64 0, .int .u64 0, .int .u64 0, .int .u64 0, .int .i64 0, .int .i64 0, .slice none 0 0, .slice none 0 0, .slice none 0 0, .int .u64 0, .int .u64 0, .int .u64 0, .int .u64 0, .slice none 0 0]
def MCpPost (M : Ms) (w : World) (e : Ending) (w' : World) : Prop := ∃ a', e = .returned (msagg M a') ∧ Below w.heap.size w w' ∧ MsIn w' (fun b => w.heap.size ≤ b) M a'
theorem Sq.ks {α : Type} {E : El α} {S : Nat → Prop} {w w' : World} {P : Nat → Prop} {A : Option Addr} {z : List α} (h : Sq E w P A z) (k : Ks S w w') (hd : ∀ b, P b → ¬ S b) : Sq E w' P A z := h.keep fun b hb hl => k.block b hl (hd b hb)
def put14 (w : World) (x : Nat) (v0 v1 v2 v3 v4 v5 v6 v7 v8 v9 v10 v11 v12 v13 : Value) : World :=
  (((((((((((((((w.setCell ⟨x, 0, none⟩ v0).setCell ⟨x, 1, none⟩ v1).setCell ⟨x, 2, none⟩ v2).setCell ⟨x, 3, none⟩ v3).setCell ⟨x, 4, none⟩ v4).setCell ⟨x, 5, none⟩ v5).setCell ⟨x, 6, none⟩ v6).setCell ⟨x, 7, none⟩ v7).setCell ⟨x, 8, none⟩ v8).setCell ⟨x, 9, none⟩ v9).setCell ⟨x, 10, none⟩ v10).setCell ⟨x, 11, none⟩ v11).setCell ⟨x, 12, none⟩ v12).setCell ⟨x, 13, none⟩ v13))
set_option maxHeartbeats 1000000 in
theorem put14_blk {w : World} {x t : Nat} {u0 u1 u2 u3 u4 u5 u6 u7 u8 u9 u10 u11 u12 u13 : Value} (h : Blk w x #[u0, u1, u2, u3, u4, u5, u6, u7, u8, u9, u10, u11, u12, u13] t) (v0 v1 v2 v3 v4 v5 v6 v7 v8 v9 v10 v11 v12 v13 : Value) :
    Blk (put14 w x v0 v1 v2 v3 v4 v5 v6 v7 v8 v9 v10 v11 v12 v13) x #[v0, v1, v2, v3, v4, v5, v6, v7, v8, v9, v10, v11, v12, v13] t := by
  have h0 : Blk _ x #[v0, u1, u2, u3, u4, u5, u6, u7, u8, u9, u10, u11, u12, u13] t := h.set 0 v0
  have h1 : Blk _ x #[v0, v1, u2, u3, u4, u5, u6, u7, u8, u9, u10, u11, u12, u13] t := h0.set 1 v1
  have h2 : Blk _ x #[v0, v1, v2, u3, u4, u5, u6, u7, u8, u9, u10, u11, u12, u13] t := h1.set 2 v2
  have h3 : Blk _ x #[v0, v1, v2, v3, u4, u5, u6, u7, u8, u9, u10, u11, u12, u13] t := h2.set 3 v3
  have h4 : Blk _ x #[v0, v1, v2, v3, v4, u5, u6, u7, u8, u9, u10, u11, u12, u13] t := h3.set 4 v4
  have h5 : Blk _ x #[v0, v1, v2, v3, v4, v5, u6, u7, u8, u9, u10, u11, u12, u13] t := h4.set 5 v5
  have h6 : Blk _ x #[v0, v1, v2, v3, v4, v5, v6, u7, u8, u9, u10, u11, u12, u13] t := h5.set 6 v6
  have h7 : Blk _ x #[v0, v1, v2, v3, v4, v5, v6, v7, u8, u9, u10, u11, u12, u13] t := h6.set 7 v7
  have h8 : Blk _ x #[v0, v1, v2, v3, v4, v5, v6, v7, v8, u9, u10, u11, u12, u13] t := h7.set 8 v8
  have h9 : Blk _ x #[v0, v1, v2, v3, v4, v5, v6, v7, v8, v9, u10, u11, u12, u13] t := h8.set 9 v9
  have h10 : Blk _ x #[v0, v1, v2, v3, v4, v5, v6, v7, v8, v9, v10, u11, u12, u13] t := h9.set 10 v10
  have h11 : Blk _ x #[v0, v1, v2, v3, v4, v5, v6, v7, v8, v9, v10, v11, u12, u13] t := h10.set 11 v11
  have h12 : Blk _ x #[v0, v1, v2, v3, v4, v5, v6, v7, v8, v9, v10, v11, v12, u13] t := h11.set 12 v12
  have h13 : Blk _ x #[v0, v1, v2, v3, v4, v5, v6, v7, v8, v9, v10, v11, v12, v13] t := h12.set 13 v13
  exact h13
theorem put14_ks {S : Nat → Prop} (w : World) {x : Nat} (hS : S x) (v0 v1 v2 v3 v4 v5 v6 v7 v8 v9 v10 v11 v12 v13 : Value) : Ks S w (put14 w x v0 v1 v2 v3 v4 v5 v6 v7 v8 v9 v10 v11 v12 v13) := by
  have k := fun (w : World) o v => Ks.setCell (S := S) w x o v hS
  exact (((((((((((((k _ _ _).trans (k _ _ _)).trans (k _ _ _)).trans (k _ _ _)).trans (k _ _ _)).trans (k _ _ _)).trans (k _ _ _)).trans (k _ _ _)).trans (k _ _ _)).trans (k _ _ _)).trans (k _ _ _)).trans (k _ _ _)).trans (k _ _ _)).trans (k _ _ _)
set_option maxHeartbeats 4000000 in
theorem copy28_any (M : Ms) (a : Ma) (w : World) (hm : MsIn w (fun b => b < w.heap.size) M a) (hS : M.S.length ≤ 100000) (hL : M.L.length ≤ 100000) (hD : M.D.length ≤ 100000) (hP : M.P.length ≤ 100000) (hl : blen 100000 M.L) (hp : plen 100000 M.P) :
    Calls Tryz.prog 18 #[msagg M a] w (MCpPost M w) := by
  have hX := (Blk.new w (msc M a) 32).alloc (.cells mz0 32)
  have hY := Blk.new (w.alloc (.cells (msc M a) 32)) mz0 32
  rw [show (w.alloc (.cells (msc M a) 32)).heap.size = w.heap.size + 1 by simp] at hY
  have hbd := below_two w (.cells (msc M a) 32) (.cells mz0 32)
  have hsz : ((w.alloc (.cells (msc M a) 32)).alloc (.cells mz0 32)).heap.size = w.heap.size + 2 := by simp
  have HX := Lib.hid hX
  have HY := Lib.hid hY
  have HSZ := Lib.hid hsz
  have HM := Lib.hid hm
  have HB := Lib.hid hbd
  have HPL := Lib.hid hp
  have HLL := Lib.hid hl
  have hcS := cloneu_any a.A1 M.S.length a.m1 (uv M.S) _ (by simp) ((hm.below hbd).us.2) (by intro u hu; simp [uv] at hu; obtain ⟨x, _, rfl⟩ := hu; rfl) hm.hS2 (by omega)
  obtain ⟨⟨x0, x1, x2, x3, x4, x5, x6⟩, x7, x8, x9, x10, x11, x12, x13⟩ := ms_cells hX
  clear hm hX hY hbd hsz hp hl
  go_enter Tryz.func18, Tryz.ntmps18
  go_wp2_with fail
  generalize (w.alloc (.cells (msc M a) 32)).alloc (.cells mz0 32) = w0 at *
  refine hcS.mono ?_
  rintro e w1 ⟨v, rfl, ho, hb1⟩
  obtain ⟨A1, m1, rfl⟩ := OwnU.slice (B := w0.heap.size) (z := M.S) ho
  obtain ⟨_, hS1, hS2, hq⟩ := own_sq (B := w0.heap.size) (z := M.S) ho HM.out.sb
  have HGw0 : Hid (w0.heap.size ≤ w0.heap.size) := Lib.hid (Nat.le_refl _)
  have HC2 := Lib.hid (And.intro hS1 hS2)
  clear x0 x1 x2 x3 x4 x5 x6 x7 x8 x9 x10 x11 x12 x13
  clear hcS ho hS1 hS2
  have hX1 := HX.out.below hb1
  have hY1 := HY.out.below hb1
  have hbd1 := HB.out.trans (hb1.mono HB.out.size)
  have i6 := hX1.free 6
  have x6 := hX1.cell 6 rfl
  have HXw2 : Hid (Blk (w1.setCell ⟨w.heap.size, 6, none⟩ (.slice A1 M.S.length m1)) w.heap.size (msc M { a with A1 := A1, m1 := m1 }) 32) := Lib.hid (hX1.set 6 _)
  have HYw2 := Lib.hid (hY1.far (g := w.heap.size) 6 (.slice A1 M.S.length m1) (by omega))
  have HBw2 := Lib.hid (Below.setCell hbd1 (p := ⟨w.heap.size, 6, none⟩) (Nat.le_refl _) (.slice A1 M.S.length m1))
  have HKw2 := Lib.hid (Ks.setCell (S := fun i => i = w.heap.size ∨ i = w.heap.size + 1) w1 w.heap.size 6 (.slice A1 M.S.length m1) (.inl rfl))
  have HQw2 := Lib.hid (Sq.ks hq HKw2.out (fun b hb => by have := HSZ.out; have := HGw0.out; omega))
  have HGw2 : Hid (w0.heap.size ≤ (w1.setCell ⟨w.heap.size, 6, none⟩ (.slice A1 M.S.length m1)).heap.size) := Lib.hid (by have := HGw0.out; have := hb1.size; simp; omega)
  have HKw2' := Lib.hid ((Ks.of_below hb1).trans HKw2.out)
  clear hb1 hq hX1 hY1 hbd1 HKw2
  go_upto_region 2 with (fail)
  clear i6 x6
  generalize w1.setCell ⟨w.heap.size, 6, none⟩ (.slice A1 M.S.length m1) = w2 at *
  have hcL := lcopy_any _ a.A2 M.L.length a.m2 M.L w2 (HM.out.below HBw2.out).lks HM.out.hL2 (by omega) HLL.out
  have x7 := HXw2.out.cell 7 rfl
  go_wp2_with fail
  refine hcL.mono ?_
  rintro e w3 ⟨v, rfl, hb1, ho⟩
  obtain ⟨A2, m2, rfl, hL1, hL2, hLk⟩ := ho.lks
  have hq := hLk.2
  have HC3 := Lib.hid (And.intro hL1 hL2)
  clear hcL x7 ho hL1 hL2 hLk
  have hX1 := HXw2.out.below hb1
  have hY1 := HYw2.out.below hb1
  have hbd1 := HBw2.out.trans (hb1.mono HBw2.out.size)
  have i6 := hX1.free 7
  have x6 := hX1.cell 7 rfl
  have HXw4 : Hid (Blk (w3.setCell ⟨w.heap.size, 7, none⟩ (.slice A2 M.L.length m2)) w.heap.size (msc M { a with A1 := A1, m1 := m1, A2 := A2, m2 := m2 }) 32) := Lib.hid (hX1.set 7 _)
  have HYw4 := Lib.hid (hY1.far (g := w.heap.size) 7 (.slice A2 M.L.length m2) (by omega))
  have HBw4 := Lib.hid (Below.setCell hbd1 (p := ⟨w.heap.size, 7, none⟩) (Nat.le_refl _) (.slice A2 M.L.length m2))
  have HKw4 := Lib.hid (Ks.setCell (S := fun i => i = w.heap.size ∨ i = w.heap.size + 1) w3 w.heap.size 7 (.slice A2 M.L.length m2) (.inl rfl))
  have HQw4 := Lib.hid (Sq.ks hq HKw4.out (fun b hb => by have := HSZ.out; have := HGw2.out; omega))
  have HGw4 : Hid (w0.heap.size ≤ (w3.setCell ⟨w.heap.size, 7, none⟩ (.slice A2 M.L.length m2)).heap.size) := Lib.hid (by have := HGw2.out; have := hb1.size; simp; omega)
  have HKw4' := Lib.hid ((Ks.of_below hb1).trans HKw4.out)
  clear hb1 hq hX1 hY1 hbd1 HKw4
  go_upto_region 3 with (fail)
  clear i6 x6
  generalize w3.setCell ⟨w.heap.size, 7, none⟩ (.slice A2 M.L.length m2) = w4 at *
  have hcD := clone_any (m := a.m3) (HM.out.below HBw4.out).bs (by omega)
  have x8 := HXw4.out.cell 8 rfl
  go_wp2_with fail
  refine hcD.mono ?_
  rintro e w5 ⟨A3, m3, rfl, ho, hb1⟩
  have hq := (ho.bs.2).sq HM.out.db (P := fun b => w4.heap.size ≤ b) (fun h a' ha => own_addr ho a' ha)
  obtain ⟨A3', m3', he, _, _, hD2, _⟩ := Own.rowPost (B := w4.heap.size) ho hb1
  have HC4 : Hid (M.D.length ≤ m3 ∧ (A3 = none → m3 = 0)) := Lib.hid ⟨ho.cap, by cases he; exact hD2⟩
  clear hcD x8 ho he hD2
  have hX1 := HXw4.out.below hb1
  have hY1 := HYw4.out.below hb1
  have hbd1 := HBw4.out.trans (hb1.mono HBw4.out.size)
  have i6 := hX1.free 8
  have x6 := hX1.cell 8 rfl
  have HXw6 : Hid (Blk (w5.setCell ⟨w.heap.size, 8, none⟩ (.slice A3 M.D.length m3)) w.heap.size (msc M { a with A1 := A1, m1 := m1, A2 := A2, m2 := m2, A3 := A3, m3 := m3 }) 32) := Lib.hid (hX1.set 8 _)
  have HYw6 := Lib.hid (hY1.far (g := w.heap.size) 8 (.slice A3 M.D.length m3) (by omega))
  have HBw6 := Lib.hid (Below.setCell hbd1 (p := ⟨w.heap.size, 8, none⟩) (Nat.le_refl _) (.slice A3 M.D.length m3))
  have HKw6 := Lib.hid (Ks.setCell (S := fun i => i = w.heap.size ∨ i = w.heap.size + 1) w5 w.heap.size 8 (.slice A3 M.D.length m3) (.inl rfl))
  have HQw6 := Lib.hid (Sq.ks hq HKw6.out (fun b hb => by have := HSZ.out; have := HGw4.out; omega))
  have HGw6 : Hid (w0.heap.size ≤ (w5.setCell ⟨w.heap.size, 8, none⟩ (.slice A3 M.D.length m3)).heap.size) := Lib.hid (by have := HGw4.out; have := hb1.size; simp; omega)
  have HKw6' := Lib.hid ((Ks.of_below hb1).trans HKw6.out)
  clear hb1 hq hX1 hY1 hbd1 HKw6
  go_upto_region 4 with (fail)
  clear i6 x6
  generalize w5.setCell ⟨w.heap.size, 8, none⟩ (.slice A3 M.D.length m3) = w6 at *
  have hcP := prcopy_any M.u a.A4 M.P.length a.m4 M.P w6 ((HM.out.below HBw6.out).pts.mono (fun b hb _ => Nat.lt_of_lt_of_le hb HBw6.out.size)) HM.out.hP1 HM.out.hP2 (by omega) HPL.out
  have x12 := HXw6.out.cell 12 rfl
  have x13 := HXw6.out.cell 13 rfl
  go_wp2_with fail
  refine hcP.mono ?_
  rintro e w7 ⟨A4, m4, rfl, hb1, hP0, hP1, hP2⟩
  have hq := hP0.2
  have HC5 := Lib.hid (And.intro hP1 hP2)
  clear hcP hP0 hP1 hP2 x12 x13
  have hX1 := HXw6.out.below hb1
  have hY1 := HYw6.out.below hb1
  have hbd1 := HBw6.out.trans (hb1.mono HBw6.out.size)
  have i12 := hX1.free 12
  have i13 := hX1.free 13
  have x12 := hX1.cell 12 rfl
  have x13 := hX1.cell 13 rfl
  have HXw8 : Hid (Blk ((w7.setCell ⟨w.heap.size, 12, none⟩ (.int .u64 M.u)).setCell ⟨w.heap.size, 13, none⟩ (.slice A4 M.P.length m4)) w.heap.size (msc M ⟨A1, m1, A2, m2, A3, m3, A4, m4⟩) 32) := Lib.hid ((hX1.set 12 _).set 13 _)
  have HYw8 := Lib.hid ((hY1.far (g := w.heap.size) 12 (.int .u64 M.u) (by omega)).far (g := w.heap.size) 13 (.slice A4 M.P.length m4) (by omega))
  have HBw8 := Lib.hid (Below.setCell (Below.setCell hbd1 (p := ⟨w.heap.size, 12, none⟩) (Nat.le_refl _) (.int .u64 M.u)) (p := ⟨w.heap.size, 13, none⟩) (Nat.le_refl _) (.slice A4 M.P.length m4))
  have HKw8 := Lib.hid ((Ks.setCell (S := fun i => i = w.heap.size ∨ i = w.heap.size + 1) w7 w.heap.size 12 (.int .u64 M.u) (.inl rfl)).trans (Ks.setCell (S := fun i => i = w.heap.size ∨ i = w.heap.size + 1) _ w.heap.size 13 (.slice A4 M.P.length m4) (.inl rfl)))
  have HQw8 := Lib.hid (Sq.ks hq HKw8.out (fun b hb => by have := HSZ.out; have := HGw6.out; omega))
  have HKw8' := Lib.hid ((Ks.of_below hb1).trans HKw8.out)
  clear hb1 hq hX1 hY1 hbd1 HKw8
  go_upto_region 5 with (fail)
  clear i12 i13 x12 x13
  generalize (w7.setCell ⟨w.heap.size, 12, none⟩ (.int .u64 M.u)).setCell ⟨w.heap.size, 13, none⟩ (.slice A4 M.P.length m4) = w8 at *
  have hY := HYw8.out
  obtain ⟨⟨x0, x1, x2, x3, x4, x5, x6⟩, x7, x8, x9, x10, x11, x12, x13⟩ := ms_cells HXw8.out
  have y0 := hY.cell 0 rfl
  have y1 := hY.cell 1 rfl
  have y2 := hY.cell 2 rfl
  have y3 := hY.cell 3 rfl
  have y4 := hY.cell 4 rfl
  have y5 := hY.cell 5 rfl
  have y6 := hY.cell 6 rfl
  have y7 := hY.cell 7 rfl
  have y8 := hY.cell 8 rfl
  have y9 := hY.cell 9 rfl
  have y10 := hY.cell 10 rfl
  have y11 := hY.cell 11 rfl
  have y12 := hY.cell 12 rfl
  have y13 := hY.cell 13 rfl
  have i0 := hY.free 0
  have i1 := hY.free 1
  have i2 := hY.free 2
  have i3 := hY.free 3
  have i4 := hY.free 4
  have i5 := hY.free 5
  have i6 := hY.free 6
  have i7 := hY.free 7
  have i8 := hY.free 8
  have i9 := hY.free 9
  have i10 := hY.free 10
  have i11 := hY.free 11
  have i12 := hY.free 12
  have i13 := hY.free 13
  clear hY
  go_wp2
  show bodyPost Tryz.prog Tryz.f18 (MCpPost M w) Exit.ret ⟨_, _⟩ (put14 w8 (w.heap.size + 1) (.int .i64 M.k) (.int .u64 M.e) (.int .u64 M.q) (.int .u64 M.p) (.int .i64 M.c) (.int .i64 M.t) (.slice A1 M.S.length m1) (.slice A2 M.L.length m2) (.slice A3 M.D.length m3) (.int .u64 M.s.1) (.int .u64 M.s.2.1) (.int .u64 M.s.2.2) (.int .u64 M.u) (.slice A4 M.P.length m4))
  have hY9 : Blk _ (w.heap.size + 1) (msc M ⟨A1, m1, A2, m2, A3, m3, A4, m4⟩) 32 := put14_blk HYw8.out (.int .i64 M.k) (.int .u64 M.e) (.int .u64 M.q) (.int .u64 M.p) (.int .i64 M.c) (.int .i64 M.t) (.slice A1 M.S.length m1) (.slice A2 M.L.length m2) (.slice A3 M.D.length m3) (.int .u64 M.s.1) (.int .u64 M.s.2.1) (.int .u64 M.s.2.2) (.int .u64 M.u) (.slice A4 M.P.length m4)
  have hK9 := put14_ks (S := fun i => i = w.heap.size ∨ i = w.heap.size + 1) w8 (x := w.heap.size + 1) (.inr rfl) (.int .i64 M.k) (.int .u64 M.e) (.int .u64 M.q) (.int .u64 M.p) (.int .i64 M.c) (.int .i64 M.t) (.slice A1 M.S.length m1) (.slice A2 M.L.length m2) (.slice A3 M.D.length m3) (.int .u64 M.s.1) (.int .u64 M.s.2.1) (.int .u64 M.s.2.2) (.int .u64 M.u) (.slice A4 M.P.length m4)
  clear x0 x1 x2 x3 x4 x5 x6 x7 x8 x9 x10 x11 x12 x13 y0 y1 y2 y3 y4 y5 y6 y7 y8 y9 y10 y11 y12 y13 i0 i1 i2 i3 i4 i5 i6 i7 i8 i9 i10 i11 i12 i13
  generalize put14 w8 (w.heap.size + 1) (.int .i64 M.k) (.int .u64 M.e) (.int .u64 M.q) (.int .u64 M.p) (.int .i64 M.c) (.int .i64 M.t) (.slice A1 M.S.length m1) (.slice A2 M.L.length m2) (.slice A3 M.D.length m3) (.int .u64 M.s.1) (.int .u64 M.s.2.1) (.int .u64 M.s.2.2) (.int .u64 M.u) (.slice A4 M.P.length m4) = w9 at *
  obtain ⟨⟨y0, y1, y2, y3, y4, y5, y6⟩, y7, y8, y9, y10, y11, y12, y13⟩ := ms_cells hY9
  have hsz := HSZ.out
  have hno : ∀ v, ∀ b, v ≤ b → w0.heap.size ≤ v → ¬ (b = w.heap.size ∨ b = w.heap.size + 1) := fun v b h1 h2 => by omega
  have hsS := ((HQw2.out.ks ((HKw4'.out.trans HKw6'.out).trans (HKw8'.out.trans hK9)) (fun b hb => hno _ b hb (Nat.le_refl _))).mono (Q := fun b => w.heap.size ≤ b) (fun b hb _ => by omega))
  have hsL := ((HQw4.out.ks (HKw6'.out.trans (HKw8'.out.trans hK9)) (fun b hb => hno _ b hb HGw2.out)).mono (Q := fun b => w.heap.size ≤ b) (fun b hb _ => by have := HGw2.out; omega))
  have hsD := ((HQw6.out.ks (HKw8'.out.trans hK9) (fun b hb => hno _ b hb HGw4.out)).mono (Q := fun b => w.heap.size ≤ b) (fun b hb _ => by have := HGw4.out; omega))
  have hsP := ((HQw8.out.ks hK9 (fun b hb => hno _ b hb HGw6.out)).mono (Q := fun b => w.heap.size ≤ b) (fun b hb _ => by have := HGw6.out; omega))
  refine bodyPost_ret (v := msagg M ⟨A1, m1, A2, m2, A3, m3, A4, m4⟩) (by simp [results, Tryz.results18, go_sem, y0, y1, y2, y3, y4, y5, y6, y7, y8, y9, y10, y11, y12, y13]) rfl ⟨_, rfl, hK9.below HBw8.out (Nat.le_refl _) (fun k hk => by omega), ?_⟩
  exact { HM.out with hS := hsS, hS1 := HC2.out.1, hS2 := HC2.out.2, hL := hsL, hL1 := HC3.out.1, hL2 := HC3.out.2, hD := hsD, hD1 := HC4.out.1, hD2 := HC4.out.2, hP := hsP, hP1 := HC5.out.1, hP2 := HC5.out.2 }
end Go.Proofs.YtmiimjgfainclaaGreat.Cur
