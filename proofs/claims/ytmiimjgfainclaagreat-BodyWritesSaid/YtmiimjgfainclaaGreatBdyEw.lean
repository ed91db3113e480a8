/- As the seat's text, without what nothing here names. -/
import Derived.Test.YtmiimjgfainclaaGreatBdyDw
namespace Go.Proofs.YtmiimjgfainclaaGreat.Cur
open Go.RowKit Mem
set_option linter.unusedVariables false
set_option linter.unusedSimpArgs false
set_option maxRecDepth 100000
theorem ws_gr28 {w : World} {b : Nat} {r r' : Option Nat} {x : Nat} (h : ¬ WS b r x) (hx : x < w.heap.size) (hg : Gr r r' w) : ¬ WS b r' x := fun hs => by
  rcases hs with e | e
  · exact h (.inl e)
  · rcases hg with e2 | ⟨g', e2, hg'⟩
    · exact h (.inr (by rw [← e2]; exact e))
    · rw [e2] at e; injection e with e; omega
def pfn : Nat → FuncId
  | 0 => 33
  | 1 => 35
  | 2 => 37
  | 3 => 39
  | 4 => 41
  | 5 => 43
  | 6 => 45
  | _ => 47
theorem pfn_ent : ∀ i, i < 8 → Ent (pfn i)
  | 0, _ => ent_of Tryz.func33 (by kernel_rfl) rfl
  | 1, _ => ent_of Tryz.func35 (by kernel_rfl) rfl
  | 2, _ => ent_of Tryz.func37 (by kernel_rfl) rfl
  | 3, _ => ent_of Tryz.func39 (by kernel_rfl) rfl
  | 4, _ => ent_of Tryz.func41 (by kernel_rfl) rfl
  | 5, _ => ent_of Tryz.func43 (by kernel_rfl) rfl
  | 6, _ => ent_of Tryz.func45 (by kernel_rfl) rfl
  | 7, _ => ent_of Tryz.func47 (by kernel_rfl) rfl
def PutI (w0 : World) (B b : Nat) (r : Option Nat) (y : List Int) (X : Int) (M : Ms) (i : Nat) (w : World) : Prop := ∃ r', Ks (WS b r) w0 w ∧ Gr r r' w0 ∧ Wr w B b r' (y ++ bdp M i) X 0
theorem PutI.below {w0 : World} {B b : Nat} {r : Option Nat} {y : List Int} {X : Int} {M : Ms} (i : Nat) (w w' : World) (h : PutI w0 B b r y X M i w) (hb : Below w.heap.size w w') : PutI w0 B b r y X M i w' := by
  obtain ⟨r', h1, h2, h3⟩ := h
  exact ⟨r', h1.trans (Ks.of_below hb), h2, h3.below hb⟩
theorem bdp_yes {M : Ms} {i : Nat} (h : kh M.k (pw2 i) = true) : bdp M (i + 1) = bdp M i ++ bdf M i := by
  show bdp M i ++ (if kh M.k (pw2 i) = true then bdf M i else []) = _
  rw [if_pos h]
theorem bdp_no {M : Ms} {i : Nat} (h : kh M.k (pw2 i) = false) : bdp M (i + 1) = bdp M i := by
  show bdp M i ++ (if kh M.k (pw2 i) = true then bdf M i else []) = _
  rw [if_neg (by rw [h]; decide), List.append_nil]
theorem PutI.skip {w0 : World} {B b : Nat} {r : Option Nat} {y : List Int} {X : Int} {M : Ms} (i : Nat) (w : World) (hk : kh M.k (pw2 i) = false) (h : PutI w0 B b r y X M i w) : PutI w0 B b r y X M (i + 1) w := by
  unfold PutI at h ⊢
  rw [bdp_no hk]; exact h
theorem MsIn.ks {S0 Q : Nat → Prop} {w w' : World} {M : Ms} {a : Ma} (h : MsIn w Q M a) (k : Ks S0 w w') (hoff : ∀ b, Q b → b < w.heap.size → ¬ S0 b) : MsIn w' (fun b => Q b ∧ b < w.heap.size) M a :=
  (h.mono (R := fun b => Q b ∧ b < w.heap.size) fun b hq hl => ⟨hq, hl⟩).keep fun b hq hl => k.block b hl (hoff b hq.1 hl)
theorem put_step {w0 : World} {B b : Nat} {r : Option Nat} {y : List Int} {X : Int} {M : Ms} {a : Ma} {Q : Nat → Prop} {xb mb : Nat} (hPB : PutB w0 xb mb b M a) (hxo : ¬ WS b r xb) (hmo : ¬ WS b r mb) (hm : MsIn w0 Q M a) (hoff : ∀ b', Q b' → b' < w0.heap.size → ¬ WS b r b') (hQB : ∀ b', Q b' → b' < B)
    (hok : bdk M = true) (hD : M.D.length ≤ 1000) (hpl : plen 1000000 M.P) (hy0 : y = [] ∨ kh M.k 128 = false) (hy : y.length ≤ 20000) (hX : (y.length : Int) + 60000 ≤ X) (hBw : B ≤ w0.heap.size) :
    ∀ i wr, i < 8 → kh M.k (pw2 i) = true → PutI w0 B b r y X M i wr → Calls Tryz.prog (pfn i) #[.pointer (some ⟨xb, 0, none⟩), .pointer (some ⟨mb, 0, none⟩)] wr fun e w' => e = .returned (.tuple #[]) ∧ PutI w0 B b r y X M (i + 1) w' := by
  intro i wr hi hk ⟨r', hks, hgr, hw⟩
  have hr := bdk_right hok hi hk
  have hl := bdf_len hok hD hi hk
  have hlp : (bdp M i).length ≤ 7700 := by have := bdp_len hok hD i (by omega); omega
  have hly : (y ++ bdp M i).length ≤ 30000 := by rw [List.length_append]; omega
  have hlX : ((y ++ bdp M i).length : Int) + (bdf M i).length ≤ X := by rw [List.length_append]; have := hl.1; omega
  have hB' : PutB wr xb mb b M a := ⟨hPB.1.ks hks hxo, hPB.2.ks hks hmo⟩
  have hBw' := Nat.le_trans hBw hks.size
  have hm' := hm.ks hks hoff
  have hoff' : ∀ b', (Q b' ∧ b' < w0.heap.size) → b' < wr.heap.size → ¬ WS b r' b' := fun b' hq _ => ws_gr28 (hoff b' hq.1 hq.2) hq.2 hgr
  have fin : ∀ e w', PRPost B b r' ((y ++ bdp M i) ++ bdf M i) X wr e w' → e = .returned (.tuple #[]) ∧ PutI w0 B b r y X M (i + 1) w' := fun e w' ⟨r2, h1, h2, h3, h4⟩ => by
    refine ⟨h1, r2, Ks.wr hks hgr h2, hgr.trans h3 hks.size, ?_⟩
    rw [bdp_yes hk, ← List.append_assoc]
    exact h4
  match i, hi with
  | 0, _ => exact (put1_any xb mb M a hw hB' hBw' hm.hp hr (by omega) hlX).mono fin
  | 1, _ =>
    have hr := of_decide_eq_true (show decide (1 ≤ M.c ∧ M.c ≤ 65536) = true from hr)
    exact (put2_any xb mb M a hw hB' hBw' hr (IntWalk.u64_in _ (by omega)) (by omega) hlX).mono fin
  | 2, _ =>
    have hr := of_decide_eq_true (show decide (1 ≤ M.t ∧ M.t ≤ bmost M.k) = true from hr)
    have h20 : bmost M.k ≤ 20 := by unfold bmost; split <;> decide
    exact (put3_any xb mb M a hw hB' hBw' ⟨hr.1, by omega⟩ (by omega) hlX).mono fin
  | 3, _ =>
    have hr : (decide (M.S.length ≤ 16) && risesB M.S) = true := hr
    rw [Bool.and_eq_true] at hr
    have h4 : (bdf M 3).length = (vz (M.S.length : Int)).length + (rz M.S).length := List.length_append ..
    exact (put4_any xb mb M a hw hB' hBw' _ hm' (of_decide_eq_true hr.1) hr.2 hoff' (by omega) (by omega)).mono fin
  | 4, _ => exact (put5_any xb mb M a hw hB' hBw' _ hm' hr hoff' (by omega) hlX).mono fin
  | 5, _ => exact (put6_any xb mb M a hw hB' hBw' _ hm' hD hoff' (by omega) hlX).mono fin
  | 6, _ => exact (put7_any xb mb M a hw hB' hBw' hm.hs hr (by omega) hlX).mono fin
  | 7, _ =>
    have hk : kh M.k 128 = true := hk
    have hy1 : y = [] := hy0.resolve_right (by rw [hk]; decide)
    exact (put8_any xb mb M a hw hB' hBw' (by rw [hy1, bdp_proj hk 7 (Nat.le_refl _)]; rfl) (hm'.mono fun b' hq _ => hQB b' hq.1) hr hpl (by omega)).mono fin
def prow (cs : Array Value) : Array Value := #[.int .i64 1, .func (.func 33) #[] cs, .int .i64 2, .func (.func 35) #[] cs, .int .i64 4, .func (.func 37) #[] cs, .int .i64 8, .func (.func 39) #[] cs, .int .i64 16, .func (.func 41) #[] cs, .int .i64 32, .func (.func 43) #[] cs, .int .i64 64, .func (.func 45) #[] cs, .int .i64 128, .func (.func 47) #[] cs]
theorem prow_at (cs : Array Value) {i : Nat} (hi : i < 8) : (prow cs)[i * 2]? = some (.int .i64 (pw2 i)) ∧ (prow cs)[i * 2 + 1]? = some (.func (.func (pfn i)) #[] cs) := by
  match i, hi with
  | 0, _ | 1, _ | 2, _ | 3, _ | 4, _ | 5, _ | 6, _ | 7, _ => exact ⟨rfl, rfl⟩
set_option maxHeartbeats 2000000 in
theorem put28_no {w : World} {B b : Nat} {r : Option Nat} {y : List Int} {X c : Int} (Q : Nat → Prop) (M : Ms) (a : Ma) (h : Wr w B b r y X c) (hm : MsIn w Q M a) (hS : M.S.length ≤ 1000000) (hD : M.D.length ≤ 1000000) (hP : M.P.length ≤ 1000000) (hpl : plen 1000000 M.P) (hok : bdk M = false) :
    Calls Tryz.prog 11 #[.pointer (some ⟨b, 0, none⟩), msagg M a] w (WFailPost B b r y X c 3 w) := by
  have hb := below_two w (.cells #[.pointer (some ⟨b, 0, none⟩)] 38) (.cells (msc M a) 32)
  have hX := Blk.new (w.alloc (.cells #[.pointer (some ⟨b, 0, none⟩)] 38)) (msc M a) 32
  have hZ := (Blk.new w #[.pointer (some ⟨b, 0, none⟩)] 38).alloc (.cells (msc M a) 32)
  rw [World.size_alloc] at hX
  have hr := bright28_any Q M a _ (hm.below hb) hS hD hP hpl
  rw [hok] at hr
  unfold BPost at hr
  have h1 := h.below hb
  have HB := Lib.hid hb
  have HZ := Lib.hid hZ
  obtain ⟨⟨x0, x1, x2, x3, x4, x5, x6⟩, x7, x8, x9, x10, x11, x12, x13⟩ := ms_cells hX
  clear h hm hX hZ hb hok hpl
  go_enter Tryz.func11, Tryz.ntmps11
  go_wp2_with fail
  generalize (w.alloc (.cells #[.pointer (some ⟨b, 0, none⟩)] 38)).alloc (.cells (msc M a) 32) = w0 at *
  refine hr.mono ?_
  rintro en w1 ⟨rfl, hb1⟩
  have h2 := h1.below hb1
  have hbd := HB.out.trans (hb1.mono HB.out.size)
  have z0 := (HZ.out.below hb1).c1
  clear hr hb1 h1 x0 x1 x2 x3 x4 x5 x6 x7 x8 x9 x10 x11 x12 x13
  go_wp2_with fail
  refine (wfail_any 3 h2).mono ?_
  rintro en w' ⟨rfl, hk, hw⟩
  have HW := Lib.hid hw
  clear hw
  go_wp2
  go_end0
  exact ⟨rfl, (Ks.of_below hbd).trans hk, HW.out⟩
set_option maxHeartbeats 4000000 in
theorem put28_yes {w : World} {B b : Nat} {r : Option Nat} {y : List Int} {X : Int} (Q : Nat → Prop) (M : Ms) (a : Ma) (h : Wr w B b r y X 0) (hm : MsIn w Q M a) (hS : M.S.length ≤ 1000000) (hP : M.P.length ≤ 1000000) (hpl : plen 1000000 M.P) (hok : bdk M = true) (hD : M.D.length ≤ 1000)
    (hoff : ∀ b', Q b' → b' < w.heap.size → ¬ WS b r b') (hQB : ∀ b', Q b' → b' < B) (hy0 : y = [] ∨ kh M.k 128 = false) (hy : y.length ≤ 20000) (hXX : (y.length : Int) + 60000 ≤ X) (hBw : B ≤ w.heap.size) :
    Calls Tryz.prog 11 #[.pointer (some ⟨b, 0, none⟩), msagg M a] w (PRPost B b r (y ++ bdz M) X w) := by
  have hb := below_two w (.cells #[.pointer (some ⟨b, 0, none⟩)] 38) (.cells (msc M a) 32)
  have hX := Blk.new (w.alloc (.cells #[.pointer (some ⟨b, 0, none⟩)] 38)) (msc M a) 32
  have hZ := (Blk.new w #[.pointer (some ⟨b, 0, none⟩)] 38).alloc (.cells (msc M a) 32)
  rw [World.size_alloc] at hX
  have hr := bright28_any Q M a _ (hm.below hb) hS (by omega) hP hpl
  rw [hok] at hr
  unfold BPost at hr
  have h1 := h.below hb
  have HB := Lib.hid hb
  have HZ := Lib.hid hZ
  have HX := Lib.hid hX
  have HXO : Hid (¬ WS b r w.heap.size ∧ ¬ WS b r (w.heap.size + 1)) := Lib.hid ⟨h.off (Nat.le_refl _), h.off (Nat.le_succ _)⟩
  have HM := Lib.hid (And.intro hm (And.intro hoff hQB))
  have HOK := Lib.hid (And.intro hok (And.intro hD hpl))
  have HY := Lib.hid (And.intro hy0 (And.intro hy hXX))
  obtain ⟨⟨x0, x1, x2, x3, x4, x5, x6⟩, x7, x8, x9, x10, x11, x12, x13⟩ := ms_cells hX
  have HH := Lib.hid h
  clear h hm hX hZ hb hok hpl hoff hQB hy0 hy hXX
  go_enter Tryz.func11, Tryz.ntmps11
  go_wp2_with fail
  generalize (w.alloc (.cells #[.pointer (some ⟨b, 0, none⟩)] 38)).alloc (.cells (msc M a) 32) = w0 at *
  refine hr.mono ?_
  rintro en w1 ⟨rfl, hb1⟩
  have HW2 := Lib.hid (h1.below hb1)
  have HBD := Lib.hid (HB.out.trans (hb1.mono HB.out.size))
  have HX1 := Lib.hid (HX.out.below hb1)
  have HZ1 := Lib.hid (HZ.out.below hb1)
  clear hr hb1 h1 x0 x1 x2 x3 x4 x5 x6 x7 x8 x9 x10 x11 x12 x13
  obtain ⟨⟨x0, x1, x2, x3, x4, x5, x6⟩, x7, x8, x9, x10, x11, x12, x13⟩ := ms_cells HX1.out
  have z0 := HZ1.out.c1
  have hbN := below_one w1 (.cells (prow #[.pointer (some ⟨w.heap.size, 0, none⟩), .pointer (some ⟨w.heap.size + 1, 0, none⟩)]) 71)
  have hNB := Blk.new w1 (prow #[.pointer (some ⟨w.heap.size, 0, none⟩), .pointer (some ⟨w.heap.size + 1, 0, none⟩)]) 71
  obtain ⟨w2, hw2⟩ : ∃ w2, w2 = w1.alloc (.cells (prow #[.pointer (some ⟨w.heap.size, 0, none⟩), .pointer (some ⟨w.heap.size + 1, 0, none⟩)]) 71) := ⟨_, rfl⟩
  rw [← hw2] at hbN hNB
  have hgo : ¬ WS b r w1.heap.size := HW2.out.off (Nat.le_refl _)
  have hks0 : Ks (WS b r) w w2 := Ks.of_below (HBD.out.trans (hbN.mono HBD.out.size))
  have hm2 := HM.out.1.ks hks0 HM.out.2.1
  have hst := put_step (w0 := w2) (B := B) (b := b) (r := r) (y := y) (X := X) (M := M) (a := a) (xb := w.heap.size) (mb := w.heap.size + 1) ⟨HZ1.out.below hbN, HX1.out.below hbN⟩ HXO.out.1 HXO.out.2 hm2 (fun b' hq _ => HM.out.2.1 b' hq.1 hq.2) (fun b' hq => HM.out.2.2 b' hq.1) HOK.out.1 hD HOK.out.2.2 HY.out.1 HY.out.2.1 HY.out.2.2 (Nat.le_trans hBw hks0.size)
  have hvi := visit28_any M.k w1.heap.size pfn #[.pointer (some ⟨w.heap.size, 0, none⟩), .pointer (some ⟨w.heap.size + 1, 0, none⟩)] (PutI w2 B b r y X M) w2 pfn_ent (fun i w' hi hI => by
    obtain ⟨r', h1, _, _⟩ := hI
    have hN' := hNB.ks h1 hgo
    obtain ⟨p1, p2⟩ := prow_at #[.pointer (some ⟨w.heap.size, 0, none⟩), .pointer (some ⟨w.heap.size + 1, 0, none⟩)] hi
    exact ⟨hN'.cell _ p1, hN'.cell _ p2⟩) PutI.below hst (fun i wr _ hk hI => hI.skip i wr hk) ⟨r, Ks.refl _ _, Gr.refl _ _, by show Wr w2 B b r (y ++ []) X 0; rw [List.append_nil]; exact HW2.out.below hbN⟩
  have HK0 := Lib.hid hks0
  rw [hw2] at hvi
  unfold prow at hvi
  have HW2E := Lib.hid hw2
  have HSZ : Hid (w.heap.size ≤ w2.heap.size) := Lib.hid hks0.size
  clear hbN hNB hgo hks0 hm2 hst hw2
  go_wp2_with fail
  refine hvi.mono ?_
  rintro en w' ⟨rfl, hI⟩
  have HI := Lib.hid hI
  clear hvi hI
  go_wp2
  go_end0
  have hE : w1.alloc (.cells (prow #[.pointer (some ⟨w.heap.size, 0, none⟩), .pointer (some ⟨w.heap.size + 1, 0, none⟩)]) 71) = w2 := HW2E.out.symm
  have h9 := HI.out
  have h8 : PutI w2 B b r y X M 8 w' := by rw [← hE]; exact h9
  obtain ⟨r', k1, k2, k3⟩ := h8
  exact ⟨r', rfl, HK0.out.trans k1, k2.imp id (fun ⟨g, e, hg⟩ => ⟨g, e, Nat.le_trans HSZ.out hg⟩), k3⟩
end Go.Proofs.YtmiimjgfainclaaGreat.Cur
