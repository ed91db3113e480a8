/- Projections: two are the same, by the program and by the document. -/
import Derived.Test.YtghlediibhnloaaPrjB
import Derived.Test.YtghlediibhnloaaStpP
namespace Go.Proofs.Ytghlediibhnloaa.Cur
open Go.RowKit Mem
set_option linter.unusedVariables false
set_option maxRecDepth 100000


set_option maxHeartbeats 4000000 in
theorem pequalf_any (P Q : Nat → Prop) (A B : Option Addr) (n m c d : Nat) (L M : List Stp) (w : World) (ha : Pts w P A n L) (hb : Pts w Q B m M) (hn : n ≤ 1000000) (hm : m ≤ 1000000) (h1 : plen 1000000 L) (h2 : plen 1000000 M) :
    Calls Try.prog 44 #[.slice A n c, .slice B m d, .func (.func 45) #[] #[]] w (BPost (.bool (decide (L = M))) w) := by
  unfold BPost
  have HL := Lib.hid ha.1
  have HL2 := Lib.hid hb.1
  have HN1 := Lib.hid (fun k => h1.at_ k)
  have HN2 := Lib.hid (fun k => h2.at_ k)
  have HC := Lib.hid (fun h => ha.cells h)
  have HC2 := Lib.hid (fun h => hb.cells h)
  have HYES := Lib.hid (lq_yes (d := stp0) (x := L) (y := M))
  have HLEN := Lib.hid (lq_len (x := L) (y := M))
  have HNO := Lib.hid (fun i => lq_at (d := stp0) (x := L) (y := M) i)
  generalize decide (L = M) = r at *
  clear ha hb h1 h2
  by_cases hnm : n = m
  case neg =>
    have hb2 : ((n : Int) != (m : Int)) = true := by simp; omega
    have HR := Lib.hid (HLEN.out (by rw [HL.out, HL2.out]; exact hnm))
    go_enter Try.func44, Try.ntmps44
    go_wp2
    go_ret
    exact ⟨by rw [HR.out]; rfl, Below.refl _ _⟩
  subst hnm
  have hb2 : ((n : Int) != (n : Int)) = false := by simp
  go_enter Try.func44, Try.ntmps44
  go_wp2
  go_loopw [17] (fun i wr => ∃ k : Nat, k ≤ n ∧ i = .int .i64 k ∧ Hid (∀ j, j < k → L.getD j stp0 = M.getD j stp0) ∧ Below w.heap.size w wr) (fun i _ => n - (intOf i).toNat)
  case atStart => exact ⟨0, by omega, rfl, Lib.hid (by intro j hj; omega), Below.refl _ _⟩
  case round =>
    obtain ⟨k, hk, rfl, hj, hb⟩ := hrel
    by_cases hlt : k < n
    · obtain ⟨g, o, rfl, _, hg, hc⟩ := HC.out (by omega)
      obtain ⟨g', o', rfl, _, hg', hc'⟩ := HC2.out (by omega)
      obtain ⟨f, t, S, a1, l1, m1, he1, _, _, hl1, _, _, hst1, hcell1⟩ := hc k hlt
      obtain ⟨f2, t2, S2, a2, l2, m2, he2, _, _, hl2, _, _, hst2, hcell2⟩ := hc' k hlt
      have hp1 := HN1.out k
      have hp2 := HN2.out k
      have HNK := Lib.hid (HNO.out k)
      have HEQ : Hid ((f, t, S) = (f2, t2, S2) → L.getD k stp0 = M.getD k stp0) := Lib.hid (by rw [he1, he2]; exact id)
      rw [he1, he2] at HNK
      rw [he1] at hp1
      rw [he2] at hp2
      obtain ⟨p1, p1l⟩ := hp1
      obtain ⟨p2, p2l⟩ := hp2
      dsimp only at p1 p1l p2 p2l
      rw [hl1] at p1
      rw [hl2] at p2
      have ek : (k : Int) < n := by omega
      have e3 : IntKind.i64.wrap ((k : Int) + 1) = ((k + 1 : Nat) : Int) := IntWalk.i64_in _ (by omega)
      have hbA := hb.trans ((below_one wr (.cells (stc f t a1 l1 m1) 60)).mono hb.size)
      have hbX := hb.trans ((below_two wr (.cells (stc f t a1 l1 m1) 60) (.cells (stc f2 t2 a2 l2 m2) 60)).mono hb.size)
      have hX := (Blk.new wr (stc f t a1 l1 m1) 60).alloc (.cells (stc f2 t2 a2 l2 m2) 60)
      have hY := Blk.new (wr.alloc (.cells (stc f t a1 l1 m1) 60)) (stc f2 t2 a2 l2 m2) 60
      rw [show (wr.alloc (.cells (stc f t a1 l1 m1) 60)).heap.size = wr.heap.size + 1 by simp] at hY
      obtain ⟨c0, c1, c2⟩ := hcell1 wr hb
      obtain ⟨d0, d1, d2⟩ := hcell2 _ hbA
      obtain ⟨x0, x1, x2⟩ := hX.c3
      obtain ⟨y0, y1, y2⟩ := hY.c3
      have hcon := stsame_any P Q f t a1 l1 m1 S f2 t2 a2 l2 m2 S2 _ (hst1.below hbX) (hst2.below hbX) p1 p2 p1l p2l
      have HDEC : Hid (decide ((f, t, S) = (f2, t2, S2)) = true ↔ (f, t, S) = (f2, t2, S2)) := Lib.hid decide_eq_true_iff
      unfold BPost at hcon
      generalize decide ((f, t, S) = (f2, t2, S2)) = dv at *
      clear hc hc' hst1 hst2 hl1 hl2 hcell1 hcell2 he1 he2 p1l p2l p1 p2 hX hY hb hbA
      go_wp2_with fail
      refine hcon.mono ?_
      rintro e w1 ⟨rfl, hb1⟩
      have hbd := hbX.trans (hb1.mono hbX.size)
      clear hcon c0 c1 c2 d0 d1 d2 x0 x1 x2 y0 y1 y2 hbX hb1
      cases dv
      · have HR := Lib.hid (HNK.out (fun e => by have := HDEC.out.2 e; cases this))
        go_wp2
        go_ret
        exact ⟨by rw [HR.out]; rfl, hbd⟩
      · have HE := Lib.hid (HEQ.out (HDEC.out.1 rfl))
        go_wp2
        go_roundw
        case rel => exact ⟨k + 1, by omega, by go_num, Lib.hid (fun j hjk => by
          rcases Nat.lt_or_ge j k with h | h
          · exact hj.out j h
          · obtain rfl : j = k := by omega
            exact HE.out), hbd⟩
        case measure => simp [intOf]; omega
    · obtain rfl : k = n := by omega
      go_wp2
      go_ret
      exact ⟨by rw [HYES.out (by rw [HL.out, HL2.out]) (fun i hi => hj.out i (by rw [HL.out] at hi; exact hi))]; rfl, hb⟩

theorem prj_dec (e : Int) (L : List Stp) (e2 : Int) (M : List Stp) : decide ((e, L) = (e2, M)) = (decide (e = e2) && decide (L = M)) := by
  simp only [Prod.mk.injEq, Bool.decide_and]
set_option maxHeartbeats 2000000 in
theorem prsame_any (P Q : Nat → Prop) (e : Int) (A : Option Addr) (n c : Nat) (L : List Stp) (e2 : Int) (B : Option Addr) (m d : Nat) (M : List Stp) (w : World) (ha : Pts w P A n L) (hb : Pts w Q B m M) (hn : n ≤ 1000000) (hm : m ≤ 1000000) (h1 : plen 1000000 L) (h2 : plen 1000000 M) :
    Calls Try.prog 16 #[pragg e A n c, pragg e2 B m d] w (BPost (.bool (decide ((e, L) = (e2, M)))) w) := by
  have hX := (Blk.new w (prc e A n c) 25).alloc (.cells (prc e2 B m d) 25)
  have hY := Blk.new (w.alloc (.cells (prc e A n c) 25)) (prc e2 B m d) 25
  rw [show (w.alloc (.cells (prc e A n c) 25)).heap.size = w.heap.size + 1 by simp] at hY
  have hbd := below_two w (.cells (prc e A n c) 25) (.cells (prc e2 B m d) 25)
  unfold BPost
  have HV : Hid (decide ((e, L) = (e2, M)) = (decide (e = e2) && decide (L = M))) := Lib.hid (prj_dec _ _ _ _)
  generalize decide ((e, L) = (e2, M)) = V at *
  obtain ⟨x0, x1⟩ := hX.c2
  obtain ⟨y0, y1⟩ := hY.c2
  have hcon := pequalf_any P Q A B n m c d L M _ (ha.below hbd) (hb.below hbd) hn hm h1 h2
  unfold BPost at hcon
  generalize decide (L = M) = sv at *
  clear ha hb h1 h2 hX hY
  by_cases hf : e = e2
  · have hfb : (e == e2) = true := by simpa using hf
    rw [decide_eq_true hf] at HV
    clear hf
    go_enter Try.func16, Try.ntmps16
    go_wp2_with fail
    refine hcon.mono ?_
    rintro e w1 ⟨rfl, hb1⟩
    have HB := Lib.hid (hbd.trans (hb1.mono hbd.size))
    clear hcon hb1
    go_wp2
    go_ret
    exact ⟨by rw [HV.out]; rfl, HB.out⟩
  · have hfb : (e == e2) = false := by simpa using hf
    rw [decide_eq_false hf] at HV
    clear hf hcon
    go_enter Try.func16, Try.ntmps16
    go_wp2
    go_ret
    exact ⟨by rw [HV.out]; rfl, hbd⟩

/-- What the document's loop needs. -/
def RpsS (W : Nat) (x y : Array Value) (g : Nat) (o : Nat) (f t : Int) (v : Value) (g' : Nat) (o' : Nat) (f2 t2 : Int) (v' : Value) (w : World) : Prop :=
  Blk w W x 25 ∧ Blk w (W + 1) y 25 ∧ (w.cell? ⟨g, o, none⟩ = some (.int .u64 f) ∧ w.cell? ⟨g, o + 1, none⟩ = some (.int .u64 t) ∧ w.cell? ⟨g, o + 2, none⟩ = some v) ∧
    w.cell? ⟨g', o', none⟩ = some (.int .u64 f2) ∧ w.cell? ⟨g', o' + 1, none⟩ = some (.int .u64 t2) ∧ w.cell? ⟨g', o' + 2, none⟩ = some v'
theorem RpsS.below {W : Nat} {x y : Array Value} {g : Nat} {o : Nat} {f t : Int} {v : Value} {g' : Nat} {o' : Nat} {f2 t2 : Int} {v' : Value} {w w' : World} (h : RpsS W x y g o f t v g' o' f2 t2 v' w) (hb : Below w.heap.size w w') : RpsS W x y g o f t v g' o' f2 t2 v' w' := by
  obtain ⟨h1, h2, ⟨h3, h4, h5⟩, h6, h7, h8⟩ := h
  exact ⟨h1.below hb, h2.below hb, ⟨(hb.cell (lt_of_cell h3)).trans h3, (hb.cell (lt_of_cell h4)).trans h4, (hb.cell (lt_of_cell h5)).trans h5⟩, (hb.cell (lt_of_cell h6)).trans h6, (hb.cell (lt_of_cell h7)).trans h7, (hb.cell (lt_of_cell h8)).trans h8⟩
set_option maxHeartbeats 4000000 in
theorem rprsame_any (P Q : Nat → Prop) (e : Int) (A : Option Addr) (n c : Nat) (L : List Stp) (e2 : Int) (B : Option Addr) (m d : Nat) (M : List Stp) (w : World) (ha : Pts w P A n L) (hb : Pts w Q B m M) (hn : n ≤ 1000000) (hm : m ≤ 1000000) (h1 : plen 1000000 L) (h2 : plen 1000000 M) :
    Calls Try.prog 17 #[pragg e A n c, pragg e2 B m d] w (BPost (.bool (decide ((e, L) = (e2, M)))) w) := by
  have hX := (Blk.new w (prc e A n c) 25).alloc (.cells (prc e2 B m d) 25)
  have hY := Blk.new (w.alloc (.cells (prc e A n c) 25)) (prc e2 B m d) 25
  rw [show (w.alloc (.cells (prc e A n c) 25)).heap.size = w.heap.size + 1 by simp] at hY
  have hbd := below_two w (.cells (prc e A n c) 25) (.cells (prc e2 B m d) 25)
  unfold BPost
  have HV : Hid (decide ((e, L) = (e2, M)) = (decide (e = e2) && decide (L = M))) := Lib.hid (prj_dec _ _ _ _)
  generalize decide ((e, L) = (e2, M)) = V at *
  obtain ⟨x0, x1⟩ := hX.c2
  obtain ⟨y0, y1⟩ := hY.c2
  by_cases hf : e = e2
  case neg =>
    have hfb : (e != e2) = true := by simpa using hf
    rw [decide_eq_false hf] at HV
    clear hf ha hb h1 h2 hX hY
    go_enter Try.func17, Try.ntmps17
    go_wp2
    go_ret
    exact ⟨by rw [HV.out]; rfl, hbd⟩
  have hfb : (e != e2) = false := by simpa using hf
  rw [decide_eq_true hf] at HV
  clear hf
  have HL := Lib.hid ha.1
  have HL2 := Lib.hid hb.1
  have HN1 := Lib.hid (fun k => h1.at_ k)
  have HN2 := Lib.hid (fun k => h2.at_ k)
  have HC := Lib.hid (fun h => (ha.below hbd).cells h)
  have HC2 := Lib.hid (fun h => (hb.below hbd).cells h)
  have HYES := Lib.hid (lq_yes (d := stp0) (x := L) (y := M))
  have HLEN := Lib.hid (lq_len (x := L) (y := M))
  have HNO := Lib.hid (fun i => lq_at (d := stp0) (x := L) (y := M) i)
  have HVV : Hid (V = decide (L = M)) := Lib.hid (by rw [HV.out]; simp)
  generalize decide (L = M) = r at *
  obtain rfl := HVV.out
  clear ha hb h1 h2 HV HVV
  by_cases hnm : n = m
  case neg =>
    have hb2 : ((n : Int) != (m : Int)) = true := by simp; omega
    have HR := Lib.hid (HLEN.out (by rw [HL.out, HL2.out]; exact hnm))
    clear hX hY
    go_enter Try.func17, Try.ntmps17
    go_wp2
    go_ret
    exact ⟨by rw [HR.out]; rfl, hbd⟩
  subst hnm
  have hb2 : ((n : Int) != (n : Int)) = false := by simp
  have HX := Lib.hid hX
  have HY := Lib.hid hY
  clear hX hY
  go_enter Try.func17, Try.ntmps17
  go_wp2
  clear x0 x1 y0 y1
  generalize (w.alloc (.cells (prc e A n c) 25)).alloc (.cells (prc e2 B n d) 25) = w0 at *
  go_loopw [5] (fun i wr => ∃ k : Nat, k ≤ n ∧ i = .int .i64 k ∧ Hid (∀ j, j < k → L.getD j stp0 = M.getD j stp0) ∧ Below w0.heap.size w0 wr) (fun i _ => n - (intOf i).toNat)
  case atStart => exact ⟨0, by omega, rfl, Lib.hid (by intro j hj; omega), Below.refl _ _⟩
  case round =>
    obtain ⟨k, hk, rfl, hj, hb⟩ := hrel
    obtain ⟨x0, x1⟩ := (HX.out.below hb).c2
    obtain ⟨y0, y1⟩ := (HY.out.below hb).c2
    by_cases hlt : k < n
    · obtain ⟨g, o, rfl, _, hg, hc⟩ := HC.out (by omega)
      obtain ⟨g', o', rfl, _, hg', hc'⟩ := HC2.out (by omega)
      obtain ⟨f, t, S, a1, l1, m1, he1, _, _, hl1, _, _, hst1, hcell1⟩ := hc k hlt
      obtain ⟨f2, t2, S2, a2, l2, m2, he2, _, _, hl2, _, _, hst2, hcell2⟩ := hc' k hlt
      have hp1 := HN1.out k
      have hp2 := HN2.out k
      have HNK := Lib.hid (HNO.out k)
      have HEQ : Hid ((f, t, S) = (f2, t2, S2) → L.getD k stp0 = M.getD k stp0) := Lib.hid (by rw [he1, he2]; exact id)
      rw [he1, he2] at HNK
      rw [he1] at hp1
      rw [he2] at hp2
      obtain ⟨p1, p1l⟩ := hp1
      obtain ⟨p2, p2l⟩ := hp2
      dsimp only at p1 p1l p2 p2l
      rw [hl1] at p1
      rw [hl2] at p2
      have ek : (k : Int) < n := by omega
      have e3 : IntKind.i64.wrap ((k : Int) + 1) = ((k + 1 : Nat) : Int) := IntWalk.i64_in _ (by omega)
      have hS : RpsS w.heap.size (prc e (some ⟨g, o, none⟩) n c) (prc e2 (some ⟨g', o', none⟩) n d) g (o + k * 3) f t (.slice a1 l1 m1) g' (o' + k * 3) f2 t2 (.slice a2 l2 m2) wr.drew := ⟨(HX.out.below hb).drew, (HY.out.below hb).drew, hcell1 wr hb, hcell2 wr hb⟩
      have L1 : ∀ w', RpsS w.heap.size (prc e (some ⟨g, o, none⟩) n c) (prc e2 (some ⟨g', o', none⟩) n d) g (o + k * 3) f t (.slice a1 l1 m1) g' (o' + k * 3) f2 t2 (.slice a2 l2 m2) w' → w'.cell? ⟨w.heap.size, 1, none⟩ = some (.slice (some ⟨g, o, none⟩) n c) := fun w' h => h.1.c2.2
      have L2 : ∀ w', RpsS w.heap.size (prc e (some ⟨g, o, none⟩) n c) (prc e2 (some ⟨g', o', none⟩) n d) g (o + k * 3) f t (.slice a1 l1 m1) g' (o' + k * 3) f2 t2 (.slice a2 l2 m2) w' → w'.cell? ⟨w.heap.size + 1, 1, none⟩ = some (.slice (some ⟨g', o', none⟩) n d) := fun w' h => h.2.1.c2.2
      have L3 : ∀ w', RpsS w.heap.size (prc e (some ⟨g, o, none⟩) n c) (prc e2 (some ⟨g', o', none⟩) n d) g (o + k * 3) f t (.slice a1 l1 m1) g' (o' + k * 3) f2 t2 (.slice a2 l2 m2) w' → (w'.cell? ⟨g, o + k * 3, none⟩ = some (.int .u64 f) ∧ w'.cell? ⟨g, o + k * 3 + 1, none⟩ = some (.int .u64 t) ∧ w'.cell? ⟨g, o + k * 3 + 2, none⟩ = some (.slice a1 l1 m1)) := fun w' h => h.2.2.1
      have L4 : ∀ w', RpsS w.heap.size (prc e (some ⟨g, o, none⟩) n c) (prc e2 (some ⟨g', o', none⟩) n d) g (o + k * 3) f t (.slice a1 l1 m1) g' (o' + k * 3) f2 t2 (.slice a2 l2 m2) w' → (w'.cell? ⟨g', o' + k * 3, none⟩ = some (.int .u64 f2) ∧ w'.cell? ⟨g', o' + k * 3 + 1, none⟩ = some (.int .u64 t2) ∧ w'.cell? ⟨g', o' + k * 3 + 2, none⟩ = some (.slice a2 l2 m2)) := fun w' h => h.2.2.2
      have hbw : Below w0.heap.size w0 wr.drew := hb.trans ((below_one' _).mono hb.size)
      have HDEC : Hid (decide ((f, t, S) = (f2, t2, S2)) = true ↔ (f, t, S) = (f2, t2, S2)) := Lib.hid decide_eq_true_iff
      have hcon := fun w' (h : Below w0.heap.size w0 w') => rstsame_any P Q f t a1 l1 m1 S f2 t2 a2 l2 m2 S2 w' (hst1.below h) (hst2.below h) p1 p2 p1l p2l
      unfold BPost at hcon
      generalize decide ((f, t, S) = (f2, t2, S2)) = dv at *
      have HCON := Lib.hid (hcon _ hbw)
      clear hc hc' hst1 hst2 hl1 hl2 hcell1 hcell2 he1 he2 p1l p2l p1 p2 hcon
      go_wp2
      clear x0 x1 y0 y1
      refine Seq.wp_region_seq (RpsS w.heap.size (prc e (some ⟨g, o, none⟩) n c) (prc e2 (some ⟨g', o', none⟩) n d) g (o + k * 3) f t (.slice a1 l1 m1) g' (o' + k * 3) f2 t2 (.slice a2 l2 m2)) (by kernel_rfl) (by kernel_rfl) hS ?_
      repeat (first | (refine Seq.Seq.skip (by rfl) ?_; (try simp only [Act.put, List.setIfInBounds_toArray, List.set_cons_zero, List.set_cons_succ])) | (refine Seq.Seq.det ?_ (by rfl) (fun w hS => ?_) ?_; rotate_left; ((try dsimp only at hS); go_simp; (try rw [if_pos (by omega)]); with_reducible rfl); (try simp only [Act.put, List.setIfInBounds_toArray, List.set_cons_zero, List.set_cons_succ])))
      refine Seq.Seq.make (by rfl) (by rfl) (fun K Q' hK => ?_)
      go_simp
      go_at_call 46
      refine HCON.out.mono ?_
      rintro e w1 ⟨rfl, hb1⟩
      replace hS := hS.below hb1
      refine hK.out _ _ (hS) ?_
      clear hK K
      try simp only [Act.put, List.setIfInBounds_toArray, List.set_cons_zero, List.set_cons_succ]
      repeat (first | (refine Seq.Seq.skip (by rfl) ?_; (try simp only [Act.put, List.setIfInBounds_toArray, List.set_cons_zero, List.set_cons_succ])) | (refine Seq.Seq.det ?_ (by rfl) (fun w hS => ?_) ?_; rotate_left; ((try dsimp only at hS); go_simp; (try rw [if_pos (by omega)]); with_reducible rfl); (try simp only [Act.put, List.setIfInBounds_toArray, List.set_cons_zero, List.set_cons_succ])))
      refine Seq.Seq.nil ?_
      have hbx := hbw.trans (hb1.mono hbw.size)
      clear hb hb1 hbw hS L1 L2 L3 L4 HCON
      cases dv
      · have HR := Lib.hid (HNK.out (fun e => by have := HDEC.out.2 e; cases this))
        go_wp2
        go_ret
        exact ⟨by rw [HR.out]; rfl, hbd.trans (hbx.mono hbd.size)⟩
      · have HE := Lib.hid (HEQ.out (HDEC.out.1 rfl))
        go_wp2
        go_roundw
        case rel => exact ⟨k + 1, by omega, by go_num, Lib.hid (fun j hjk => by
          rcases Nat.lt_or_ge j k with h | h
          · exact hj.out j h
          · obtain rfl : j = k := by omega
            exact HE.out), hbx⟩
        case measure => simp [intOf]; omega
    · obtain rfl : k = n := by omega
      go_wp2
      go_ret
      exact ⟨by rw [HYES.out (by rw [HL.out, HL2.out]) (fun i hi => hj.out i (by rw [HL.out] at hi; exact hi))]; rfl, hbd.trans (hb.mono hbd.size)⟩
end Go.Proofs.Ytghlediibhnloaa.Cur
