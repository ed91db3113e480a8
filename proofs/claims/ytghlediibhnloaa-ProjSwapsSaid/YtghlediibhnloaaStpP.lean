/- Stripes: whole ones are the same; rows cloned. -/
import Derived.Test.YtghlediibhnloaaStpO
namespace Go.Proofs.Ytghlediibhnloaa.Cur
open Go.RowKit Mem
set_option linter.unusedVariables false
set_option maxRecDepth 100000



theorem stp_dec (f t : Int) (S : List (List Int)) (f2 t2 : Int) (T : List (List Int)) : decide ((f, t, S) = (f2, t2, T)) = (decide (f = f2) && decide (t = t2) && decide (S = T)) := by
  simp only [Prod.mk.injEq, Bool.decide_and, Bool.and_assoc]
set_option maxHeartbeats 2000000 in
theorem stsame_any (P Q : Nat → Prop) (f t : Int) (A : Option Addr) (n c : Nat) (S : List (List Int)) (f2 t2 : Int) (B : Option Addr) (m d : Nat) (T : List (List Int)) (w : World) (ha : Sts w P A n S) (hb : Sts w Q B m T) (hn : n ≤ 1000000) (hm : m ≤ 1000000) (h1 : ∀ l ∈ S, l.length ≤ 1000000) (h2 : ∀ l ∈ T, l.length ≤ 1000000) :
    Calls Try.prog 45 #[stagg f t A n c, stagg f2 t2 B m d] w (BPost (.bool (decide ((f, t, S) = (f2, t2, T)))) w) := by
  have hX := (Blk.new w (stc f t A n c) 60).alloc (.cells (stc f2 t2 B m d) 60)
  have hY := Blk.new (w.alloc (.cells (stc f t A n c) 60)) (stc f2 t2 B m d) 60
  rw [show (w.alloc (.cells (stc f t A n c) 60)).heap.size = w.heap.size + 1 by simp] at hY
  have hbd := below_two w (.cells (stc f t A n c) 60) (.cells (stc f2 t2 B m d) 60)
  unfold BPost
  have HV : Hid (decide ((f, t, S) = (f2, t2, T)) = (decide (f = f2) && decide (t = t2) && decide (S = T))) := Lib.hid (stp_dec _ _ _ _ _ _)
  generalize decide ((f, t, S) = (f2, t2, T)) = V at *
  obtain ⟨x0, x1, x2⟩ := hX.c3
  obtain ⟨y0, y1, y2⟩ := hY.c3
  have hcon := sequalf_any P Q A B n m c d S T _ (ha.below hbd) (hb.below hbd) hn hm h1 h2
  unfold BPost at hcon
  generalize decide (S = T) = sv at *
  clear ha hb h1 h2 hX hY
  by_cases hf : f = f2
  · have hfb : (f == f2) = true := by simpa using hf
    rw [decide_eq_true hf] at HV
    by_cases ht : t = t2
    · have htb : (t == t2) = true := by simpa using ht
      rw [decide_eq_true ht] at HV
      clear hf ht
      go_enter Try.func45, Try.ntmps45
      go_wp2_with fail
      refine hcon.mono ?_
      rintro e w1 ⟨rfl, hb1⟩
      have HB := Lib.hid (hbd.trans (hb1.mono hbd.size))
      clear hcon hb1
      go_wp2
      go_ret
      exact ⟨by rw [HV.out]; rfl, HB.out⟩
    · have htb : (t == t2) = false := by simpa using ht
      rw [decide_eq_false ht] at HV
      clear hf ht hcon
      go_enter Try.func45, Try.ntmps45
      go_wp2
      go_ret
      exact ⟨by rw [HV.out]; rfl, hbd⟩
  · have hfb : (f == f2) = false := by simpa using hf
    rw [decide_eq_false hf] at HV
    clear hf hcon
    go_enter Try.func45, Try.ntmps45
    go_wp2
    go_ret
    exact ⟨by rw [HV.out]; rfl, hbd⟩

/-- What the document's loop needs. -/
def RsS (W : Nat) (x y : Array Value) (g : Nat) (o : Nat) (v : Value) (g' : Nat) (o' : Nat) (v' : Value) (w : World) : Prop := Blk w W x 60 ∧ Blk w (W + 1) y 60 ∧ w.cell? ⟨g, o, none⟩ = some v ∧ w.cell? ⟨g', o', none⟩ = some v'
set_option maxHeartbeats 4000000 in
theorem rstsame_any (P Q : Nat → Prop) (f t : Int) (A : Option Addr) (n c : Nat) (S : List (List Int)) (f2 t2 : Int) (B : Option Addr) (m d : Nat) (T : List (List Int)) (w : World) (ha : Sts w P A n S) (hb : Sts w Q B m T) (hn : n ≤ 1000000) (hm : m ≤ 1000000) (h1 : ∀ l ∈ S, l.length ≤ 1000000) (h2 : ∀ l ∈ T, l.length ≤ 1000000) :
    Calls Try.prog 46 #[stagg f t A n c, stagg f2 t2 B m d] w (BPost (.bool (decide ((f, t, S) = (f2, t2, T)))) w) := by
  have hX := (Blk.new w (stc f t A n c) 60).alloc (.cells (stc f2 t2 B m d) 60)
  have hY := Blk.new (w.alloc (.cells (stc f t A n c) 60)) (stc f2 t2 B m d) 60
  rw [show (w.alloc (.cells (stc f t A n c) 60)).heap.size = w.heap.size + 1 by simp] at hY
  have hbd := below_two w (.cells (stc f t A n c) 60) (.cells (stc f2 t2 B m d) 60)
  unfold BPost
  have HV : Hid (decide ((f, t, S) = (f2, t2, T)) = (decide (f = f2) && decide (t = t2) && decide (S = T))) := Lib.hid (stp_dec _ _ _ _ _ _)
  generalize decide ((f, t, S) = (f2, t2, T)) = V at *
  obtain ⟨x0, x1, x2⟩ := hX.c3
  obtain ⟨y0, y1, y2⟩ := hY.c3
  by_cases hf : f = f2
  case neg =>
    have hfb : (f != f2) = true := by simpa using hf
    rw [decide_eq_false hf] at HV
    clear hf ha hb h1 h2 hX hY
    go_enter Try.func46, Try.ntmps46
    go_wp2
    go_ret
    exact ⟨by rw [HV.out]; rfl, hbd⟩
  have hfb : (f != f2) = false := by simpa using hf
  rw [decide_eq_true hf] at HV
  clear hf
  by_cases ht : t = t2
  case neg =>
    have htb : (t != t2) = true := by simpa using ht
    rw [decide_eq_false ht] at HV
    clear ht ha hb h1 h2 hX hY
    go_enter Try.func46, Try.ntmps46
    go_wp2
    go_ret
    exact ⟨by rw [HV.out]; rfl, hbd⟩
  have htb : (t != t2) = false := by simpa using ht
  rw [decide_eq_true ht] at HV
  clear ht
  have HL := Lib.hid ha.1
  have HL2 := Lib.hid hb.1
  have HN1 := Lib.hid h1
  have HN2 := Lib.hid h2
  have HC := Lib.hid (fun h => (ha.below hbd).cells h)
  have HC2 := Lib.hid (fun h => (hb.below hbd).cells h)
  have HYES := Lib.hid (lq_yes (d := ([] : List Int)) (x := S) (y := T))
  have HLEN := Lib.hid (lq_len (x := S) (y := T))
  have HNO := Lib.hid (fun i => lq_at (d := ([] : List Int)) (x := S) (y := T) i)
  have HVV : Hid (V = decide (S = T)) := Lib.hid (by rw [HV.out]; simp)
  generalize decide (S = T) = r at *
  obtain rfl := HVV.out
  clear ha hb h1 h2 HV HVV
  by_cases hnm : n = m
  case neg =>
    have hb2 : ((n : Int) != (m : Int)) = true := by simp; omega
    have HR := Lib.hid (HLEN.out (by rw [HL.out, HL2.out]; exact hnm))
    clear hX hY
    go_enter Try.func46, Try.ntmps46
    go_wp2
    go_ret
    exact ⟨by rw [HR.out]; rfl, hbd⟩
  subst hnm
  have hb2 : ((n : Int) != (n : Int)) = false := by simp
  have HX := Lib.hid hX
  have HY := Lib.hid hY
  clear hX hY
  go_enter Try.func46, Try.ntmps46
  go_wp2
  clear x0 x1 x2 y0 y1 y2
  generalize (w.alloc (.cells (stc f t A n c) 60)).alloc (.cells (stc f2 t2 B n d) 60) = w0 at *
  go_loopw [5] (fun i wr => ∃ k : Nat, k ≤ n ∧ i = .int .i64 k ∧ Hid (∀ j, j < k → S.getD j [] = T.getD j []) ∧ Below w0.heap.size w0 wr) (fun i _ => n - (intOf i).toNat)
  case atStart => exact ⟨0, by omega, rfl, Lib.hid (by intro j hj; omega), Below.refl _ _⟩
  case round =>
    obtain ⟨k, hk, rfl, hj, hb⟩ := hrel
    obtain ⟨x0, x1, x2⟩ := (HX.out.below hb).c3
    obtain ⟨y0, y1, y2⟩ := (HY.out.below hb).c3
    by_cases hlt : k < n
    · obtain ⟨g, o, rfl, _, hg, hc⟩ := HC.out (by omega)
      obtain ⟨g', o', rfl, _, hg', hc'⟩ := HC2.out (by omega)
      obtain ⟨a1, l1, m1, hl1, _, _, hus1, _, _, hcell1⟩ := hc k hlt
      obtain ⟨a2, l2, m2, hl2, _, _, hus2, _, _, hcell2⟩ := hc' k hlt
      have hll1 := getD_len HN1.out k
      have hll2 := getD_len HN2.out k
      rw [hl1] at hll1
      rw [hl2] at hll2
      have e2 : (k : Int) < n := by omega
      have e3 : IntKind.i64.wrap ((k : Int) + 1) = ((k + 1 : Nat) : Int) := IntWalk.i64_in _ (by omega)
      have HNK := Lib.hid (HNO.out k)
      obtain ⟨u, hu⟩ : ∃ u, u = S.getD k [] := ⟨_, rfl⟩
      obtain ⟨v, hv⟩ : ∃ v, v = T.getD k [] := ⟨_, rfl⟩
      rw [← hu] at hus1 HNK
      rw [← hv] at hus2 HNK
      have HU := Lib.hid hu
      have HV := Lib.hid hv
      have hS : RsS w.heap.size (stc f t (some ⟨g, o, none⟩) n c) (stc f2 t2 (some ⟨g', o', none⟩) n d) g (o + k) (.slice a1 l1 m1) g' (o' + k) (.slice a2 l2 m2) wr.drew := ⟨(HX.out.below hb).drew, (HY.out.below hb).drew, hcell1 wr hb, hcell2 wr hb⟩
      have L1 : ∀ w', RsS w.heap.size (stc f t (some ⟨g, o, none⟩) n c) (stc f2 t2 (some ⟨g', o', none⟩) n d) g (o + k) (.slice a1 l1 m1) g' (o' + k) (.slice a2 l2 m2) w' → w'.cell? ⟨w.heap.size, 2, none⟩ = some (.slice (some ⟨g, o, none⟩) n c) := fun w' h => h.1.c3.2.2
      have L2 : ∀ w', RsS w.heap.size (stc f t (some ⟨g, o, none⟩) n c) (stc f2 t2 (some ⟨g', o', none⟩) n d) g (o + k) (.slice a1 l1 m1) g' (o' + k) (.slice a2 l2 m2) w' → w'.cell? ⟨w.heap.size + 1, 2, none⟩ = some (.slice (some ⟨g', o', none⟩) n d) := fun w' h => h.2.1.c3.2.2
      have L3 : ∀ w', RsS w.heap.size (stc f t (some ⟨g, o, none⟩) n c) (stc f2 t2 (some ⟨g', o', none⟩) n d) g (o + k) (.slice a1 l1 m1) g' (o' + k) (.slice a2 l2 m2) w' → w'.cell? ⟨g, o + k, none⟩ = some (.slice a1 l1 m1) := fun w' h => h.2.2.1
      have L4 : ∀ w', RsS w.heap.size (stc f t (some ⟨g, o, none⟩) n c) (stc f2 t2 (some ⟨g', o', none⟩) n d) g (o + k) (.slice a1 l1 m1) g' (o' + k) (.slice a2 l2 m2) w' → w'.cell? ⟨g', o' + k, none⟩ = some (.slice a2 l2 m2) := fun w' h => h.2.2.2
      have hbw : Below w0.heap.size w0 wr.drew := hb.trans ((below_one' _).mono hb.size)
      have hcon := fun w' (h : Below w0.heap.size w0 w') => rsame5_gen a1 a2 l1 l2 m1 m2 u v w' (hus1.below h) (hus2.below h) hll1 hll2
      have HDEC : Hid (decide (u = v) = true ↔ u = v) := Lib.hid decide_eq_true_iff
      unfold BPost at hcon
      generalize decide (u = v) = dv at *
      have HCON := Lib.hid (hcon _ hbw)
      clear hc hc' hu hv hus1 hus2 hl1 hl2 hcell1 hcell2 hcon
      go_wp2
      clear x0 x1 x2 y0 y1 y2
      refine Seq.wp_region_seq (RsS w.heap.size (stc f t (some ⟨g, o, none⟩) n c) (stc f2 t2 (some ⟨g', o', none⟩) n d) g (o + k) (.slice a1 l1 m1) g' (o' + k) (.slice a2 l2 m2)) (by kernel_rfl) (by kernel_rfl) hS ?_
      repeat (first | (refine Seq.Seq.skip (by rfl) ?_; (try simp only [Act.put, List.setIfInBounds_toArray, List.set_cons_zero, List.set_cons_succ])) | (refine Seq.Seq.det ?_ (by rfl) (fun w hS => ?_) ?_; rotate_left; ((try dsimp only at hS); go_simp; (try rw [if_pos (by omega)]); with_reducible rfl); (try simp only [Act.put, List.setIfInBounds_toArray, List.set_cons_zero, List.set_cons_succ])))
      refine Seq.Seq.make (by rfl) (by rfl) (fun K Q' hK => ?_)
      go_simp
      go_at_call 83
      refine HCON.out.mono ?_
      rintro e w1 ⟨rfl, hb1⟩
      have hS1 : RsS w.heap.size (stc f t (some ⟨g, o, none⟩) n c) (stc f2 t2 (some ⟨g', o', none⟩) n d) g (o + k) (.slice a1 l1 m1) g' (o' + k) (.slice a2 l2 m2) w1 := ⟨hS.1.below hb1, hS.2.1.below hb1, (hb1.cell (lt_of_cell hS.2.2.1)).trans hS.2.2.1, (hb1.cell (lt_of_cell hS.2.2.2)).trans hS.2.2.2⟩
      refine hK.out _ _ (hS1) ?_
      clear hK K
      try simp only [Act.put, List.setIfInBounds_toArray, List.set_cons_zero, List.set_cons_succ]
      repeat (first | (refine Seq.Seq.skip (by rfl) ?_; (try simp only [Act.put, List.setIfInBounds_toArray, List.set_cons_zero, List.set_cons_succ])) | (refine Seq.Seq.det ?_ (by rfl) (fun w hS => ?_) ?_; rotate_left; ((try dsimp only at hS); go_simp; (try rw [if_pos (by omega)]); with_reducible rfl); (try simp only [Act.put, List.setIfInBounds_toArray, List.set_cons_zero, List.set_cons_succ])))
      refine Seq.Seq.nil ?_
      have hbx := hbw.trans (hb1.mono hbw.size)
      clear hb hb1 hbw hS hS1 L1 L2 L3 L4 HCON
      cases dv
      · have HR := Lib.hid (HNK.out (fun e => by have := HDEC.out.2 e; cases this))
        go_wp2
        go_ret
        exact ⟨by rw [HR.out]; rfl, hbd.trans (hbx.mono hbd.size)⟩
      · have HE := Lib.hid (HDEC.out.1 rfl)
        go_wp2
        go_roundw
        case rel => exact ⟨k + 1, by omega, by go_num, Lib.hid (fun j hjk => by
          rcases Nat.lt_or_ge j k with h | h
          · exact hj.out j h
          · obtain rfl : j = k := by omega
            rw [← HU.out, ← HV.out]; exact HE.out), hbx⟩
        case measure => simp [intOf]; omega
    · obtain rfl : k = n := by omega
      go_wp2
      go_ret
      exact ⟨by rw [HYES.out (by rw [HL.out, HL2.out]) (fun i hi => hj.out i (by rw [HL.out] at hi; exact hi))]; rfl, hbd.trans (hb.mono hbd.size)⟩
end Go.Proofs.Ytghlediibhnloaa.Cur
