/- Projections: Right, by the program and by the document. -/
import Derived.Test.YtghlediibhnloaaPrjA
namespace Go.Proofs.Ytghlediibhnloaa.Cur
open Go.RowKit Mem
set_option linter.unusedVariables false
set_option maxRecDepth 100000


abbrev pragg (e : Int) (A : Option Addr) (n m : Nat) : Value := .agg #[.int .u64 e, .slice A n m]
abbrev prc (e : Int) (A : Option Addr) (n m : Nat) : Array Value := #[.int .u64 e, .slice A n m]
theorem prok_eq (e : Int) (L : List Stp) : prok (e, L) = (epk e && decide (L.length ≤ 64) && pch 0 L 4611686018427387904) := by
  unfold prok
  rcases L with _ | ⟨s, L⟩
  · show (epk e && _ && _ && decide ((0 : Int) = 4611686018427387904)) = (_ && _ && decide ((0 : Int) = 4611686018427387904))
    rw [decide_eq_false (show ¬ (0 : Int) = 4611686018427387904 by decide)]; simp
  · dsimp only
    rw [decide_eq_true (show 1 ≤ (s :: L).length by simp), Bool.and_true]

set_option maxHeartbeats 2000000 in
theorem prright_any (P : Nat → Prop) (e : Int) (A : Option Addr) (n m : Nat) (L : List Stp) (w : World) (hz : Pts w P A n L) (hn : n ≤ 1000000) (hlen : plen 1000000 L) :
    Calls Try.prog 14 #[pragg e A n m] w (BPost (.bool (prok (e, L))) w) := by
  have hX := Blk.new w (prc e A n m) 25
  have hb := below_one w (.cells (prc e A n m) 25)
  have hcon := whole_any P A n m L _ (hz.below hb) hn hlen
  unfold BPost at hcon ⊢
  have HV : Hid (prok (e, L) = (epk e && decide (n ≤ 64) && pch 0 L 4611686018427387904)) := Lib.hid (by rw [prok_eq, hz.1])
  generalize prok (e, L) = V at *
  generalize pch 0 L 4611686018427387904 = r at *
  obtain ⟨x0, x1⟩ := hX.c2
  have hec := fun w' => eright_any e w'
  cases hE : epk e
  · rw [hE] at hec HV
    clear hX hz hlen hcon hE
    go_enter Try.func14, Try.ntmps14
    go_wp2_with fail
    refine (hec _).mono ?_
    rintro en w' ⟨rfl, rfl⟩
    go_wp2
    go_ret
    exact ⟨by rw [HV.out]; rfl, hb⟩
  rw [hE] at hec HV
  clear hE
  by_cases h6 : n ≤ 64
  · have HVV : Hid (V = r) := Lib.hid (by rw [HV.out, decide_eq_true h6]; rfl)
    have e1 : (n : Int) ≤ 64 := by omega
    clear hX hz hlen
    go_enter Try.func14, Try.ntmps14
    go_wp2_with fail
    refine (hec _).mono ?_
    rintro en w' ⟨rfl, rfl⟩
    go_wp2_with fail
    refine hcon.mono ?_
    rintro en w1 ⟨rfl, hb1⟩
    have hbd := hb.trans (hb1.mono hb.size)
    clear hcon hb1
    go_wp2
    go_ret
    exact ⟨by rw [HVV.out]; rfl, hbd⟩
  · have HVV : Hid (V = false) := Lib.hid (by rw [HV.out, decide_eq_false h6]; simp)
    have e1 : ¬ (n : Int) ≤ 64 := by omega
    clear hX hz hlen hcon h6
    go_enter Try.func14, Try.ntmps14
    go_wp2_with fail
    refine (hec _).mono ?_
    rintro en w' ⟨rfl, rfl⟩
    go_wp2
    go_ret
    exact ⟨by rw [HVV.out]; rfl, hb⟩

/-- What the document's round needs. -/
def RpS (x g : Nat) (u : Array Value) (o : Nat) (f t : Int) (a : Option Addr) (l m : Nat) (o2 : Nat) (pv : Int) (w : World) : Prop :=
  Blk w x u 25 ∧ w.cell? ⟨g, o, none⟩ = some (.int .u64 f) ∧ w.cell? ⟨g, o + 1, none⟩ = some (.int .u64 t) ∧ w.cell? ⟨g, o + 2, none⟩ = some (.slice a l m) ∧ w.cell? ⟨g, o2 + 1, none⟩ = some (.int .u64 pv)
theorem RpS.below {x g : Nat} {u : Array Value} {o : Nat} {f t : Int} {a : Option Addr} {l m : Nat} {o2 : Nat} {pv : Int} {w w' : World} (h : RpS x g u o f t a l m o2 pv w) (hb : Below w.heap.size w w') : RpS x g u o f t a l m o2 pv w' :=
  ⟨h.1.below hb, (hb.cell (lt_of_cell h.2.1)).trans h.2.1, (hb.cell (lt_of_cell h.2.2.1)).trans h.2.2.1, (hb.cell (lt_of_cell h.2.2.2.1)).trans h.2.2.2.1, (hb.cell (lt_of_cell h.2.2.2.2)).trans h.2.2.2.2⟩
set_option maxHeartbeats 8000000 in
theorem rprright_any (P : Nat → Prop) (e : Int) (A : Option Addr) (n m : Nat) (L : List Stp) (w : World) (hz : Pts w P A n L) (hn : n ≤ 1000000) (hlen : plen 1000000 L) (e0 : 0 ≤ e) :
    Calls Try.prog 15 #[pragg e A n m] w (BPost (.bool (prok (e, L))) w) := by
  have hX := Blk.new w (prc e A n m) 25
  have hb := below_one w (.cells (prc e A n m) 25)
  unfold BPost
  have HV : Hid (prok (e, L) = (epk e && decide (n ≤ 64) && pch 0 L 4611686018427387904)) := Lib.hid (by rw [prok_eq, hz.1])
  have HL := Lib.hid hz.1
  have HC := Lib.hid (fun h => (hz.below hb).cells h)
  have HLEN := Lib.hid (fun k => hlen.at_ k)
  have HNO := Lib.hid (fun k h => pch_no (L := L) (f := 0) (t := 4611686018427387904) (k := k) h)
  have HEND := Lib.hid (pch_end (L := L) (f := 0) (t := 4611686018427387904))
  have HX := Lib.hid hX
  generalize prok (e, L) = V at *
  generalize pch 0 L 4611686018427387904 = r at *
  obtain ⟨x0, x1⟩ := hX.c2
  have hec := fun w' => rright17_any e e0 w'
  clear hX hz hlen
  cases hE : epk e
  · have HVV : Hid (V = false) := Lib.hid (by rw [HV.out, hE]; rfl)
    rw [hE] at hec
    clear hE
    clear HC HX HLEN
    go_enter Try.func15, Try.ntmps15
    go_wp2_with fail
    refine (hec _).mono ?_
    rintro en w' ⟨rfl, rfl⟩
    go_wp2
    go_ret
    exact ⟨by rw [HVV.out]; rfl, hb⟩
  rw [hE] at hec HV
  clear hE
  by_cases h1 : n < 1
  · have HVV : Hid (V = false) := Lib.hid (by
      have : L = [] := List.eq_nil_of_length_eq_zero (by rw [HL.out]; omega)
      have hr := HEND.out (fun k hk => absurd hk (by rw [this]; simp))
      rw [HV.out, hr, this, decide_eq_false (show ¬ pe 0 [] ([] : List Stp).length = 4611686018427387904 by decide)]; simp)
    have e1 : (n : Int) < 1 := by omega
    clear h1
    clear HC HX HLEN
    go_enter Try.func15, Try.ntmps15
    go_wp2_with fail
    refine (hec _).mono ?_
    rintro en w' ⟨rfl, rfl⟩
    go_wp2
    go_ret
    exact ⟨by rw [HVV.out]; rfl, hb⟩
  by_cases h6 : 64 < n
  · have HVV : Hid (V = false) := Lib.hid (by rw [HV.out, decide_eq_false (by omega)]; simp)
    have e1 : ¬ (n : Int) < 1 := by omega
    have e2 : 64 < (n : Int) := by omega
    clear h1 h6
    clear HC HX HLEN
    go_enter Try.func15, Try.ntmps15
    go_wp2_with fail
    refine (hec _).mono ?_
    rintro en w' ⟨rfl, rfl⟩
    go_wp2
    go_ret
    exact ⟨by rw [HVV.out]; rfl, hb⟩
  have HVV : Hid (V = r) := Lib.hid (by rw [HV.out, decide_eq_true (show n ≤ 64 by omega)]; rfl)
  have hvv := HVV.out
  clear HV HVV
  subst hvv
  have e1 : ¬ (n : Int) < 1 := by omega
  have e2 : ¬ 64 < (n : Int) := by omega
  obtain ⟨g, o, rfl, _, hg, hc⟩ := HC.out (by omega)
  have HCC := Lib.hid hc
  obtain ⟨f0', t0', S0, a0, l0, m0, he0, _, _, _, _, _, _, hcell0⟩ := hc 0 (by omega)
  obtain ⟨y0, _, _⟩ := hcell0 _ (Below.refl _ _)
  obtain ⟨f1', t1', S1, a1, l1, m1, he1, _, _, _, _, _, _, hcell1⟩ := hc (n - 1) (by omega)
  obtain ⟨_, y1, _⟩ := hcell1 _ (Below.refl _ _)
  rw [Nat.zero_mul, Nat.add_zero] at y0
  have e4 : IntKind.i64.wrap ((n : Int) - 1) = ((n - 1 : Nat) : Int) := by rw [IntWalk.i64_in _ (by omega)]; omega
  have e5 : ((n - 1 : Nat) : Int) < n := by omega
  have e6 : (0 : Int) < n := by omega
  have HP0 : Hid (∀ k, k < L.length → (L.getD k stp0).1 = pe 0 L k → k = 0 → f0' = 0) := Lib.hid fun k _ h hk => by
    subst hk
    rw [he0, pe_zero] at h
    exact h
  have HPN : Hid (pe 0 L n = t1') := Lib.hid (by
    have := pe_succ 0 L (n - 1)
    rw [show n - 1 + 1 = n by omega, he1] at this
    exact this)
  have HF0 : Hid ((L.getD 0 stp0).1 = f0') := Lib.hid (by rw [he0])
  clear hc he0 he1 hcell0 hcell1 HC h1 h6
  by_cases hf0 : f0' = 0
  case neg =>
    have hfb : (f0' != 0) = true := by simpa using hf0
    have HVV : Hid (V = false) := Lib.hid (HNO.out 0 (by rw [HL.out]; omega) (fun h => hf0 (HP0.out 0 (by rw [HL.out]; omega) h.1 rfl)))
    clear hf0
    clear HX HLEN
    go_enter Try.func15, Try.ntmps15
    go_wp2_with fail
    refine (hec _).mono ?_
    rintro en w' ⟨rfl, rfl⟩
    go_wp2
    go_ret
    exact ⟨by rw [HVV.out]; rfl, hb⟩
  have Hf0 : Hid (∀ k, k = 0 → (L.getD k stp0).1 = 0) := Lib.hid fun k hk => by rw [hk, HF0.out, hf0]
  clear HF0
  subst hf0
  by_cases ht1 : t1' = 4611686018427387904
  case neg =>
    have htb : (t1' != 4611686018427387904) = true := by simpa using ht1
    have HVV : Hid (V = false) := Lib.hid (by
      cases hr : V with
      | false => rfl
      | true =>
        by_cases hall : ∀ k, k < L.length → (L.getD k stp0).1 = pe 0 L k ∧ stok (L.getD k stp0) = true
        · have := HEND.out hall
          rw [HL.out, HPN.out, decide_eq_false ht1, hr] at this
          exact this
        · exfalso
          apply hall
          intro k hk
          refine Classical.byContradiction fun hh => ?_
          have := HNO.out k hk hh
          rw [hr] at this
          cases this)
    clear ht1
    clear HX HLEN
    go_enter Try.func15, Try.ntmps15
    go_wp2_with fail
    refine (hec _).mono ?_
    rintro en w' ⟨rfl, rfl⟩
    go_wp2
    go_ret
    exact ⟨by rw [HVV.out]; rfl, hb⟩
  have htb : (t1' != 4611686018427387904) = false := by simpa using ht1
  have HVT : Hid ((∀ k, k < L.length → (L.getD k stp0).1 = pe 0 L k ∧ stok (L.getD k stp0) = true) → V = true) := Lib.hid fun h => by
    have := HEND.out h
    rw [HL.out, HPN.out, decide_eq_true ht1] at this
    exact this
  clear ht1 HPN HP0
  go_enter Try.func15, Try.ntmps15
  go_wp2_with fail
  refine (hec _).mono ?_
  rintro en w' ⟨rfl, rfl⟩
  go_wp2
  clear x0 x1 y0 y1 e1 e2 hec htb
  generalize w.alloc (.cells (prc e (some ⟨g, o, none⟩) n m) 25) = w0 at *
  go_loopw [4] (fun i wr => ∃ k : Nat, k ≤ n ∧ i = .int .i64 k ∧ Hid (∀ j, j < k → (L.getD j stp0).1 = pe 0 L j ∧ stok (L.getD j stp0) = true) ∧ Below w0.heap.size w0 wr) (fun i _ => n - (intOf i).toNat)
  case atStart => exact ⟨0, by omega, rfl, Lib.hid (by intro j hj; omega), Below.refl _ _⟩
  case round =>
    obtain ⟨k, hk, rfl, hj, hb0⟩ := hrel
    by_cases hlt : k < n
    · obtain ⟨f, t, S, a, l, mm, he, ⟨fb, _⟩, _, hl, hlm, _, hst, hcell⟩ := HCC.out k hlt
      obtain ⟨c0, c1, c2⟩ := hcell wr hb0
      have hprev : ∃ o2 pv, wr.cell? ⟨g, o2 + 1, none⟩ = some (.int .u64 pv) ∧ (k ≠ 0 → o2 = o + (k - 1) * 3 ∧ pv = pe 0 L k) := by
        by_cases h0 : k = 0
        · exact ⟨o + k * 3, t, c1, fun h => absurd h0 h⟩
        · obtain ⟨f9, t9, S9, a9, l9, m9, he9, _, _, _, _, _, _, hcell9⟩ := HCC.out (k - 1) (by omega)
          refine ⟨o + (k - 1) * 3, t9, (hcell9 wr hb0).2.1, fun _ => ⟨rfl, ?_⟩⟩
          have := pe_succ 0 L (k - 1)
          rw [show k - 1 + 1 = k by omega, he9] at this
          exact this.symm
      obtain ⟨o2, pv, cpv, hpv⟩ := hprev
      have hll := HLEN.out k
      have HR1 := Lib.hid (HNO.out k (by rw [HL.out]; exact hlt))
      rw [he] at hll HR1
      have HE := Lib.hid he
      have e2 : (k : Int) < n := by omega
      have e3 : IntKind.i64.wrap ((k : Int) + 1) = ((k + 1 : Nat) : Int) := IntWalk.i64_in _ (by omega)
      have hS : RpS w.heap.size g (prc e (some ⟨g, o, none⟩) n m) (o + k * 3) f t a l mm o2 pv wr.drew := ⟨Blk.drew (HX.out.below hb0), c0, c1, c2, cpv⟩
      have L1 : ∀ w', RpS w.heap.size g (prc e (some ⟨g, o, none⟩) n m) (o + k * 3) f t a l mm o2 pv w' → w'.cell? ⟨w.heap.size, 1, none⟩ = some (.slice (some ⟨g, o, none⟩) n m) := fun w' h => h.1.c2.2
      have L2 : ∀ w', RpS w.heap.size g (prc e (some ⟨g, o, none⟩) n m) (o + k * 3) f t a l mm o2 pv w' → w'.cell? ⟨g, o + k * 3, none⟩ = some (.int .u64 f) ∧ w'.cell? ⟨g, o + k * 3 + 1, none⟩ = some (.int .u64 t) ∧ w'.cell? ⟨g, o + k * 3 + 2, none⟩ = some (.slice a l mm) := fun w' h => ⟨h.2.1, h.2.2.1, h.2.2.2.1⟩
      have L3 : ∀ w', RpS w.heap.size g (prc e (some ⟨g, o, none⟩) n m) (o + k * 3) f t a l mm o2 pv w' → w'.cell? ⟨g, o2 + 1, none⟩ = some (.int .u64 pv) := fun w' h => h.2.2.2.2
      have hbw : Below w0.heap.size w0 wr.drew := hb0.trans ((below_one' wr).mono hb0.size)
      have hrcon := rright19_any P f t a l mm S _ (hst.below hbw) hlm (by have := hll.1; rw [← hl]; exact this) hll.2
      unfold BPost at hrcon
      have HJ := Lib.hid (fun (h : f = pe 0 L k ∧ stok (f, t, S) = true) (i : Nat) (hi : i < k + 1) => show (L.getD i stp0).1 = pe 0 L i ∧ stok (L.getD i stp0) = true by
        rcases Nat.lt_or_ge i k with h2 | h2
        · exact hj.out i h2
        · obtain rfl : i = k := by omega
          rw [HE.out]; exact h)
      generalize stok (f, t, S) = ok at *
      have HPV := Lib.hid hpv
      have HRC := Lib.hid hrcon
      clear hcell hl hst he hj hb0 hpv hrcon hll c0 c1 c2 cpv
      cases ok
      · have HR := Lib.hid (HR1.out (fun h => by cases h.2))
        go_wp2
        refine Seq.wp_region_seq (RpS w.heap.size g (prc e (some ⟨g, o, none⟩) n m) (o + k * 3) f t a l mm _ pv) (by kernel_rfl) (by kernel_rfl) hS ?_
        repeat (first | (refine Seq.Seq.skip (by rfl) ?_; (try simp only [Act.put, List.setIfInBounds_toArray, List.set_cons_zero, List.set_cons_succ])) | (refine Seq.Seq.det ?_ (by rfl) (fun w hS => ?_) ?_; rotate_left; ((try dsimp only at hS); go_simp; (try rw [if_pos (by omega)]); with_reducible rfl); (try simp only [Act.put, List.setIfInBounds_toArray, List.set_cons_zero, List.set_cons_succ])))
        refine Seq.Seq.make (by rfl) (by rfl) (fun K Q' hK => ?_)
        go_simp
        go_at_call 43
        refine HRC.out.mono ?_
        rintro en v1 ⟨rfl, hc1⟩
        replace hS := hS.below hc1
        have hbx := hbw.trans (hc1.mono hbw.size)
        have hbd := hb.trans (hbx.mono hb.size)
        refine hK.out _ _ (hS) ?_
        clear hK K
        try simp only [Act.put, List.setIfInBounds_toArray, List.set_cons_zero, List.set_cons_succ]
        repeat (first | (refine Seq.Seq.skip (by rfl) ?_; (try simp only [Act.put, List.setIfInBounds_toArray, List.set_cons_zero, List.set_cons_succ])) | (refine Seq.Seq.det ?_ (by rfl) (fun w hS => ?_) ?_; rotate_left; ((try dsimp only at hS); go_simp; (try rw [if_pos (by omega)]); with_reducible rfl); (try simp only [Act.put, List.setIfInBounds_toArray, List.set_cons_zero, List.set_cons_succ])))
        refine Seq.Seq.nil ?_
        clear hS L1 L2 L3 hc1 HRC hbw
        go_wp2
        go_ret
        exact ⟨by rw [HR.out]; rfl, hbd⟩
      · by_cases h0 : k = 0
        · have e4' : ¬ 0 < (k : Int) := by omega
          have e4n : ¬ 0 < k := by omega
          by_cases hf : f = 0
          · have HJ2 := Lib.hid (HJ.out ⟨by rw [hf, h0, pe_zero], rfl⟩)
            have HB9 : Hid (k < n) := Lib.hid hlt
            clear h0 hf
            go_wp2
            refine Seq.wp_region_seq (RpS w.heap.size g (prc e (some ⟨g, o, none⟩) n m) (o + k * 3) f t a l mm _ pv) (by kernel_rfl) (by kernel_rfl) hS ?_
            repeat (first | (refine Seq.Seq.skip (by rfl) ?_; (try simp only [Act.put, List.setIfInBounds_toArray, List.set_cons_zero, List.set_cons_succ])) | (refine Seq.Seq.det ?_ (by rfl) (fun w hS => ?_) ?_; rotate_left; ((try dsimp only at hS); go_simp; (try rw [if_pos (by omega)]); with_reducible rfl); (try simp only [Act.put, List.setIfInBounds_toArray, List.set_cons_zero, List.set_cons_succ])))
            refine Seq.Seq.make (by rfl) (by rfl) (fun K Q' hK => ?_)
            go_simp
            go_at_call 43
            refine HRC.out.mono ?_
            rintro en v1 ⟨rfl, hc1⟩
            replace hS := hS.below hc1
            have hbx := hbw.trans (hc1.mono hbw.size)
            have hbd := hb.trans (hbx.mono hb.size)
            refine hK.out _ _ (hS) ?_
            clear hK K
            try simp only [Act.put, List.setIfInBounds_toArray, List.set_cons_zero, List.set_cons_succ]
            repeat (first | (refine Seq.Seq.skip (by rfl) ?_; (try simp only [Act.put, List.setIfInBounds_toArray, List.set_cons_zero, List.set_cons_succ])) | (refine Seq.Seq.det ?_ (by rfl) (fun w hS => ?_) ?_; rotate_left; ((try dsimp only at hS); go_simp; (try rw [if_pos (by omega)]); with_reducible rfl); (try simp only [Act.put, List.setIfInBounds_toArray, List.set_cons_zero, List.set_cons_succ])))
            refine Seq.Seq.nil ?_
            clear hS L1 L2 L3 hc1 HRC hbw
            go_wp2
            go_roundw
            case rel => exact ⟨k + 1, HB9.out, by go_num, HJ2, hbx⟩
            case measure => simp [intOf]; omega
          · exfalso
            have := Hf0.out k h0
            rw [HE.out] at this
            exact hf this
        · have e4' : 0 < (k : Int) := by omega
          have e4n : 0 < k := by omega
          have e5' : IntKind.i64.wrap ((k : Int) - 1) = ((k - 1 : Nat) : Int) := by rw [IntWalk.i64_in _ (by omega)]; omega
          have e6' : ((k - 1 : Nat) : Int) < n := by omega
          obtain ⟨ho2, hpv2⟩ := HPV.out h0
          subst ho2
          have HB9 : Hid (k < n) := Lib.hid hlt
          by_cases hf : f = pv
          · have hfb : (f != pv) = false := by simpa using hf
            have HJ2 := Lib.hid (HJ.out ⟨by rw [hf, hpv2], rfl⟩)
            clear h0 hf hpv2
            go_wp2
            refine Seq.wp_region_seq (RpS w.heap.size g (prc e (some ⟨g, o, none⟩) n m) (o + k * 3) f t a l mm _ pv) (by kernel_rfl) (by kernel_rfl) hS ?_
            repeat (first | (refine Seq.Seq.skip (by rfl) ?_; (try simp only [Act.put, List.setIfInBounds_toArray, List.set_cons_zero, List.set_cons_succ])) | (refine Seq.Seq.det ?_ (by rfl) (fun w hS => ?_) ?_; rotate_left; ((try dsimp only at hS); go_simp; (try rw [if_pos (by omega)]); with_reducible rfl); (try simp only [Act.put, List.setIfInBounds_toArray, List.set_cons_zero, List.set_cons_succ])))
            refine Seq.Seq.make (by rfl) (by rfl) (fun K Q' hK => ?_)
            go_simp
            go_at_call 43
            refine HRC.out.mono ?_
            rintro en v1 ⟨rfl, hc1⟩
            replace hS := hS.below hc1
            have hbx := hbw.trans (hc1.mono hbw.size)
            have hbd := hb.trans (hbx.mono hb.size)
            refine hK.out _ _ (hS) ?_
            clear hK K
            try simp only [Act.put, List.setIfInBounds_toArray, List.set_cons_zero, List.set_cons_succ]
            repeat (first | (refine Seq.Seq.skip (by rfl) ?_; (try simp only [Act.put, List.setIfInBounds_toArray, List.set_cons_zero, List.set_cons_succ])) | (refine Seq.Seq.det ?_ (by rfl) (fun w hS => ?_) ?_; rotate_left; ((try dsimp only at hS); go_simp; (try rw [if_pos (by omega)]); with_reducible rfl); (try simp only [Act.put, List.setIfInBounds_toArray, List.set_cons_zero, List.set_cons_succ])))
            refine Seq.Seq.nil ?_
            clear hS L1 L2 L3 hc1 HRC hbw
            go_wp2
            go_roundw
            case rel => exact ⟨k + 1, HB9.out, by go_num, HJ2, hbx⟩
            case measure => simp [intOf]; omega
          · have hfb : (f != pv) = true := by simpa using hf
            have HR := Lib.hid (HR1.out (fun h => hf (h.1.trans hpv2.symm)))
            clear h0 hf hpv2
            go_wp2
            refine Seq.wp_region_seq (RpS w.heap.size g (prc e (some ⟨g, o, none⟩) n m) (o + k * 3) f t a l mm _ pv) (by kernel_rfl) (by kernel_rfl) hS ?_
            repeat (first | (refine Seq.Seq.skip (by rfl) ?_; (try simp only [Act.put, List.setIfInBounds_toArray, List.set_cons_zero, List.set_cons_succ])) | (refine Seq.Seq.det ?_ (by rfl) (fun w hS => ?_) ?_; rotate_left; ((try dsimp only at hS); go_simp; (try rw [if_pos (by omega)]); with_reducible rfl); (try simp only [Act.put, List.setIfInBounds_toArray, List.set_cons_zero, List.set_cons_succ])))
            refine Seq.Seq.make (by rfl) (by rfl) (fun K Q' hK => ?_)
            go_simp
            go_at_call 43
            refine HRC.out.mono ?_
            rintro en v1 ⟨rfl, hc1⟩
            replace hS := hS.below hc1
            have hbx := hbw.trans (hc1.mono hbw.size)
            have hbd := hb.trans (hbx.mono hb.size)
            refine hK.out _ _ (hS) ?_
            clear hK K
            try simp only [Act.put, List.setIfInBounds_toArray, List.set_cons_zero, List.set_cons_succ]
            repeat (first | (refine Seq.Seq.skip (by rfl) ?_; (try simp only [Act.put, List.setIfInBounds_toArray, List.set_cons_zero, List.set_cons_succ])) | (refine Seq.Seq.det ?_ (by rfl) (fun w hS => ?_) ?_; rotate_left; ((try dsimp only at hS); go_simp; (try rw [if_pos (by omega)]); with_reducible rfl); (try simp only [Act.put, List.setIfInBounds_toArray, List.set_cons_zero, List.set_cons_succ])))
            refine Seq.Seq.nil ?_
            clear hS L1 L2 L3 hc1 HRC hbw
            go_wp2
            go_ret
            exact ⟨by rw [HR.out]; rfl, hbd⟩
    · obtain rfl : k = n := by omega
      have HR := Lib.hid (HVT.out (fun i hi => hj.out i (by rw [HL.out] at hi; exact hi)))
      have hbd := hb.trans (hb0.mono hb.size)
      go_wp2
      go_ret
      exact ⟨by rw [HR.out]; rfl, hbd⟩
end Go.Proofs.Ytghlediibhnloaa.Cur
