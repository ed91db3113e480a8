/- Projections copied: Copy. -/
import Derived.Test.YtghlediibhnloaaPrjF
import Derived.Test.YtghlediibhnloaaPrjB
namespace Go.Proofs.Ytghlediibhnloaa.Cur
open Go.RowKit Mem
set_option linter.unusedVariables false
set_option maxRecDepth 100000


/-- What the round needs. -/
def CpR (X : Nat) (u : Array Value) (sx : Nat) (us : Array Value) (w : World) : Prop := Blk w X u 25 ∧ Blk w sx us 60
def PCpPost (e : Int) (n : Nat) (L : List Stp) (w : World) (en : Ending) (w' : World) : Prop :=
  ∃ (A : Option Addr) (m : Nat), en = .returned (pragg e A n m) ∧ Below w.heap.size w w' ∧ Pts w' (fun k => w.heap.size ≤ k) A n L ∧ n ≤ m ∧ (A = none → m = 0)
/-- The copy is the call's own. -/
def PCoPost (e : Int) (L : List Stp) (w : World) (en : Ending) (w' : World) : Prop :=
  ∃ v, en = .returned (.agg #[.int .u64 e, v]) ∧ Below w.heap.size w w' ∧ OwnQ StE 60 w' w.heap.size (fun k => w.heap.size ≤ k ∧ v.ownBlock ≠ some k) v L
set_option maxHeartbeats 4000000 in
theorem prcopyo_any (e : Int) (A : Option Addr) (n m : Nat) (L : List Stp) (w : World) (hz : Pts w (fun b => b < w.heap.size) A n L) (hm : n ≤ m) (hnil : A = none → m = 0) (hn : n ≤ 100000) (hlen : plen 100000 L) :
    Calls Try.prog 18 #[pragg e A n m] w (PCoPost e L w) := by
  have hX := (Blk.new w (prc e A n m) 25).alloc (.cells (prc 0 none 0 0) 25)
  have hY := Blk.new (w.alloc (.cells (prc e A n m) 25)) (prc 0 none 0 0) 25
  rw [show (w.alloc (.cells (prc e A n m) 25)).heap.size = w.heap.size + 1 by simp] at hY
  have hb := below_two w (.cells (prc e A n m) 25) (.cells (prc 0 none 0 0) 25)
  have hw0 : ((w.alloc (.cells (prc e A n m) 25)).alloc (.cells (prc 0 none 0 0) 25)).heap.size = w.heap.size + 2 := by simp
  have HZ := Lib.hid hz
  have HB0 := Lib.hid hb
  have HLEN := Lib.hid (fun k => hlen.at_ k)
  have HL := Lib.hid hz.1
  obtain ⟨old, hch, hol, hraw, hone⟩ := (hz.below hb).2.raw
  rw [hz.1, show StE.k = 3 from rfl] at hol
  have hcl := clonep_any A n m old.flatten _ hol hraw hone hnil (by omega)
  have HCH := Lib.hid hch
  have HOL := Lib.hid hol
  clear hz hlen hch hraw hone hol
  obtain ⟨x0, x1⟩ := hX.c2
  go_enter Try.func18, Try.ntmps18
  go_wp2_with fail
  generalize (w.alloc (.cells (prc e A n m) 25)).alloc (.cells (prc 0 none 0 0) 25) = w0 at *
  refine hcl.mono ?_
  rintro en w1 ⟨v, rfl, ho, hb1⟩
  have hX1 := hX.below hb1
  have hY1 := hY.below hb1
  have hbd1 := hb.trans (hb1.mono hb.size)
  have hsz1 := hb1.size
  clear hcl x0 x1 hX hY
  rcases ho.2 with ⟨rfl, h0⟩ | ⟨g, cap, cur, rfl, hB, hh, hcap, hmx, hsz, htk⟩
  · have hL0 : L = [] := List.eq_nil_of_length_eq_zero (by rw [HL.out]; exact h0)
    subst h0
    have hX2 := hX1.set 1 (.slice none 0 0)
    have hY2 := hY1.far (g := w.heap.size) 1 (.slice none 0 0) (by omega)
    have hbd2 := Below.setCell hbd1 (p := ⟨w.heap.size, 1, none⟩) (Nat.le_refl _) (.slice none 0 0)
    obtain ⟨x0, x1⟩ := hX1.c2
    have i2 := hX1.free 1
    clear ho
    go_upto_region 2 with (fail)
    clear x0 x1 i2
    generalize w1.setCell ⟨w.heap.size, 1, none⟩ (.slice none 0 0) = w2 at *
    obtain ⟨x0, x1⟩ := Blk.c2 (v0 := .int .u64 e) (v1 := .slice none 0 0) hX2
    go_wp2
    go_loopw [12] (fun i wr => i = .int .i64 0 ∧ wr = w2) (fun _ _ => 0)
    case atStart => exact ⟨rfl, rfl⟩
    case round =>
      obtain ⟨rfl, rfl⟩ := hrel
      obtain ⟨y0, y1⟩ := hY2.c2
      have f0 := hY2.free 0
      have f1 := hY2.free 1
      go_wp2
      refine bodyPost_ret (v := pragg e none 0 0) (by simp [results, Try.results18, go_sem, y0, y1]) rfl ⟨_, rfl, ?_, by rw [hL0]; exact OwnQ.nil _ _ _ _ _⟩
      iterate 2 (refine Below.setCell ?_ (by simp) _)
      exact hbd2
  · have hC1 : CpP w1 (w.heap.size + 2) g n 0 L old.flatten cur := ⟨hh, by rw [hsz]; omega, fun i hi => absurd hi (by omega), fun i v _ hv => by
      rw [← htk, List.getElem?_take] at hv
      split at hv
      · simpa using hv
      · cases hv⟩
    have hX2 := hX1.set 1 (.slice (some ⟨g, 0, none⟩) n cap)
    have hY2 := hY1.far (g := w.heap.size) 1 (.slice (some ⟨g, 0, none⟩) n cap) (by omega)
    have hbd2 := Below.setCell hbd1 (p := ⟨w.heap.size, 1, none⟩) (Nat.le_refl _) (.slice (some ⟨g, 0, none⟩) n cap)
    have hC2 := hC1.ks (Ks.setCell (S := fun k => k = w.heap.size) w1 w.heap.size 1 (.slice (some ⟨g, 0, none⟩) n cap) rfl) (fun b hb => by omega) (by omega)
    have hgB : w.heap.size + 2 ≤ g := by omega
    have HCSZ := Lib.hid hsz
    have HMX := Lib.hid hmx
    obtain ⟨x0, x1⟩ := hX1.c2
    have i2 := hX1.free 1
    clear ho hh hsz htk hC1 hB hmx
    go_upto_region 2 with (fail)
    clear x0 x1 i2 hX1 hY1 hbd1
    generalize w1.setCell ⟨w.heap.size, 1, none⟩ (.slice (some ⟨g, 0, none⟩) n cap) = w2 at *
    have hX3 : Blk w2 w.heap.size (prc e (some ⟨g, 0, none⟩) n cap) 25 := hX2
    clear hX2
    obtain ⟨x0, x1⟩ := hX3.c2
    go_wp2
    clear x0 x1
    go_loopw [12] (fun i wr => ∃ (k : Nat) (cur : Array Value), k ≤ n ∧ i = .int .i64 k ∧ Blk wr w.heap.size (prc e (some ⟨g, 0, none⟩) n cap) 25 ∧ Blk wr (w.heap.size + 1) (prc 0 none 0 0) 25 ∧ Hid (CpP wr (w.heap.size + 2) g n k L old.flatten cur) ∧ Below w.heap.size w wr ∧ Hid (cur.size = cap * 3)) (fun i _ => n - (intOf i).toNat)
    case atStart => exact ⟨0, cur, by omega, rfl, hX3, hY2, Lib.hid hC2, hbd2, HCSZ⟩
    case round =>
      clear hX3 hY2 hC2 hbd2 HCSZ
      obtain ⟨k, cur, hk, rfl, hX, hY, HC, hbd, HCSZ⟩ := hrel
      obtain ⟨x0, x1⟩ := hX.c2
      by_cases hlt : k < n
      · have hkL : k < L.length := by rw [HL.out]; exact hlt
        obtain ⟨c, hR, hat⟩ := HCH.out.at_ k L[k] (List.getElem?_eq_getElem hkL)
        have hzk : L.getD k stp0 = L[k] := by rw [List.getD_eq_getElem?_getD, List.getElem?_eq_getElem hkL]; rfl
        have hll := HLEN.out k
        rw [hzk] at hll
        obtain ⟨a, mm, rfl, fb, tb, hlm, hnl, hst⟩ := stripe_parts hR
        have o0 := hat 0 _ rfl
        have o1 := hat 1 _ rfl
        have o2 := hat 2 _ rfl
        rw [show StE.k = 3 from rfl] at o0 o1 o2
        rw [Nat.add_zero] at o0
        obtain ⟨s, hs⟩ : ∃ s, s = L[k] := ⟨_, rfl⟩
        rw [← hs] at hst hll hzk hlm fb tb o0 o1 o2
        clear hs hR hat
        obtain ⟨f, t, S⟩ := s
        dsimp only at hst hll hlm fb tb o0 o1 o2
        obtain ⟨l, hl⟩ : ∃ l, l = S.length := ⟨_, rfl⟩
        rw [← hl] at hst hll hlm o2
        have HLS := Lib.hid hl
        have HZK := Lib.hid hzk
        have hblk := HC.out.1
        have c0 := hblk.cell _ (HC.out.2.2.2 _ _ (Nat.le_refl _) o0)
        have c1 := hblk.cell _ (HC.out.2.2.2 _ _ (by omega) o1)
        have c2 := hblk.cell _ (HC.out.2.2.2 _ _ (by omega) o2)
        have hgl := hblk.lt
        have e2 : (k : Int) < n := by omega
        have e3 : IntKind.i64.wrap ((k : Int) + 1) = ((k + 1 : Nat) : Int) := IntWalk.i64_in _ (by omega)
        have hbA := below_one wr (.cells (stc f t a l mm) 60)
        have hbW : Below w.heap.size w (wr.alloc (.cells (stc f t a l mm) 60)) := hbd.trans (hbA.mono hbd.size)
        have hbw : Below w.heap.size w (wr.alloc (.cells (stc f t a l mm) 60)).drew := hbW.trans ((below_one' _).mono hbW.size)
        have hXA := hX.below hbA
        have hYA := hY.below hbA
        have hCA := HC.out.below hbA
        have hSA := Blk.new wr (stc f t a l mm) 60
        have hszA : (wr.alloc (.cells (stc f t a l mm) 60)).drew.heap.size = wr.heap.size + 1 := by show (wr.alloc _).heap.size = _; simp
        have hwr := hbd.size
        have hgw : g ≠ wr.heap.size := by omega
        have hstw : Sts (wr.alloc (.cells (stc f t a l mm) 60)).drew (fun b => b < w.heap.size) a l S := hst.keep fun b hb9 _ => (hbw.block b hb9).trans (HB0.out.block b hb9).symm
        have hcon := stcopy_any f t a l mm S (wr.alloc (.cells (stc f t a l mm) 60)).drew (hstw.mono fun b hb9 _ => by have := hbw.size; omega) hlm hnl (by have := hll.1; omega) hll.2
        have hS : CpR w.heap.size (prc e (some ⟨g, 0, none⟩) n cap) wr.heap.size (stc f t a l mm) (wr.alloc (.cells (stc f t a l mm) 60)).drew := ⟨hXA.drew, hSA.drew⟩
        have L1 : ∀ w', CpR w.heap.size (prc e (some ⟨g, 0, none⟩) n cap) wr.heap.size (stc f t a l mm) w' → w'.cell? ⟨w.heap.size, 1, none⟩ = some (.slice (some ⟨g, 0, none⟩) n cap) := fun w' h => h.1.c2.2
        have L2 : ∀ w', CpR w.heap.size (prc e (some ⟨g, 0, none⟩) n cap) wr.heap.size (stc f t a l mm) w' → w'.cell? ⟨wr.heap.size, 0, none⟩ = some (.int .u64 f) ∧ w'.cell? ⟨wr.heap.size, 1, none⟩ = some (.int .u64 t) ∧ w'.cell? ⟨wr.heap.size, 2, none⟩ = some (.slice a l mm) := fun w' h => h.2.c3
        have hYd : Blk (wr.alloc (.cells (stc f t a l mm) 60)).drew (w.heap.size + 1) (prc 0 none 0 0) 25 := hYA
        have hCd := hCA.below (below_one' _)
        have HC4 := Lib.hid HC.out.2.2.2
        have O0 := Lib.hid o0
        have O1 := Lib.hid o1
        have O2 := Lib.hid o2
        have HBW := Lib.hid hbw
        have HSZ := Lib.hid hszA
        have HFB := Lib.hid fb
        have HTB := Lib.hid tb
        clear hst hzk hl hblk o0 o1 o2 hX hY hbd HC hbA hbW hbw hXA hYA hCA hSA hszA hstw hlm hnl hll fb tb
        go_wp2
        clear c0 c1 c2 x0 x1
        refine Seq.wp_region_last (CpR w.heap.size (prc e (some ⟨g, 0, none⟩) n cap) wr.heap.size (stc f t a l mm)) (by kernel_rfl) (by kernel_rfl) (by kernel_rfl) hS ?_
        generalize (wr.alloc (.cells (stc f t a l mm) 60)).drew = wd at *
        repeat (first | (refine Seq.SeqE.skip (by rfl) ?_; (try simp only [Act.put, List.setIfInBounds_toArray, List.set_cons_zero, List.set_cons_succ])) | (refine Seq.SeqE.det ?_ (by rfl) (fun w hS => ?_) ?_; rotate_left; ((try dsimp only at hS); go_simp; (try rw [if_pos (by omega)]); with_reducible rfl); (try simp only [Act.put, List.setIfInBounds_toArray, List.set_cons_zero, List.set_cons_succ])))
        refine Seq.SeqE.make (by rfl) (by rfl) (fun K Q' hK => ?_)
        go_simp
        go_at_call 48
        refine hcon.mono ?_
        rintro en w5 ⟨A5, m5, rfl, hb5, hst5, hm5, hn5⟩
        have hS5 : CpR w.heap.size (prc e (some ⟨g, 0, none⟩) n cap) wr.heap.size (stc f t a l mm) w5 := ⟨hS.1.below hb5, hS.2.below hb5⟩
        have hY5 := hYd.below hb5
        have hC5 := hCd.below hb5
        have hbd5 := HBW.out.trans (hb5.mono HBW.out.size)
        have hel := StE.mk HFB.out HTB.out HLS.out.symm hm5 hn5 (hst5.mono (Q := fun b => w.heap.size + 2 ≤ b ∧ b ≠ g) (fun b hb9 _ => by have := HSZ.out; have h2 : wd.heap.size ≤ b := hb9; omega))
        have h5 := hC5.1
        have q0 := h5.cell _ (HC4.out _ _ (Nat.le_refl _) O0.out)
        have q1 := h5.cell _ (HC4.out _ _ (by omega) O1.out)
        have q2 := h5.cell _ (HC4.out _ _ (by omega) O2.out)
        have r0 := h5.free (k * 3)
        have r1 := h5.free (k * 3 + 1)
        have r2 := h5.free (k * 3 + 2)
        have hnx := hC5.next hlt (by rw [HZK.out]; exact hel)
        clear hcon hb5 hst5 hm5 hn5 hYd hCd hS h5
        refine hK.out _ _ (hS5) ?_
        clear hK K
        try simp only [Act.put, List.setIfInBounds_toArray, List.set_cons_zero, List.set_cons_succ]
        repeat (first | (refine Seq.SeqE.skip (by rfl) ?_; (try simp only [Act.put, List.setIfInBounds_toArray, List.set_cons_zero, List.set_cons_succ])) | (refine Seq.SeqE.det ?_ (by rfl) (fun w hS => ?_) ?_; rotate_left; ((try dsimp only at hS); go_simp; (try rw [if_pos (by omega)]); with_reducible rfl); (try simp only [Act.put, List.setIfInBounds_toArray, List.set_cons_zero, List.set_cons_succ])))
        refine Seq.SeqE.last (by rfl) (by rfl) (fun K Q' hK => ?_)
        go_simp
        refine hK.out _ _ ?_
        clear hK K
        try simp only [Act.put, List.setIfInBounds_toArray, List.set_cons_zero, List.set_cons_succ]
        clear q0 q1 q2 r0 r1 r2 L1 L2
        have HX9 := Lib.hid (((hS5.1.far (g := g) (k * 3) (.int .u64 f) (by omega)).far (g := g) (k * 3 + 1) (.int .u64 t) (by omega)).far (g := g) (k * 3 + 2) (.slice A5 l m5) (by omega))
        have HY9 := Lib.hid (((hY5.far (g := g) (k * 3) (.int .u64 f) (by omega)).far (g := g) (k * 3 + 1) (.int .u64 t) (by omega)).far (g := g) (k * 3 + 2) (.slice A5 l m5) (by omega))
        have HC9 := Lib.hid hnx
        have HSZ9 : Hid ((((cur.set! (k * 3) (.int .u64 f)).set! (k * 3 + 1) (.int .u64 t)).set! (k * 3 + 2) (.slice A5 l m5)).size = cap * 3) := Lib.hid (by have := HCSZ.out; simpa using this)
        have hgw9 : w.heap.size ≤ g := by omega
        have HB9 := Lib.hid (Below.setCell (Below.setCell (Below.setCell hbd5 (p := ⟨g, k * 3, none⟩) hgw9 (.int .u64 f)) (p := ⟨g, k * 3 + 1, none⟩) hgw9 (.int .u64 t)) (p := ⟨g, k * 3 + 2, none⟩) hgw9 (.slice A5 l m5))
        clear hS5 hY5 hC5 hbd5 hel hnx
        go_wp2
        go_roundw
        case rel => exact ⟨k + 1, _, by omega, by go_num, HX9.out, HY9.out, HC9, HB9.out, HSZ9⟩
        case measure => simp [intOf]; omega
      · obtain rfl : k = n := by omega
        have HPT := Lib.hid (fun w' hk => own_of_cpp (w' := w') (B' := w.heap.size) HC.out HL.out hcap HMX.out HCSZ.out hgB (by omega) hk)
        obtain ⟨y0, y1⟩ := hY.c2
        have f0 := hY.free 0
        have f1 := hY.free 1
        clear HC hlt
        go_wp2
        refine bodyPost_ret (v := pragg e (some ⟨g, 0, none⟩) k cap) (by simp [results, Try.results18, go_sem, y0, y1]) rfl ⟨_, rfl, ?_, HPT.out _ fun b hb9 _ => ?_⟩
        · iterate 2 (refine Below.setCell ?_ (by simp) _)
          exact hbd
        · rw [Below.heap_setCell _ _ _ _ (by simp; omega), Below.heap_setCell _ _ _ _ (by simp; omega)]
theorem prcopy_any (e : Int) (A : Option Addr) (n m : Nat) (L : List Stp) (w : World) (hz : Pts w (fun b => b < w.heap.size) A n L) (hm : n ≤ m) (hnil : A = none → m = 0) (hn : n ≤ 100000) (hlen : plen 100000 L) :
    Calls Try.prog 18 #[pragg e A n m] w (PCpPost e n L w) :=
  (prcopyo_any e A n m L w hz hm hnil hn hlen).mono fun en w' ⟨v, h1, h2, h3⟩ => by
    have hge : ∀ g, v.ownBlock = some g → w.heap.size ≤ g := by
      obtain ⟨cs, _, h, _⟩ := h3
      exact own_ge h
    obtain ⟨A', c, rfl, k1, k2, k3⟩ := OwnQ.slice h3
    rw [hz.1] at h1 k1
    exact ⟨A', c, h1, h2, ⟨hz.1, k3.mono fun b hb _ => by
      rcases hb with hb | hb
      · exact hb.1
      · exact hge b hb⟩, k1, k2⟩
end Go.Proofs.Ytghlediibhnloaa.Cur
