/- Stripes and projections copied, each set into a block of its own. -/
import Derived.Test.YtghlediibhnloaaSwpA
import Derived.Test.YtghlediibhnloaaPrjG
namespace Go.Proofs.Ytghlediibhnloaa.Cur
open Go.RowKit Mem
set_option linter.unusedVariables false
set_option maxRecDepth 100000


def CpdPost (f t : Int) (S : List (List Int)) (w : World) (en : Ending) (w' : World) : Prop :=
  ∃ (v : Value) (a : Nat) (b : Nat → Nat), en = .returned (.agg #[.int .u64 f, .int .u64 t, v]) ∧ Below w.heap.size w w' ∧ v.ownBlock = some a ∧ ArrD w' w.heap.size v S b ∧ ∀ j k, j < k → k < S.length → b j < b k
/-- The first k of n sets are copies in blocks of their own, the others are as they were. -/
def CpK (w : World) (B g n cap k : Nat) (S : List (List Int)) (old cs : List Value) (b : Nat → Nat) : Prop :=
  w.ownsRow B 101 1 (.slice (some ⟨g, 0, none⟩) n cap) n cs ∧ (∀ i, i < k → ∃ u, cs[i]? = some u ∧ SetD w B u (S.getD i []) (b i)) ∧ (∀ i, k ≤ i → cs[i]? = old[i]?) ∧ ∀ i j, i < j → j < k → b i < b j
theorem CpK.keep {w w' : World} {B g n cap k : Nat} {S : List (List Int)} {old cs : List Value} {b : Nat → Nat} (h : CpK w B g n cap k S old cs b) (hk : ∀ x, B ≤ x → x < w.heap.size → w'.heap[x]? = w.heap[x]?) : CpK w' B g n cap k S old cs b := by
  obtain ⟨h1, h2, h3, h4⟩ := h
  refine ⟨own_block h1 fun x hx => hk x (World.ownsRow.lt h1 x hx).1 (World.ownsRow.lt h1 x hx).2, fun i hi => ?_, h3, h4⟩
  obtain ⟨u, hu, hs⟩ := h2 i hi
  exact ⟨u, hu, hs.keep (hk _ hs.blk.2.1 hs.blk.2.2.1)⟩
theorem CpK.below {w w' : World} {B g n cap k : Nat} {S : List (List Int)} {old cs : List Value} {b : Nat → Nat} (h : CpK w B g n cap k S old cs b) (hb : Below w.heap.size w w') : CpK w' B g n cap k S old cs b := h.keep fun x _ hl => hb.block x hl
theorem CpK.next {w : World} {B g n cap k sz b' : Nat} {S : List (List Int)} {old cs : List Value} {b : Nat → Nat} {v : Value} (h : CpK w B g n cap k S old cs b) (hk : k < n) (hv : SetD w B v (S.getD k []) b') (hsz : sz ≤ b') (hlt : ∀ i, i < k → b i < sz) :
    CpK (w.setCell ⟨g, k, none⟩ v) B g n cap (k + 1) S old (cs.set k v) (fun i => if i = k then b' else b i) := by
  obtain ⟨h1, h2, h3, h4⟩ := h
  have hs := World.ownsRow.stored h1 k v
  obtain ⟨⟨cg, hgb⟩, _⟩ := row_blk h1 rfl
  have hcl : cs.length = n := by have := h1.1; omega
  have hkp : ∀ {u : Value} {z : List Int} {x : Nat}, SetD w B u z x → SetD (w.setCell ⟨g, k, none⟩ v) B u z x := fun hx => hx.keep (Below.heap_setCell _ _ _ _ fun e => by
    obtain ⟨⟨c, hc⟩, _⟩ := hx.blk
    exact blk_ne hc hgb (by decide) e)
  refine ⟨hs.1, fun i hi => ?_, fun i hi => ?_, fun i j hij hj => ?_⟩
  · by_cases hik : i = k
    · subst hik
      exact ⟨v, by rw [List.getElem?_set_self (by omega)], by simp only [if_true]; exact hkp hv⟩
    · obtain ⟨u, hu, hd⟩ := h2 i (by omega)
      exact ⟨u, by rw [List.getElem?_set_ne (fun e => hik e.symm)]; exact hu, by simp only [hik, if_false]; exact hkp hd⟩
  · rw [List.getElem?_set_ne (by omega)]; exact h3 i (by omega)
  · have hik : i ≠ k := by omega
    by_cases hjk : j = k
    · simp only [hjk, hik, if_true, if_false]
      have := hlt i (by omega); omega
    · simp only [hjk, hik, if_false]; exact h4 i j hij (by omega)

set_option maxHeartbeats 4000000 in
theorem stcopyd_any (f t : Int) (A : Option Addr) (n m : Nat) (S : List (List Int)) (w : World) (hz : Sts w (fun b => b < w.heap.size) A n S) (hm : n ≤ m) (hnil : A = none → m = 0) (hn : n ≤ 100000) (hlen : ∀ l ∈ S, l.length ≤ 100000) (hn1 : 1 ≤ n) (hne : ∀ l ∈ S, 1 ≤ l.length) :
    Calls Try.prog 48 #[stagg f t A n m] w (CpdPost f t S w) := by
  have hX := (Blk.new w (stc f t A n m) 60).alloc (.cells (stc 0 0 none 0 0) 60)
  have hY := Blk.new (w.alloc (.cells (stc f t A n m) 60)) (stc 0 0 none 0 0) 60
  rw [show (w.alloc (.cells (stc f t A n m) 60)).heap.size = w.heap.size + 1 by simp] at hY
  have hb := below_two w (.cells (stc f t A n m) 60) (.cells (stc 0 0 none 0 0) 60)
  have hw0 : ((w.alloc (.cells (stc f t A n m) 60)).alloc (.cells (stc 0 0 none 0 0) 60)).heap.size = w.heap.size + 2 := by simp
  have HZ := Lib.hid hz
  have HB0 := Lib.hid hb
  have HLEN := Lib.hid hlen
  have HNE := Lib.hid hne
  have HL := Lib.hid hz.1
  obtain ⟨old, hch, hol, hraw, hone⟩ := (hz.below hb).2.raw
  rw [hz.1, show (SlE U64E).k = 1 from rfl, Nat.mul_one] at hol
  have hcl := clones_any A n m old.flatten _ hol hraw hone hnil (by omega)
  have HCH := Lib.hid hch
  have HOL := Lib.hid hol
  clear hz hlen hch hraw hone hol hne
  obtain ⟨x0, x1, x2⟩ := hX.c3
  go_enter Try.func48, Try.ntmps48
  go_wp2_with fail
  generalize (w.alloc (.cells (stc f t A n m) 60)).alloc (.cells (stc 0 0 none 0 0) 60) = w0 at *
  refine hcl.mono ?_
  rintro e w1 ⟨v, rfl, ho, hb1⟩
  have hX1 := hX.below hb1
  have hY1 := hY.below hb1
  have hbd1 := hb.trans (hb1.mono hb.size)
  have hsz1 := hb1.size
  obtain ⟨g, hvg⟩ : ∃ g, v.ownBlock = some g := by
    rcases ho.2 with ⟨_, h0⟩ | ⟨g, _, _, e, _⟩
    · omega
    · exact ⟨g, by rw [e]; rfl⟩
  obtain ⟨⟨cg, hgb⟩, hB, _, cap, rfl, hcap⟩ := row_blk ho hvg
  clear hcl x0 x1 x2 hX hY hvg
  have hC1 : CpK w1 (w.heap.size + 2) g n cap 0 S old.flatten old.flatten (fun _ => 0) := ⟨by rw [← hw0]; exact ho, fun i hi => absurd hi (by omega), fun i _ => rfl, fun i j _ hj => absurd hj (by omega)⟩
  have hX2 := hX1.set 2 (.slice (some ⟨g, 0, none⟩) n cap)
  have hY2 := hY1.far (g := w.heap.size) 2 (.slice (some ⟨g, 0, none⟩) n cap) (by omega)
  have hbd2 := Below.setCell hbd1 (p := ⟨w.heap.size, 2, none⟩) (Nat.le_refl _) (.slice (some ⟨g, 0, none⟩) n cap)
  have hC2 := hC1.keep (w' := w1.setCell ⟨w.heap.size, 2, none⟩ (.slice (some ⟨g, 0, none⟩) n cap)) (fun x hx _ => Below.heap_setCell _ _ _ _ (fun e => by have e2 : x = w.heap.size := e; omega))
  have hgB : w.heap.size + 2 ≤ g := by omega
  obtain ⟨x0, x1, x2⟩ := hX1.c3
  have i2 := hX1.free 2
  clear ho hC1 hB hgb
  go_upto_region 2 with (fail)
  clear x0 x1 x2 i2 hX1 hY1 hbd1
  generalize w1.setCell ⟨w.heap.size, 2, none⟩ (.slice (some ⟨g, 0, none⟩) n cap) = w2 at *
  have hX3 : Blk w2 w.heap.size (stc f t (some ⟨g, 0, none⟩) n cap) 60 := hX2
  clear hX2
  obtain ⟨x0, x1, x2⟩ := hX3.c3
  go_wp2
  clear x0 x1 x2
  go_loopw [12] (fun i wr => ∃ (k : Nat) (cs : List Value) (b : Nat → Nat), k ≤ n ∧ i = .int .i64 k ∧ Blk wr w.heap.size (stc f t (some ⟨g, 0, none⟩) n cap) 60 ∧ Blk wr (w.heap.size + 1) (stc 0 0 none 0 0) 60 ∧ Hid (CpK wr (w.heap.size + 2) g n cap k S old.flatten cs b) ∧ Below w.heap.size w wr) (fun i _ => n - (intOf i).toNat)
  case atStart => exact ⟨0, _, _, by omega, rfl, hX3, hY2, Lib.hid hC2, hbd2⟩
  case round =>
    clear hX3 hY2 hC2 hbd2
    obtain ⟨k, cs, b, hk, rfl, hX, hY, HC, hbd⟩ := hrel
    obtain ⟨x0, x1, x2⟩ := hX.c3
    by_cases hlt : k < n
    · have hkS : k < S.length := by rw [HL.out]; exact hlt
      obtain ⟨c, ⟨a, mm, rfl, hl1, hnl, hsq⟩, hat⟩ := HCH.out.at_ k S[k] (List.getElem?_eq_getElem hkS)
      have hold := hat 0 _ rfl
      rw [show k * (SlE U64E).k + 0 = k by show k * 1 + 0 = k; omega] at hold
      have hsqr : Sq U64E wr (fun b => b < w.heap.size) a S[k] := hsq.keep fun b hb9 _ => (hbd.block b hb9).trans (HB0.out.block b hb9).symm
      obtain ⟨hus, hbz⟩ := hsqr.us
      have hzk : S.getD k [] = S[k] := by rw [List.getD_eq_getElem?_getD, List.getElem?_eq_getElem hkS]; rfl
      have hzl := HLEN.out _ (List.getElem_mem hkS)
      have hz1 := HNE.out _ (List.getElem_mem hkS)
      obtain ⟨z, hz⟩ : ∃ z, z = S[k] := ⟨_, rfl⟩
      rw [← hz] at hus hbz hzk hl1 hold hzl hz1
      have HZK := Lib.hid hzk
      have HBZ := Lib.hid hbz
      have hrow := HC.out.1
      have hcur : cs[k]? = some (.slice a z.length mm) := (HC.out.2.2.1 k (Nat.le_refl _)).trans hold
      have c0 := (World.ownsRow.cellAt hrow k (by omega)).trans hcur
      have hgl := (World.ownsRow.lt hrow g rfl).2
      have e2 : (k : Int) < n := by omega
      have e3 : IntKind.i64.wrap ((k : Int) + 1) = ((k + 1 : Nat) : Int) := IntWalk.i64_in _ (by omega)
      have hbw : Below w.heap.size w wr.drew := hbd.trans ((below_one' wr).mono hbd.size)
      have hcon := cloneu_any a z.length mm (uv z) wr.drew (by simp) (hus.2 : Rw wr a (uv z)) (by intro u hu; simp [uv] at hu; obtain ⟨x, _, rfl⟩ := hu; rfl) hnl (by omega)
      have hS : Blk wr.drew w.heap.size (stc f t (some ⟨g, 0, none⟩) n cap) 60 := hX
      have L : ∀ w', Blk w' w.heap.size (stc f t (some ⟨g, 0, none⟩) n cap) 60 → w'.cell? ⟨w.heap.size, 2, none⟩ = some (.slice (some ⟨g, 0, none⟩) n cap) := fun w' h => h.c3.2.2
      have hYd : Blk wr.drew (w.heap.size + 1) (stc 0 0 none 0 0) 60 := hY
      have hCd := HC.out.below (below_one' wr)
      have HBL : Hid (∀ i, i < k → b i < wr.heap.size) := Lib.hid fun i hi => by
        obtain ⟨u, _, hd⟩ := HC.out.2.1 i hi
        exact hd.blk.2.2.1
      have hwr2 : w.heap.size + 2 ≤ wr.heap.size := by omega
      clear hat hsq hsqr hus hbz hzk hz hrow hold hcur hX hY hbd HC
      go_wp2
      clear c0 x0 x1 x2
      refine Seq.wp_region_last (fun w' => Blk w' w.heap.size (stc f t (some ⟨g, 0, none⟩) n cap) 60) (by kernel_rfl) (by kernel_rfl) (by kernel_rfl) hS ?_
      repeat (first | (refine Seq.SeqE.skip (by rfl) ?_; (try simp only [Act.put, List.setIfInBounds_toArray, List.set_cons_zero, List.set_cons_succ])) | (refine Seq.SeqE.det ?_ (by rfl) (fun w hS => ?_) ?_; rotate_left; ((try dsimp only at hS); go_simp; (try rw [if_pos (by omega)]); with_reducible rfl); (try simp only [Act.put, List.setIfInBounds_toArray, List.set_cons_zero, List.set_cons_succ])))
      refine Seq.SeqE.make (by rfl) (by rfl) (fun K Q' hK => ?_)
      go_simp
      go_at_call 85
      refine hcon.mono ?_
      rintro e w5 ⟨v, rfl, ho5, hb5⟩
      have hS5 := hS.below hb5
      have hY5 := hYd.below hb5
      have hC5 := hCd.below hb5
      have hbd5 := hbw.trans (hb5.mono hbw.size)
      have hoU : OwnU w5 wr.heap.size v z := ho5
      obtain ⟨b', hvb⟩ : ∃ b', v.ownBlock = some b' := by
        rcases ho5.2 with ⟨_, h0⟩ | ⟨g, _, _, e, _⟩
        · omega
        · exact ⟨g, by rw [e]; rfl⟩
      have hb' := (World.ownsRow.lt hoU b' hvb).1
      obtain ⟨Av, cv, rfl⟩ := hoU.slice
      have hsd : SetD w5 (w.heap.size + 2) (.slice Av z.length cv) z b' := ⟨hvb, ⟨hoU.1, hoU.2.imp id fun ⟨g, c, cur, e1, e2, e3⟩ => ⟨g, c, cur, e1, by omega, e3⟩⟩, HBZ.out⟩
      have hgc := World.ownsRow.cellAt hC5.1 k (by omega)
      have hgs : ∃ x, w5.cell? ⟨g, k, none⟩ = some x := ⟨_, hgc.trans (List.getElem?_eq_getElem (by have := hC5.1.1; omega))⟩
      obtain ⟨xo, q0⟩ := hgs
      have q1 := World.ownsRow.frozenAt hC5.1 k
      clear hcon hb5 ho5 hYd hCd hbw hS hgc hvb
      refine hK.out _ _ (hS5) ?_
      clear hK K
      try simp only [Act.put, List.setIfInBounds_toArray, List.set_cons_zero, List.set_cons_succ]
      repeat (first | (refine Seq.SeqE.skip (by rfl) ?_; (try simp only [Act.put, List.setIfInBounds_toArray, List.set_cons_zero, List.set_cons_succ])) | (refine Seq.SeqE.det ?_ (by rfl) (fun w hS => ?_) ?_; rotate_left; ((try dsimp only at hS); go_simp; (try rw [if_pos (by omega)]); with_reducible rfl); (try simp only [Act.put, List.setIfInBounds_toArray, List.set_cons_zero, List.set_cons_succ])))
      refine Seq.SeqE.last (by rfl) (by rfl) (fun K Q' hK => ?_)
      go_simp
      refine hK.out _ _ ?_
      clear hK K
      try simp only [Act.put, List.setIfInBounds_toArray, List.set_cons_zero, List.set_cons_succ]
      clear q0 q1 L
      have HX9 := Lib.hid (hS5.far (g := g) k (.slice Av z.length cv) (by omega))
      have HY9 := Lib.hid (hY5.far (g := g) k (.slice Av z.length cv) (by omega))
      have HC9 := Lib.hid (hC5.next hlt (by rw [HZK.out]; exact hsd) hb' HBL.out)
      have HB9 := Lib.hid (Below.setCell hbd5 (p := ⟨g, k, none⟩) (by show w.heap.size ≤ g; omega) (.slice Av z.length cv))
      clear hS5 hY5 hC5 hbd5 hsd hoU
      go_wp2
      go_roundw
      case rel => exact ⟨k + 1, _, _, by omega, by go_num, HX9.out, HY9.out, HC9, HB9.out⟩
      case measure => simp [intOf]; omega
    · obtain rfl : k = n := by omega
      obtain ⟨y0, y1, y2⟩ := hY.c3
      have f0 := hY.free 0
      have f1 := hY.free 1
      have f2 := hY.free 2
      clear hlt
      go_wp2
      refine bodyPost_ret (v := stagg f t (some ⟨g, 0, none⟩) k cap) (by simp [results, Try.results48, go_sem, y0, y1, y2]) rfl ⟨_, g, b, rfl, ?_, rfl, ?_, by rw [HL.out]; exact HC.out.2.2.2⟩
      · iterate 3 (refine Below.setCell ?_ (by simp) _)
        exact hbd
      · have hC9 := HC.out.keep (w' := ((wr.setCell ⟨w.heap.size + 1, 0, none⟩ (.int .u64 f)).setCell ⟨w.heap.size + 1, 1, none⟩ (.int .u64 t)).setCell ⟨w.heap.size + 1, 2, none⟩ (.slice (some ⟨g, 0, none⟩) k cap)) (fun x hx _ => by
          rw [Below.heap_setCell _ _ _ _ (by simp; omega), Below.heap_setCell _ _ _ _ (by simp; omega), Below.heap_setCell _ _ _ _ (by simp; omega)])
        obtain ⟨h1, h2, _, _⟩ := hC9
        refine ⟨cs, ⟨by rw [HL.out]; exact h1.1, h1.2.imp (fun h => by rw [HL.out]; exact h) fun ⟨g, c, cur, e1, e2, e3⟩ => ⟨g, c, cur, by rw [HL.out]; exact e1, by omega, by rw [HL.out]; exact e3⟩⟩, fun i hi => ?_⟩
        obtain ⟨u, hu, hd⟩ := h2 i (by rw [← HL.out]; exact hi)
        exact ⟨u, hu, hd.1, ⟨hd.2.1.1, hd.2.1.2.imp id fun ⟨g, c, cur, e1, e2, e3⟩ => ⟨g, c, cur, e1, by omega, e3⟩⟩, hd.2.2⟩
end Go.Proofs.Ytghlediibhnloaa.Cur
