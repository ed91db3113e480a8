/- Projections copied by the document. -/
import Derived.Test.YtghlediibhnloaaPrjO
import Derived.Test.YtghlediibhnloaaStpI
namespace Go.Proofs.Ytghlediibhnloaa.Cur
open Go.RowKit Mem
set_option linter.unusedVariables false
set_option maxRecDepth 100000


theorem take_snoc {α : Type} {l : List α} {k : Nat} {d : α} (h : k < l.length) : l.take k ++ [l.getD k d] = l.take (k + 1) := by
  rw [List.take_add_one, List.getD_eq_getElem?_getD, List.getElem?_eq_getElem h]; rfl
theorem OwnPts.mono3 {w : World} {B B' : Nat} {v : Value} {L : List Stp} (h : OwnPts w B v L) (hB : B' ≤ B) : OwnPts w B' v L := by
  obtain ⟨cs, h1, h2, h3⟩ := h
  exact ⟨cs, h1.mono fun b hb _ => ⟨by omega, hb.2⟩, ⟨h2.1, by
    rcases h2.2 with h | ⟨g, c, cur, a, b, d⟩
    · exact .inl h
    · exact .inr ⟨g, c, cur, a, by omega, d⟩⟩, fun g hg hh => hh.2 hg⟩
/-- What the region reads that makes a stripe. -/
def RcS (X : Nat) (u : Array Value) (g o : Nat) (f t : Int) (w : World) : Prop := Blk w X u 25 ∧ w.cell? ⟨g, o, none⟩ = some (.int .u64 f) ∧ w.cell? ⟨g, o + 1, none⟩ = some (.int .u64 t)
theorem RcS.below {X : Nat} {u : Array Value} {g o : Nat} {f t : Int} {w w' : World} (h : RcS X u g o f t w) (hb : Below w.heap.size w w') : RcS X u g o f t w' := ⟨h.1.below hb, (hb.cell (lt_of_cell h.2.1)).trans h.2.1, (hb.cell (lt_of_cell h.2.2)).trans h.2.2⟩
/-- The state of the outer loop. -/
def RcO (w : World) (e E : Int) (A : Option Addr) (n m : Nat) (L : List Stp) (k : Nat) (v : Value) (wr : World) : Prop :=
  Blk wr w.heap.size (prc e A n m) 25 ∧ Blk wr (w.heap.size + 1) (prc 0 none 0 0) 25 ∧ Blk wr (w.heap.size + 1 + 1) #[.int .u64 E, v] 25 ∧ OwnPts wr (w.heap.size + 3) v (L.take k) ∧ Below w.heap.size w wr
/-- The state of the inner loop. -/
def RcI (wr : World) (f t : Int) (S : List (List Int)) (j : Nat) (v : Value) (w2 : World) : Prop :=
  Blk w2 wr.heap.size #[.int .u64 f, .int .u64 t, v] 60 ∧ OwnSts w2 (wr.heap.size + 1) v (S.take j) ∧ Below wr.heap.size wr w2
theorem OwnU.sets {w : World} {B : Nat} {v : Value} {z : List Int} {T : Value} (h : OwnU w B v z) (hb : ∀ x ∈ z, 0 ≤ x ∧ x < 18446744073709551616) (hT : ∀ g, T.ownBlock = some g → v.ownBlock ≠ some g) : (SlE U64E).R w (fun b => B ≤ b ∧ T.ownBlock ≠ some b) [v] z :=
  (SlE U64E).mono (OwnU.el h hb) fun b hb9 _ => ⟨own_ge h b hb9, fun e => hT b e hb9⟩

set_option maxHeartbeats 8000000 in
theorem rcopied_any (P : Nat → Prop) (e : Int) (A : Option Addr) (n m : Nat) (L : List Stp) (w : World) (hz : Pts w P A n L) (hn : n ≤ 1000) (hlen : plen 1000 L) (e0 : 0 ≤ e) (e1 : e + 1 < 18446744073709551616) :
    Calls Try.prog 65 #[pragg e A n m] w (PCoPost (e + 1) L w) := by
  have HZ := Lib.hid hz
  have HL := Lib.hid hz.1
  have HC := Lib.hid (fun h => hz.cells h)
  have HLEN := Lib.hid (fun k => hlen.at_ k)
  obtain ⟨E, hE⟩ : ∃ E, E = e + 1 := ⟨_, rfl⟩
  rw [← hE]
  have he3 : IntKind.u64.wrap (e + 1) = E := by rw [hE]; exact IntWalk.u64_in _ (by omega)
  clear hE
  obtain ⟨w3, hw3, hX, hY, hO, hb, hsz⟩ : ∃ w3, w3 = ((w.alloc (.cells (prc e A n m) 25)).alloc (.cells (prc 0 none 0 0) 25)).alloc (.cells (prc E none 0 0) 25) ∧ Blk w3 w.heap.size (prc e A n m) 25 ∧ Blk w3 (w.heap.size + 1) (prc 0 none 0 0) 25 ∧ Blk w3 (w.heap.size + 1 + 1) (prc E none 0 0) 25 ∧ Below w.heap.size w w3 ∧ w3.heap.size = w.heap.size + 3 := by
    refine ⟨_, rfl, ?_⟩
    obtain ⟨h1, h2, h3, h4⟩ := three_new (Below.refl _ (((w.alloc (.cells (prc e A n m) 25)).alloc (.cells (prc 0 none 0 0) 25)).alloc (.cells (prc E none 0 0) 25)))
    exact ⟨h1, h2, h3, h4, by simp⟩
  have x0 := ((Blk.new w (prc e A n m) 25).alloc (.cells (prc 0 none 0 0) 25)).c2
  obtain ⟨x0, x1⟩ := x0
  have HO : Hid (RcO w e E A n m L 0 (.slice none 0 0) w3) := Lib.hid ⟨hX, hY, hO, OwnPts.nil _ _, hb⟩
  clear hz hlen hX hY hO hb hsz
  go_enter Try.func65, Try.ntmps65
  go_wp2
  rw [← hw3]
  clear hw3 x0 x1
  clear he3
  go_loopw [4] (fun i wr => ∃ (k : Nat) (v : Value), k ≤ n ∧ i = .int .i64 k ∧ Hid (RcO w e E A n m L k v wr)) (fun i _ => n - (intOf i).toNat)
  case atStart => exact ⟨0, _, by omega, rfl, HO⟩
  case round =>
    clear HO
    obtain ⟨k, v, hk, rfl, HR⟩ := hrel
    obtain ⟨wo, hwo⟩ : ∃ wo, wo = wr := ⟨_, rfl⟩
    subst hwo
    obtain ⟨hX, hY, hO, ho, hb⟩ := HR.out
    obtain ⟨Av, cv, hv, _⟩ := OwnQ.slice ho
    have htl : (L.take k).length = k := by rw [List.length_take, HL.out]; omega
    rw [htl] at hv
    subst hv
    obtain ⟨x0, x1⟩ := hX.c2
    by_cases hlt : k < n
    · obtain ⟨g, o, rfl, _, _, hc⟩ := HC.out (by omega)
      obtain ⟨f, t, S, a, l, mm, he, hf, ht, hl, hlm, han, hst, hcell⟩ := hc k hlt
      obtain ⟨c0, c1, c2⟩ := hcell wo hb
      have hll := HLEN.out k
      rw [he] at hll
      have e2 : (k : Int) < n := by omega
      have e4 : IntKind.i64.wrap ((k : Int) + 1) = ((k + 1 : Nat) : Int) := IntWalk.i64_in _ (by omega)
      have HCELL := Lib.hid hcell
      have HE := Lib.hid he
      have HST := Lib.hid (fun h => hst.cells h)
      have HSL : Hid (S.length = l) := Lib.hid hl
      have HFB := Lib.hid hf
      have HTB := Lib.hid ht
      have hl10 : l ≤ 1000 := by rw [← hl]; exact hll.1
      have HLL : Hid (∀ z ∈ S, z.length ≤ 1000) := Lib.hid hll.2
      have HKL : Hid (k < L.length) := Lib.hid (by rw [HL.out]; exact hlt)
      have hS : RcS w.heap.size (prc e (some ⟨g, o, none⟩) n m) g (o + k * 3) f t wo.drew := RcS.below ⟨hX, c0, c1⟩ (below_one' wo)
      have L1 : ∀ w', RcS w.heap.size (prc e (some ⟨g, o, none⟩) n m) g (o + k * 3) f t w' → w'.cell? ⟨w.heap.size, 1, none⟩ = some (.slice (some ⟨g, o, none⟩) n m) ∧ w'.cell? ⟨g, o + k * 3, none⟩ = some (.int .u64 f) ∧ w'.cell? ⟨g, o + k * 3 + 1, none⟩ = some (.int .u64 t) := fun w' h => ⟨h.1.c2.2, h.2.1, h.2.2⟩
      have hwr := hb.size
      have hN := Blk.new wo.drew (stc 0 0 none 0 0) 60
      have hI : RcI wo f t S 0 (.slice none 0 0) (wo.alloc (.cells (stc f t none 0 0) 60)).drew :=
        ⟨(Blk.new wo (stc f t none 0 0) 60).drew, OwnSts.nil _ _, (below_one wo (.cells (stc f t none 0 0) 60)).trans ((below_one' _).mono (by simp))⟩
      have HI := Lib.hid hI
      clear hc he hf ht hl han hst hcell hll hX hY hO ho hI
      go_wp2
      clear x0 x1 c0 c1 c2
      refine Seq.wp_region_last (RcS w.heap.size (prc e (some ⟨g, o, none⟩) n m) g (o + k * 3) f t) (by kernel_rfl) (by kernel_rfl) (by kernel_rfl) hS ?_
      repeat (first | (refine Seq.SeqE.skip (by rfl) ?_; (try simp only [Act.put, List.setIfInBounds_toArray, List.set_cons_zero, List.set_cons_succ])) | (refine Seq.SeqE.det ?_ (by rfl) (fun w hS => ?_) ?_; rotate_left; ((try dsimp only at hS); go_simp; (try rw [if_pos (by omega)]); with_reducible rfl); (try simp only [Act.put, List.setIfInBounds_toArray, List.set_cons_zero, List.set_cons_succ])))
      refine Seq.SeqE.make (by rfl) (by rfl) (fun K Q' hK => ?_)
      go_simp
      have hS2 := hS.below (below_one wo.drew (.cells (stc 0 0 none 0 0) 60))
      obtain ⟨q0, q1, q2⟩ := hN.c3
      have r0 := hN.free 0
      have r1 := hN.free 1
      have r2 := hN.free 2
      refine hK.out _ _ (hS2) ?_
      clear hK K
      try simp only [Act.put, List.setIfInBounds_toArray, List.set_cons_zero, List.set_cons_succ]
      repeat (first | (refine Seq.SeqE.skip (by rfl) ?_; (try simp only [Act.put, List.setIfInBounds_toArray, List.set_cons_zero, List.set_cons_succ])) | (refine Seq.SeqE.det ?_ (by rfl) (fun w hS => ?_) ?_; rotate_left; ((try dsimp only at hS); go_simp; (try rw [if_pos (by omega)]); with_reducible rfl); (try simp only [Act.put, List.setIfInBounds_toArray, List.set_cons_zero, List.set_cons_succ])))
      refine Seq.SeqE.last (by rfl) (by rfl) (fun K Q' hK => ?_)
      go_simp
      refine hK.out _ _ ?_
      clear hK K
      try simp only [Act.put, List.setIfInBounds_toArray, List.set_cons_zero, List.set_cons_succ]
      clear hS hS2 q0 q1 q2 r0 r1 r2 hN L1
      generalize (wo.alloc (.cells (stc f t none 0 0) 60)).drew = w2 at *
      go_wp2
      go_loopw [6] (fun i w2 => ∃ (j : Nat) (v : Value), j ≤ l ∧ i = .int .i64 j ∧ Hid (RcI wo f t S j v w2)) (fun i _ => l - (intOf i).toNat)
      case atStart => exact ⟨0, _, by omega, rfl, HI⟩
      case round =>
        clear HI
        obtain ⟨j, v, hj, rfl, HI⟩ := hrel
        obtain ⟨hS, hos, hbi⟩ := HI.out
        obtain ⟨As, cs, hv, hcs, hns, _⟩ := OwnQ.slice hos
        have hts : (S.take j).length = j := by rw [List.length_take, HSL.out]; omega
        rw [hts] at hv
        subst hv
        obtain ⟨hX, hY, hO, ho, hb⟩ := HR.out
        replace hX := hX.below hbi
        replace hO := hO.below hbi
        have hbw := hb.trans (hbi.mono hb.size)
        obtain ⟨c0, c1, c2⟩ := HCELL.out _ hbw
        obtain ⟨x0, x1⟩ := hX.c2
        obtain ⟨s0, s1, s2⟩ := hS.c3
        by_cases hjl : j < l
        · obtain ⟨g2, o2, rfl, _, _, hc2⟩ := HST.out (by omega)
          obtain ⟨a2, l2, m2, hz2, hlm2, hn2, hus2, _, hzb2, hcell2⟩ := hc2 j hjl
          have s3 := hcell2 _ hbw
          have e5 : (j : Int) < l := by omega
          have e6 : IntKind.i64.wrap ((j : Int) + 1) = ((j + 1 : Nat) : Int) := IntWalk.i64_in _ (by omega)
          have hjS : j < S.length := by rw [HSL.out]; exact hjl
          have hl2 : l2 ≤ 1000 := by rw [← hz2]; exact HLL.out _ (by rw [List.getD_eq_getElem?_getD, List.getElem?_eq_getElem hjS]; exact List.getElem_mem hjS)
          have HTS := Lib.hid (take_snoc (d := []) hjS)
          obtain ⟨z, hz⟩ : ∃ z, z = S.getD j [] := ⟨_, rfl⟩
          rw [← hz] at hz2 hus2 hzb2 HTS
          have hrw2 := (hus2.below hbw).2
          have hul : (uv z).length = l2 * 1 := by rw [List.length_map, hz2, Nat.mul_one]
          have hu1 : ∀ u ∈ uv z, u.oneCell' = true := by intro u hu; simp [uv] at hu; obtain ⟨x, _, rfl⟩ := hu; rfl
          have hB2 := hbi.size
          have hnw := World.ownsRow_nil wr wr.heap.size 22 1
          have hsl := hS.lt
          have HOS := Lib.hid hos
          have HLT := Lib.hid hos.lt
          have HZ2 := Lib.hid hz2
          have HZB := Lib.hid hzb2
          have HBW := Lib.hid hbw
          clear hcell2 hus2 hz hos hcs hns hz2 hzb2 hX hY hO ho hb hbw hts
          go_wp2_with (at_builtin; go_must (first | (refine list_append_rw kindU rfl (.tmp 43) (.tmp 52) rfl wr.heap.size (.slice none 0 0) 0 [] rfl hnw _ l2 m2 (uv z) rfl hul hrw2 hn2 hu1 (by omega) (by omega) (Nat.le_refl _) ?_; intro v3 w3 ho3 hg3 hgr3; have hb3 : Below wr.heap.size wr w3 := (Below.refl _ _).grown hg3 (Nat.le_refl _) (fun k e => by cases e); have hou : OwnU w3 wr.heap.size v3 z := (by unfold OwnU; rw [HZ2.out]; simpa using ho3); obtain ⟨A3, m3, hv3⟩ := hou.slice; subst hv3; rw [HZ2.out] at hou ⊢; replace hbi := hbi.trans (hb3.mono hbi.size); replace hS := hS.below hb3; replace hX := HBW.out.trans (hb3.mono HBW.out.size); have hbA := below_one w3 (.cells #[.slice A3 l2 m3] 101); have hrwX := rw_new w3 [.slice A3 l2 m3] 101; have hSA := hS.below hbA; have hoA := (HOS.out.below hb3).below hbA; have houA := own_below hou hbA; have hbiA := hbi.trans (hbA.mono hbi.size); have h32 := hb3.size; have hel := OwnU.sets (T := .slice As j cs) houA HZB.out (fun g hg e => by have := HLT.out g hg; have := own_ge hou g e; omega); replace hel := (SlE U64E).mono hel (Q := fun b => wo.heap.size + 1 ≤ b ∧ (Value.slice As j cs).ownBlock ≠ some b) (fun b hb9 _ => ⟨by omega, hb9.2⟩); obtain ⟨css, gg1, gg2', gg3⟩ := hoA; have gg2 : (w3.alloc (.cells #[.slice A3 l2 m3] 101)).ownsRow (wo.heap.size + 1) 101 1 (.slice As j cs) j css.flatten := (by rw [List.length_take, HSL.out, Nat.min_eq_left (by omega)] at gg2'; exact gg2'); clear gg2'; have hB4 : wo.heap.size + 1 ≤ (w3.alloc (.cells #[.slice A3 l2 m3] 101)).heap.size := (by simp; omega); obtain ⟨s0, s1, s2⟩ := hS.c3; clear ho3 hg3 hgr3 hou houA hbA hbi hb3 hnw hrw2 hul hu1 hX) | (refine list_append_rw kindSU rfl (.tmp 55) (.tmp 57) rfl (wo.heap.size + 1) _ j _ rfl gg2 _ 1 1 [.slice A3 l2 m3] rfl rfl hrwX (by simp) (by simp [Value.oneCell']) (by omega) (by omega) hB4 ?_; intro v5 w5 ho5 hg5 hgr5; have hge5 := own_ge gg2; have H5 := OwnSts.snoc gg1 gg3 hel (by rw [List.length_take, HSL.out, Nat.min_eq_left (by omega)]; exact ho5) hg5 hgr5; rw [HTS.out] at H5; obtain ⟨A5, c5, hv5, _⟩ := H5.sts; rw [show (S.take (j + 1)).length = j + 1 by rw [List.length_take, HSL.out]; omega] at hv5; subst hv5; have hk5 := Ks.of_grown (S := fun b => wo.heap.size + 1 ≤ b) hg5 (fun b e => hge5 b e); have hS5 := hSA.ks hk5 (by omega); have hb5 := Ks.below hbiA (Nat.le_refl _) hk5 (fun b h9 => by omega); have HEND : Hid (RcI wo f t S (j + 1) (.slice A5 (j + 1) c5) (w5.setCell ⟨wo.heap.size, 2, none⟩ (.slice A5 (j + 1) c5))) := Lib.hid ⟨hS5.set 2 _, H5.keep (fun b hb9 _ => Below.heap_setCell _ _ _ _ (fun e => by have e2 : b = wo.heap.size := e; omega)), Below.setCell hb5 (Nat.le_refl _) _⟩; have q2 := hS5.c3.2.2; have f2 := hS5.free 2; clear gg1 gg2 gg3 hel ho5 hg5 hgr5 hge5 H5 hk5 hb5 hbiA hSA hS hS5 hrwX hB4)))
          go_roundw
          case rel => exact ⟨j + 1, _, by omega, by go_num, HEND⟩
          case measure => simp [intOf]; omega
        · have hjl2 : j = l := by omega
          subst hjl2
          obtain ⟨As', cs', hv', hcs', hns', hsts⟩ := hos.sts
          have htl2 : S.take j = S := List.take_of_length_le (by rw [HSL.out]; omega)
          rw [htl2] at hv' hcs' hsts
          rw [HSL.out] at hv' hcs' hsts
          injection hv' with h1 h2 h3
          subst h1 h3
          have hO0 := HR.out.2.2.1.lt
          have hLT := HR.out.2.2.2.1.lt
          replace hY := hY.below hbi
          replace ho := ho.below hbi
          have HTS := Lib.hid (take_snoc (d := stp0) HKL.out)
          rw [HE.out] at HTS
          have hbA := below_one wr (.cells #[.int .u64 f, .int .u64 t, .slice As j cs] 60)
          have hrwX := rw_new wr [.int .u64 f, .int .u64 t, .slice As j cs] 60
          have hel := StE.keep (StE.mk HFB.out HTB.out HSL.out hcs' hns' (hsts.mono (Q := fun b => w.heap.size + 3 ≤ b ∧ (Value.slice Av k cv).ownBlock ≠ some b) (fun b hb9 _ => ⟨by have h9 : wo.heap.size + 1 ≤ b := hb9; omega, fun e => by have h9 : wo.heap.size + 1 ≤ b := hb9; have := hLT b e; omega⟩))) (fun b _ hlt => hbA.block b hlt)
          have hXA := hX.below hbA
          have hYA := hY.below hbA
          have hOA := hO.below hbA
          have hoA := ho.below hbA
          have hbwA := hbw.trans (hbA.mono hbw.size)
          obtain ⟨css, gg1, gg2', gg3⟩ := hoA
          have gg2 : (wr.alloc (.cells #[.int .u64 f, .int .u64 t, .slice As j cs] 60)).ownsRow (w.heap.size + 3) 60 3 (.slice Av k cv) k css.flatten := by
            rw [htl] at gg2'; exact gg2'
          have hB4 : w.heap.size + 3 ≤ (wr.alloc (.cells #[.int .u64 f, .int .u64 t, .slice As j cs] 60)).heap.size := by have := hO.lt; simp; omega
          obtain ⟨q0, q1⟩ := hO.c2
          have HTL := Lib.hid htl
          have HN1 : k + 1 ≤ 1000000 := by omega
          clear htl2 hcs' hns' hsts gg2' hY ho hX hO hb hbw hbA hos hcs hns hts htl
          go_wp2_with (at_builtin; go_must (refine list_append_rw kindST rfl (.tmp 61) (.tmp 63) rfl (w.heap.size + 3) _ k _ rfl gg2 _ 1 _ [.int .u64 f, .int .u64 t, .slice As j cs] rfl rfl hrwX (by simp) (by simp [Value.oneCell']) (by omega) (by omega) hB4 ?_; intro v5 w5 ho5 hg5 hgr5; have hge5 := own_ge gg2; have H5 := OwnPts.snoc gg1 gg3 hel (by rw [HTL.out]; exact ho5) hg5 hgr5; rw [HTS.out] at H5; obtain ⟨A5, c5, hv5, _⟩ := H5.pts; rw [show (L.take (k + 1)).length = k + 1 by rw [List.length_take]; have := HKL.out; omega] at hv5; subst hv5; have hk5 := Ks.of_grown (S := fun b => w.heap.size + 3 ≤ b) hg5 (fun b e => hge5 b e); have hX5 := hXA.ks hk5 (by omega); have hY5 := hYA.ks hk5 (by omega); have hO5 := hOA.ks hk5 (by omega); have hb5 := Ks.below hbwA (Nat.le_refl _) hk5 (fun b h9 => by omega); have HEND : Hid (RcO w e E (some ⟨g, o, none⟩) n m L (k + 1) (.slice A5 (k + 1) c5) (w5.setCell ⟨w.heap.size + 1 + 1, 1, none⟩ (.slice A5 (k + 1) c5))) := Lib.hid ⟨hX5.far (g := w.heap.size + 1 + 1) 1 _ (by omega), hY5.far (g := w.heap.size + 1 + 1) 1 _ (by omega), hO5.set 1 _, H5.keep (fun b hb9 _ => Below.heap_setCell _ _ _ _ (fun e => by have e2 : b = w.heap.size + 1 + 1 := e; omega)), Below.setCell hb5 (by show w.heap.size ≤ w.heap.size + 1 + 1; omega) _⟩; have q5 := hO5.c2.2; have f5 := hO5.free 1; clear gg1 gg2 gg3 hel ho5 hg5 hgr5 hge5 H5 hk5 hb5 hbwA hXA hYA hOA hX5 hY5 hO5 hrwX hB4))
          go_roundw
          case rel => exact ⟨k + 1, _, by omega, by go_num, HEND⟩
          case measure => simp [intOf]; omega
    · have hkn : k = n := by omega
      subst hkn
      have HTK : Hid (L.take k = L) := Lib.hid (List.take_of_length_le (by rw [HL.out]; omega))
      obtain ⟨q0, q1⟩ := hO.c2
      obtain ⟨y0, y1⟩ := hY.c2
      have f0 := hY.free 0
      have f1 := hY.free 1
      have HHO := Lib.hid ho
      have HBD := Lib.hid hb
      clear hX hO ho hb HR
      go_wp2
      refine bodyPost_ret (v := .agg #[.int .u64 E, .slice Av k cv]) (by simp [results, Try.results65, go_sem, y0, y1]) rfl ⟨_, rfl, ?_, ?_⟩
      · iterate 2 (refine Below.setCell ?_ (by simp) _)
        exact HBD.out
      · have h := HHO.out
        rw [HTK.out] at h
        refine OwnPts.mono3 (OwnPts.keep h fun b hb9 _ => ?_) (by omega)
        rw [Below.heap_setCell _ _ _ _ (by simp; omega), Below.heap_setCell _ _ _ _ (by simp; omega)]
end Go.Proofs.Ytghlediibhnloaa.Cur
