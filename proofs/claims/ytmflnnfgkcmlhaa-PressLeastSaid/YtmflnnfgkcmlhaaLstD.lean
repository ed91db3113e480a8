/- The least tokens: the search. -/
import Derived.Test.YtmflnnfgkcmlhaaLstC
import Derived.Deep.Cut
namespace Go.Proofs.Ytmflnnfgkcmlhaa.Cur
open Go.RowKit Go.Shelf Mem
attribute [local go_sem] Oper.semAt_some
set_option linter.unusedVariables false
set_option maxRecDepth 100000


/-! ### The two tables -/
def up3 (f : Nat → Int) (a : Nat) (t : Int × Int × Int) : Nat → Int := upd (upd (upd f (a * 3) t.1) (a * 3 + 1) t.2.1) (a * 3 + 2) t.2.2
/-- The best copy at a place, the best run, by the tables of what stands behind. -/
def bcp (z : List Int) (fs : Nat → Int) (a : Nat) : Int × Int × Int := stf (g2 fs a) (bof z a (alls a)) 4 (lg z a a - 3)
def brn (z : List Int) (fc : Nat → Int) (a : Nat) : Int × Int × Int := stf (fun k => (k : Int) + 1 + fc ((a + k) * 3)) 0 1 (z.length - a)
/-- The steps and the copies behind k places from the end. -/
def cst (z : List Int) : Nat → (Nat → Int) × (Nat → Int)
  | 0 => (fun _ => 0, fun _ => 0)
  | k + 1 =>
    (up3 (cst z k).1 (z.length - (k + 1)) (lss (bcp z (cst z k).1 (z.length - (k + 1))) (brn z (up3 (cst z k).2 (z.length - (k + 1)) (bcp z (cst z k).1 (z.length - (k + 1)))) (z.length - (k + 1)))),
      up3 (cst z k).2 (z.length - (k + 1)) (bcp z (cst z k).1 (z.length - (k + 1))))
def Sml (t : Int × Int × Int) : Prop := (0 ≤ t.1 ∧ t.1 ≤ 2048) ∧ (0 ≤ t.2.1 ∧ t.2.1 ≤ 2048) ∧ (0 ≤ t.2.2 ∧ t.2.2 ≤ 2048)
theorem stf_small {g : Nat → Int} {o : Int} {lo j : Nat} (hg : ∀ i, 0 ≤ g i) (ho : 0 ≤ o ∧ o ≤ 2048) (hj : lo + j ≤ 2000) : Sml (stf g o lo j) := by
  have h1 := stf_fst g o lo j
  have h2 := mn_le_b g lo j 2048
  unfold Sml
  rcases stf_is g o lo j with h | ⟨i, hi, h⟩
  · rw [h]; simp
  · rw [h] at h1 ⊢
    simp only at h1 ⊢
    have := hg (lo + i)
    omega
theorem up3_small {f : Nat → Int} {a : Nat} {t : Int × Int × Int} (hf : ∀ i, 0 ≤ f i ∧ f i ≤ 2048) (ht : Sml t) : ∀ i, 0 ≤ up3 f a t i ∧ up3 f a t i ≤ 2048 := by
  intro i
  obtain ⟨t1, t2, t3⟩ := ht
  unfold up3 upd
  split
  · exact t3
  · split
    · exact t2
    · split
      · exact t1
      · exact hf i
theorem lss_small {x y : Int × Int × Int} (hx : Sml x) (hy : Sml y) : Sml (lss x y) := by
  unfold lss
  split
  · exact hy
  · exact hx
theorem bcp_small {z : List Int} {fs : Nat → Int} {a : Nat} (hz : z.length ≤ 60) (ha : a < z.length) (hf : ∀ i, 0 ≤ fs i ∧ fs i ≤ 2048) : Sml (bcp z fs a) := by
  obtain ⟨mo, h1, h2, h3⟩ := best_small (z := z) (a := a) (by omega)
  have := lg_le (z := z) (a := a) a
  refine stf_small (fun i => ?_) (by omega) (by omega)
  have := hf ((a + i) * 3)
  unfold g2
  omega
theorem brn_small {z : List Int} {fc : Nat → Int} {a : Nat} (hz : z.length ≤ 60) (hf : ∀ i, 0 ≤ fc i ∧ fc i ≤ 2048) : Sml (brn z fc a) := by
  refine stf_small (fun i => ?_) (by omega) (by omega)
  have := hf ((a + i) * 3)
  omega
theorem cst_small {z : List Int} (hz : z.length ≤ 60) : ∀ k, k ≤ z.length → (∀ i, 0 ≤ (cst z k).1 i ∧ (cst z k).1 i ≤ 2048) ∧ ∀ i, 0 ≤ (cst z k).2 i ∧ (cst z k).2 i ≤ 2048
  | 0, _ => ⟨fun _ => by show (0 : Int) ≤ 0 ∧ (0 : Int) ≤ 2048; omega, fun _ => by show (0 : Int) ≤ 0 ∧ (0 : Int) ≤ 2048; omega⟩
  | k + 1, h => by
    obtain ⟨h1, h2⟩ := cst_small hz k (by omega)
    have hb := bcp_small (a := z.length - (k + 1)) hz (by omega) h1
    have h3 := up3_small (a := z.length - (k + 1)) h2 hb
    exact ⟨up3_small h1 (lss_small hb (brn_small hz h3)), h3⟩
theorem tb_set3 {w : World} {g K t : Nat} {f : Nat → Int} (h : Blk w g (tbc K f) t) (a : Nat) (u : Int × Int × Int) :
    Blk (((w.setCell ⟨g, a * 3, none⟩ (.int .i64 u.1)).setCell ⟨g, a * 3 + 1, none⟩ (.int .i64 u.2.1)).setCell ⟨g, a * 3 + 2, none⟩ (.int .i64 u.2.2)) g (tbc K (up3 f a u)) t := by
  have := ((h.set (a * 3) (.int .i64 u.1)).set (a * 3 + 1) (.int .i64 u.2.1)).set (a * 3 + 2) (.int .i64 u.2.2)
  rw [tbc_set, tbc_set, tbc_set] at this
  exact this
theorem far3 {w : World} {b g t a : Nat} {cs : Array Value} (h : Blk w b cs t) (hg : b ≠ g) (u0 u1 u2 : Value) :
    Blk (((w.setCell ⟨g, a * 3, none⟩ u0).setCell ⟨g, a * 3 + 1, none⟩ u1).setCell ⟨g, a * 3 + 2, none⟩ u2) b cs t := ((h.far _ _ hg).far _ _ hg).far _ _ hg
theorem below3 {w wr : World} {B g a : Nat} (h : Below B w wr) (hg : B ≤ g) (u0 u1 u2 : Value) :
    Below B w (((wr.setCell ⟨g, a * 3, none⟩ u0).setCell ⟨g, a * 3 + 1, none⟩ u1).setCell ⟨g, a * 3 + 2, none⟩ u2) :=
  ((h.setCell (p := ⟨g, a * 3, none⟩) hg u0).setCell (p := ⟨g, a * 3 + 1, none⟩) hg u1).setCell (p := ⟨g, a * 3 + 2, none⟩) hg u2
theorem new3 (w : World) (c0 c1 c2 : Array Value) (t0 t1 t2 : Nat) :
    Blk ((((w.alloc (.cells c0 t0)).alloc (.cells c1 t1)).alloc (.cells c2 t2)).drew) w.heap.size c0 t0 ∧ Blk ((((w.alloc (.cells c0 t0)).alloc (.cells c1 t1)).alloc (.cells c2 t2)).drew) (w.heap.size + 1) c1 t1 ∧
    Blk ((((w.alloc (.cells c0 t0)).alloc (.cells c1 t1)).alloc (.cells c2 t2)).drew) (w.heap.size + 1 + 1) c2 t2 ∧ Below w.heap.size w ((((w.alloc (.cells c0 t0)).alloc (.cells c1 t1)).alloc (.cells c2 t2)).drew) := by
  refine ⟨((Blk.new w c0 t0).alloc _).alloc _, ?_, ?_, ((((Below.refl _ _).alloc (Nat.le_refl _) _).alloc (by simp) _).alloc (by simp; omega) _).drew⟩
  · have := (Blk.new (w.alloc (.cells c0 t0)) c1 t1).alloc (.cells c2 t2)
    rwa [World.size_alloc] at this
  · have := Blk.new ((w.alloc (.cells c0 t0)).alloc (.cells c1 t1)) c2 t2
    rwa [World.size_alloc, World.size_alloc] at this

def S6 (sb gc a : Nat) (cs : Array Value) (c : Int × Int × Int) (w' : World) : Prop :=
  Blk w' sb cs 80 ∧ w'.cell? ⟨gc, a * 3, none⟩ = some (.int .i64 c.1) ∧ w'.cell? ⟨gc, a * 3 + 1, none⟩ = some (.int .i64 c.2.1) ∧ w'.cell? ⟨gc, a * 3 + 2, none⟩ = some (.int .i64 c.2.2)
theorem S6.below {sb gc a : Nat} {cs : Array Value} {c : Int × Int × Int} {w w' : World} (h : S6 sb gc a cs c w) (hb : Below w.heap.size w w') : S6 sb gc a cs c w' :=
  ⟨h.1.below hb, (hb.cell (lt_of_cell h.2.1)).trans h.2.1, (hb.cell (lt_of_cell h.2.2.1)).trans h.2.2.1, (hb.cell (lt_of_cell h.2.2.2)).trans h.2.2.2⟩
set_option maxHeartbeats 8000000 in
theorem searched_any {w : World} {A : Option Addr} {n m : Nat} {z : List Int} (hz : Bs w A n z) (hby : ∀ x ∈ z, 0 ≤ x ∧ x < 256) (hm : n ≤ m) (hn : n ≤ 60) :
    Calls Try.prog 51 #[.slice A n m] w fun e w' => ∃ sb gs gc, e = .returned (.pointer (some ⟨sb, 0, none⟩)) ∧ IsS w' sb gs gc A n m (n + 1) (cst z n).1 (cst z n).2 ∧ Below w.heap.size w w' := by
  have hzl := hz.1
  obtain ⟨K, hK⟩ : ∃ K, K = n + 1 := ⟨_, rfl⟩
  have hmk : ∀ w', (Instr.makeSlice 78 (.int .i64 ((n : Int) + 1)) (.int .i64 ((n : Int) + 1))).run Try.prog w' = .ok (.slice (some ⟨w'.heap.size, 0, none⟩) K K) (w'.alloc (.cells (tbc (K * 3) (fun _ => 0)) 77)) := fun w' => by
    rw [show ((n : Int) + 1) = (K : Int) by omega]
    have hinfo : (Try.prog.info? 77).map (fun i => (i.zero, i.size, i.bytes)) = some (some (.agg #[.int .i64 0, .int .i64 0, .int .i64 0]), 3, 24) := by kernel_rfl
    obtain ⟨i, h1, hzz⟩ := Option.map_eq_some_iff.1 hinfo
    simp only [Prod.mk.injEq] at hzz
    obtain ⟨h2, h3, h4⟩ := hzz
    have hr := Go.run_make (P := Try.prog) w' 78 77 i _ Try.underlying78 h1 h2 .i64 .i64 K K (by omega) (Int.le_refl _) (by rw [h4]; omega) (by omega)
    simp only [Int.toNat_natCast, h3] at hr
    rw [hr, ← tbc_made3]
    rfl
  have e2 : IntKind.i64.wrap ((n : Int) - 1) = (n : Int) - 1 := IntWalk.i64_in _ (by omega)
  have HZ := Lib.hid hz
  have HBY := Lib.hid hby
  rw [← hK]
  clear hz hby
  have HK := Lib.hid hK
  clear hK
  go_enter Try.func51, Try.ntmps51
  go_wp2
  go_region
  · obtain ⟨W, hW⟩ : ∃ W, (((w.alloc (.cells (tbc (K * 3) (fun _ => 0)) 77)).alloc (.cells (tbc (K * 3) (fun _ => 0)) 77)).alloc (.cells #[.slice A n m, .slice (some ⟨w.heap.size, 0, none⟩) K K, .slice (some ⟨w.heap.size + 1, 0, none⟩) K K] 80)).drew = W := ⟨_, rfl⟩
    rw [hW]
    obtain ⟨b0, b1, b2, hbd⟩ := new3 w (tbc (K * 3) (fun _ => 0)) (tbc (K * 3) (fun _ => 0)) #[.slice A n m, .slice (some ⟨w.heap.size, 0, none⟩) K K, .slice (some ⟨w.heap.size + 1, 0, none⟩) K K] 77 77 80
    rw [hW] at b0 b1 b2 hbd
    have hI : IsS W (w.heap.size + 1 + 1) (w.heap.size) (w.heap.size + 1) A n m K (fun _ => 0) (fun _ => 0) := ⟨b2, b0, b1⟩
    have hne : w.heap.size ≤ (w.heap.size) ∧ w.heap.size ≤ (w.heap.size + 1) ∧ (w.heap.size) ≠ (w.heap.size + 1) ∧ (w.heap.size + 1 + 1) ≠ (w.heap.size) ∧ (w.heap.size + 1 + 1) ≠ (w.heap.size + 1) := by omega
    have hsz : ∀ W' : World, Below w.heap.size w W' → w.heap.size ≤ W'.heap.size := fun _ h => h.size
    clear b0 b1 b2 hW
    generalize w.heap.size + 1 + 1 = x2 at *
    generalize w.heap.size + 1 = x1 at *
    generalize h0 : w.heap.size = x0 at *
    have H0 := Lib.hid h0
    have HSZ := Lib.hid hsz
    clear h0 hsz
    have HKK := HK
    clear hmk
    go_wp2
    go_loopw [4] (fun i wr => ∃ k : Nat, k ≤ n ∧ i = .int .i64 ((n : Int) - 1 - (k : Int)) ∧ IsS wr x2 x0 x1 A n m K (cst z k).1 (cst z k).2 ∧ Below x0 w wr) (fun i _ => (intOf i + 1).toNat)
    case atStart => exact ⟨0, by omega, by simp, hI, hbd⟩
    case round =>
      clear hI hbd
      obtain ⟨k, hk, rfl, hI, hbd⟩ := hrel
      by_cases hlt : k < n
      · obtain ⟨a, hae⟩ : ∃ a : Nat, a = n - (k + 1) := ⟨_, rfl⟩
        have ei : (n : Int) - 1 - (k : Int) = (a : Int) := by omega
        have han : a < n := by omega
        have haK : a < K := by have := HK.out; omega
        have hge : (0 : Int) ≤ (a : Int) := by omega
        have ew : IntKind.i64.wrap ((a : Int) - 1) = (n : Int) - 1 - ((k + 1 : Nat) : Int) := (IntWalk.i64_in _ (by omega)).trans (by omega)
        rw [ei]
        obtain ⟨hsm1, hsm2⟩ := cst_small (z := z) (by omega) k (by omega)
        obtain ⟨fs, hfs⟩ : ∃ fs, fs = (cst z k).1 := ⟨_, rfl⟩
        obtain ⟨fc, hfc⟩ : ∃ fc, fc = (cst z k).2 := ⟨_, rfl⟩
        rw [← hfs, ← hfc] at hI
        rw [← hfs] at hsm1
        rw [← hfc] at hsm2
        have hId : IsS wr.drew x2 x0 x1 A n m K fs fc := hI
        have hC := bestcopy_any (w := wr.drew) a hId ((HZ.out.below (by rw [H0.out]; exact hbd)).drewN 1) HBY.out hm HK.out han hn (fun i => ⟨(hsm1 i).1, by have := (hsm1 i).2; omega⟩)
        obtain ⟨c, hc⟩ : ∃ c, c = stf (g2 fs a) (bof z a (alls a)) 4 (lg z a a - 3) := ⟨_, rfl⟩
        have hcs : Sml c := by rw [hc]; exact bcp_small (z := z) (fs := fs) (a := a) (by omega) (by omega) hsm1
        have hfc2 := up3_small (a := a) hsm2 hcs
        rw [← hc] at hC
        have HFS := Lib.hid hfs
        have HFC := Lib.hid hfc
        have HC := Lib.hid hc
        have HAE := Lib.hid hae
        have HFC2 := Lib.hid hfc2
        have HBD := Lib.hid hbd
        clear hsm1 hsm2 hfs hfc hc hae ei hcs hfc2 hbd
        go_upto_region 5 with (fail)
        have hS : Blk wr.drew x2 #[.slice A n m, .slice (some ⟨x0, 0, none⟩) K K, .slice (some ⟨x1, 0, none⟩) K K] 80 := hI.1
        have L : ∀ w' : World, Blk w' x2 #[.slice A n m, .slice (some ⟨x0, 0, none⟩) K K, .slice (some ⟨x1, 0, none⟩) K K] 80 → w'.cell? ⟨x2, 1, none⟩ = some (.slice (some ⟨x0, 0, none⟩) K K) ∧ w'.cell? ⟨x2, 2, none⟩ = some (.slice (some ⟨x1, 0, none⟩) K K) := fun w' h => h.c3.2
        have HI := Lib.hid hId
        clear hI hId
        refine Seq.wp_region_last (fun w' => Blk w' x2 #[.slice A n m, .slice (some ⟨x0, 0, none⟩) K K, .slice (some ⟨x1, 0, none⟩) K K] 80) (by kernel_rfl) (by kernel_rfl) (by kernel_rfl) hS ?_
        repeat (first | (refine Seq.SeqE.skip (by rfl) ?_; (try simp only [Act.put, List.setIfInBounds_toArray, List.set_cons_zero, List.set_cons_succ])) | (refine Seq.SeqE.det ?_ (by rfl) (fun w hS => ?_) ?_; rotate_left; ((try dsimp only at hS); go_simp; (try rw [if_pos (by omega)]); with_reducible rfl); (try simp only [Act.put, List.setIfInBounds_toArray, List.set_cons_zero, List.set_cons_succ])))
        refine Seq.SeqE.make (by rfl) (by rfl) (fun K Q' hK => ?_)
        go_simp
        go_at_call 73
        refine hC.mono ?_
        rintro e w1 ⟨rfl, hb1⟩
        have hI1 := HI.out.below hb1
        have HBD1 := Lib.hid (HBD.out.drew.trans (hb1.mono (HSZ.out _ HBD.out.drew)))
        clear hC hb1 HI
        have hS1 := hI1.1
        refine hK.out _ _ (hS1) ?_
        clear hK K
        try simp only [Act.put, List.setIfInBounds_toArray, List.set_cons_zero, List.set_cons_succ]
        repeat (first | (refine Seq.SeqE.skip (by rfl) ?_; (try simp only [Act.put, List.setIfInBounds_toArray, List.set_cons_zero, List.set_cons_succ])) | (refine Seq.SeqE.det ?_ (by rfl) (fun w hS => ?_) ?_; rotate_left; ((try dsimp only at hS); go_simp; (try rw [if_pos (by omega)]); with_reducible rfl); (try simp only [Act.put, List.setIfInBounds_toArray, List.set_cons_zero, List.set_cons_succ])))
        have u0 := hI1.2.2.free (a * 3)
        have u1 := hI1.2.2.free (a * 3 + 1)
        have u2 := hI1.2.2.free (a * 3 + 2)
        have v0 := tb_cell hI1.2.2 (i := a * 3) (by omega)
        have v1 := tb_cell hI1.2.2 (i := a * 3 + 1) (by omega)
        have v2 := tb_cell hI1.2.2 (i := a * 3 + 2) (by omega)
        refine Seq.SeqE.last (by rfl) (by rfl) (fun K Q' hK => ?_)
        go_simp
        refine hK.out _ _ ?_
        clear hK K
        try simp only [Act.put, List.setIfInBounds_toArray, List.set_cons_zero, List.set_cons_succ]
        clear L hS hS1 u0 u1 u2 v0 v1 v2
        have hI2 : IsS _ x2 x0 x1 A n m K fs (up3 fc a c) := ⟨far3 hI1.1 (by omega) (.int .i64 c.1) (.int .i64 c.2.1) (.int .i64 c.2.2), far3 hI1.2.1 (by omega) (.int .i64 c.1) (.int .i64 c.2.1) (.int .i64 c.2.2), tb_set3 hI1.2.2 a c⟩
        have hbd2 := below3 (a := a) (g := x1) HBD1.out (by omega) (.int .i64 c.1) (.int .i64 c.2.1) (.int .i64 c.2.2)
        generalize ((w1.setCell ⟨x1, a * 3, none⟩ (.int .i64 c.1)).setCell ⟨x1, a * 3 + 1, none⟩ (.int .i64 c.2.1)).setCell ⟨x1, a * 3 + 2, none⟩ (.int .i64 c.2.2) = w2 at *
        have HBD2 := Lib.hid hbd2
        clear hI1 hbd2 HBD HBD1
        obtain ⟨f2, hf2⟩ : ∃ f2, f2 = up3 fc a c := ⟨_, rfl⟩
        rw [← hf2] at hI2
        have hfc2 := HFC2.out
        rw [← hf2] at hfc2
        have hv : f2 (a * 3) = c.1 ∧ f2 (a * 3 + 1) = c.2.1 ∧ f2 (a * 3 + 2) = c.2.2 := by
          rw [hf2]
          unfold up3 upd
          exact ⟨by rw [if_neg (by omega), if_neg (by omega), if_pos rfl], by rw [if_neg (by omega), if_pos rfl], by rw [if_pos rfl]⟩
        have HF2 := Lib.hid hf2
        clear hf2 HFC2
        have hC := bestrun_any (w := w2.drew) a (show IsS w2.drew x2 x0 x1 A n m K fs f2 from hI2) HK.out han hn (fun i => ⟨(hfc2 i).1, by have := (hfc2 i).2; omega⟩)
        obtain ⟨r, hr⟩ : ∃ r, r = stf (fun k => (k : Int) + 1 + f2 ((a + k) * 3)) 0 1 (n - a) := ⟨_, rfl⟩
        rw [← hr] at hC
        have HR := Lib.hid hr
        clear hr hfc2
        go_upto_region 6 with (fail)
        have hS : S6 x2 x1 a #[.slice A n m, .slice (some ⟨x0, 0, none⟩) K K, .slice (some ⟨x1, 0, none⟩) K K] c w2.drew := ⟨hI2.1, by rw [← hv.1]; exact tb_cell hI2.2.2 (by omega), by rw [← hv.2.1]; exact tb_cell hI2.2.2 (by omega), by rw [← hv.2.2]; exact tb_cell hI2.2.2 (by omega)⟩
        have L : ∀ w' : World, S6 x2 x1 a #[.slice A n m, .slice (some ⟨x0, 0, none⟩) K K, .slice (some ⟨x1, 0, none⟩) K K] c w' → (w'.cell? ⟨x2, 1, none⟩ = some (.slice (some ⟨x0, 0, none⟩) K K) ∧ w'.cell? ⟨x2, 2, none⟩ = some (.slice (some ⟨x1, 0, none⟩) K K)) ∧ w'.cell? ⟨x1, a * 3, none⟩ = some (.int .i64 c.1) ∧ w'.cell? ⟨x1, a * 3 + 1, none⟩ = some (.int .i64 c.2.1) ∧ w'.cell? ⟨x1, a * 3 + 2, none⟩ = some (.int .i64 c.2.2) := fun w' h => ⟨h.1.c3.2, h.2⟩
        have HI2 := Lib.hid (show IsS w2.drew x2 x0 x1 A n m K fs f2 from hI2)
        clear hI2 hv
        refine Seq.wp_region_last (S6 x2 x1 a #[.slice A n m, .slice (some ⟨x0, 0, none⟩) K K, .slice (some ⟨x1, 0, none⟩) K K] c) (by kernel_rfl) (by kernel_rfl) (by kernel_rfl) hS ?_
        repeat (first | (refine Seq.SeqE.skip (by rfl) ?_; (try simp only [Act.put, List.setIfInBounds_toArray, List.set_cons_zero, List.set_cons_succ])) | (refine Seq.SeqE.det ?_ (by rfl) (fun w hS => ?_) ?_; rotate_left; ((try dsimp only at hS); go_simp; (try rw [if_pos (by omega)]); with_reducible rfl); (try simp only [Act.put, List.setIfInBounds_toArray, List.set_cons_zero, List.set_cons_succ])))
        refine Seq.SeqE.make (by rfl) (by rfl) (fun K Q' hK => ?_)
        go_simp
        go_at_call 75
        refine hC.mono ?_
        rintro e w3 ⟨rfl, hb3⟩
        have HI3 := Lib.hid (HI2.out.below hb3)
        have HBD3 := Lib.hid (HBD2.out.drew.trans (hb3.mono (HSZ.out _ HBD2.out.drew)))
        have hS3 := hS.below hb3
        clear hC hb3 HI2 HBD2
        refine hK.out _ _ (hS3) ?_
        clear hK K
        try simp only [Act.put, List.setIfInBounds_toArray, List.set_cons_zero, List.set_cons_succ]
        repeat (first | (refine Seq.SeqE.skip (by rfl) ?_; (try simp only [Act.put, List.setIfInBounds_toArray, List.set_cons_zero, List.set_cons_succ])) | (refine Seq.SeqE.det ?_ (by rfl) (fun w hS => ?_) ?_; rotate_left; ((try dsimp only at hS); go_simp; (try rw [if_pos (by omega)]); with_reducible rfl); (try simp only [Act.put, List.setIfInBounds_toArray, List.set_cons_zero, List.set_cons_succ])))
        refine Seq.SeqE.make (by rfl) (by rfl) (fun K Q' hK => ?_)
        go_simp
        go_at_call 74
        refine (less_any c.1 c.2.1 c.2.2 r.1 r.2.1 r.2.2 _).mono ?_
        rintro e w4 ⟨rfl, hb4⟩
        rw [show lss (c.1, c.2.1, c.2.2) (r.1, r.2.1, r.2.2) = lss c r from rfl]
        obtain ⟨t, ht⟩ : ∃ t, t = lss c r := ⟨_, rfl⟩
        rw [← ht]
        have HT := Lib.hid ht
        have hI4 := HI3.out.below hb4
        have HBD4 := Lib.hid (HBD3.out.trans (hb4.mono (HSZ.out _ HBD3.out)))
        have hS4 := hS3.below hb4
        clear hb4 HI3 HBD3 ht
        refine hK.out _ _ (hS4) ?_
        clear hK K
        try simp only [Act.put, List.setIfInBounds_toArray, List.set_cons_zero, List.set_cons_succ]
        repeat (first | (refine Seq.SeqE.skip (by rfl) ?_; (try simp only [Act.put, List.setIfInBounds_toArray, List.set_cons_zero, List.set_cons_succ])) | (refine Seq.SeqE.det ?_ (by rfl) (fun w hS => ?_) ?_; rotate_left; ((try dsimp only at hS); go_simp; (try rw [if_pos (by omega)]); with_reducible rfl); (try simp only [Act.put, List.setIfInBounds_toArray, List.set_cons_zero, List.set_cons_succ])))
        have u0 := hI4.2.1.free (a * 3)
        have u1 := hI4.2.1.free (a * 3 + 1)
        have u2 := hI4.2.1.free (a * 3 + 2)
        have v0 := tb_cell hI4.2.1 (i := a * 3) (by omega)
        have v1 := tb_cell hI4.2.1 (i := a * 3 + 1) (by omega)
        have v2 := tb_cell hI4.2.1 (i := a * 3 + 2) (by omega)
        refine Seq.SeqE.last (by rfl) (by rfl) (fun K Q' hK => ?_)
        go_simp
        refine hK.out _ _ ?_
        clear hK K
        try simp only [Act.put, List.setIfInBounds_toArray, List.set_cons_zero, List.set_cons_succ]
        clear L hS hS3 hS4 u0 u1 u2 v0 v1 v2
        have hI5 : IsS _ x2 x0 x1 A n m K (up3 fs a t) f2 := ⟨far3 hI4.1 (by omega) (.int .i64 t.1) (.int .i64 t.2.1) (.int .i64 t.2.2), tb_set3 hI4.2.1 a t, far3 hI4.2.2 (by omega) (.int .i64 t.1) (.int .i64 t.2.1) (.int .i64 t.2.2)⟩
        have hbd5 := below3 (a := a) (g := x0) HBD4.out (by omega) (.int .i64 t.1) (.int .i64 t.2.1) (.int .i64 t.2.2)
        generalize ((w4.setCell ⟨x0, a * 3, none⟩ (.int .i64 t.1)).setCell ⟨x0, a * 3 + 1, none⟩ (.int .i64 t.2.1)).setCell ⟨x0, a * 3 + 2, none⟩ (.int .i64 t.2.2) = w5 at *
        have HI5 : Hid (IsS w5 x2 x0 x1 A n m K (cst z (k + 1)).1 (cst z (k + 1)).2) := Lib.hid (by
          have e2 : (cst z (k + 1)).2 = f2 := by rw [cst, hzl, ← HAE.out, ← HFS.out, ← HFC.out, HF2.out, HC.out]; rfl
          have e1 : (cst z (k + 1)).1 = up3 fs a t := by
            rw [HT.out, HR.out, HC.out, HF2.out, HC.out, cst, hzl, ← HAE.out, ← HFS.out, ← HFC.out]
            unfold brn
            rw [hzl]
            rfl
          rw [e1, e2]
          exact hI5)
        have HBD5 := Lib.hid hbd5
        clear hI4 HBD4 hI5 hbd5 HT HR HF2 HC HFS HFC
        go_wp2
        go_roundw
        case rel => exact ⟨k + 1, hlt, rfl, HI5.out, HBD5.out⟩
        case measure =>
          have hh := HAE.out
          simp [intOf]
          omega
      · obtain rfl : k = n := by omega
        have hge : ¬ (0 : Int) ≤ (k : Int) - 1 - (k : Int) := by omega
        have HI := Lib.hid hI
        have HBD := Lib.hid hbd
        clear hI hbd
        rw [show (k : Int) - 1 - (k : Int) = -1 by omega]
        clear hge
        go_wp2
        go_ret
        exact ⟨x2, x0, x1, rfl, HI.out, by rw [H0.out]; exact HBD.out⟩
  · obtain ⟨W, hW⟩ : ∃ W, (((w.alloc (.cells (tbc (K * 3) (fun _ => 0)) 77)).alloc (.cells #[.slice A n m, .slice (some ⟨w.heap.size, 0, none⟩) K K, .slice (some ⟨w.heap.size + 1 + 1, 0, none⟩) K K] 80)).alloc (.cells (tbc (K * 3) (fun _ => 0)) 77)).drew = W := ⟨_, rfl⟩
    rw [hW]
    obtain ⟨b0, b1, b2, hbd⟩ := new3 w (tbc (K * 3) (fun _ => 0)) #[.slice A n m, .slice (some ⟨w.heap.size, 0, none⟩) K K, .slice (some ⟨w.heap.size + 1 + 1, 0, none⟩) K K] (tbc (K * 3) (fun _ => 0)) 77 80 77
    rw [hW] at b0 b1 b2 hbd
    have hI : IsS W (w.heap.size + 1) (w.heap.size) (w.heap.size + 1 + 1) A n m K (fun _ => 0) (fun _ => 0) := ⟨b1, b0, b2⟩
    have hne : w.heap.size ≤ (w.heap.size) ∧ w.heap.size ≤ (w.heap.size + 1 + 1) ∧ (w.heap.size) ≠ (w.heap.size + 1 + 1) ∧ (w.heap.size + 1) ≠ (w.heap.size) ∧ (w.heap.size + 1) ≠ (w.heap.size + 1 + 1) := by omega
    have hsz : ∀ W' : World, Below w.heap.size w W' → w.heap.size ≤ W'.heap.size := fun _ h => h.size
    clear b0 b1 b2 hW
    generalize w.heap.size + 1 + 1 = x2 at *
    generalize w.heap.size + 1 = x1 at *
    generalize h0 : w.heap.size = x0 at *
    have H0 := Lib.hid h0
    have HSZ := Lib.hid hsz
    clear h0 hsz
    have HKK := HK
    clear hmk
    go_wp2
    go_loopw [4] (fun i wr => ∃ k : Nat, k ≤ n ∧ i = .int .i64 ((n : Int) - 1 - (k : Int)) ∧ IsS wr x1 x0 x2 A n m K (cst z k).1 (cst z k).2 ∧ Below x0 w wr) (fun i _ => (intOf i + 1).toNat)
    case atStart => exact ⟨0, by omega, by simp, hI, hbd⟩
    case round =>
      clear hI hbd
      obtain ⟨k, hk, rfl, hI, hbd⟩ := hrel
      by_cases hlt : k < n
      · obtain ⟨a, hae⟩ : ∃ a : Nat, a = n - (k + 1) := ⟨_, rfl⟩
        have ei : (n : Int) - 1 - (k : Int) = (a : Int) := by omega
        have han : a < n := by omega
        have haK : a < K := by have := HK.out; omega
        have hge : (0 : Int) ≤ (a : Int) := by omega
        have ew : IntKind.i64.wrap ((a : Int) - 1) = (n : Int) - 1 - ((k + 1 : Nat) : Int) := (IntWalk.i64_in _ (by omega)).trans (by omega)
        rw [ei]
        obtain ⟨hsm1, hsm2⟩ := cst_small (z := z) (by omega) k (by omega)
        obtain ⟨fs, hfs⟩ : ∃ fs, fs = (cst z k).1 := ⟨_, rfl⟩
        obtain ⟨fc, hfc⟩ : ∃ fc, fc = (cst z k).2 := ⟨_, rfl⟩
        rw [← hfs, ← hfc] at hI
        rw [← hfs] at hsm1
        rw [← hfc] at hsm2
        have hId : IsS wr.drew x1 x0 x2 A n m K fs fc := hI
        have hC := bestcopy_any (w := wr.drew) a hId ((HZ.out.below (by rw [H0.out]; exact hbd)).drewN 1) HBY.out hm HK.out han hn (fun i => ⟨(hsm1 i).1, by have := (hsm1 i).2; omega⟩)
        obtain ⟨c, hc⟩ : ∃ c, c = stf (g2 fs a) (bof z a (alls a)) 4 (lg z a a - 3) := ⟨_, rfl⟩
        have hcs : Sml c := by rw [hc]; exact bcp_small (z := z) (fs := fs) (a := a) (by omega) (by omega) hsm1
        have hfc2 := up3_small (a := a) hsm2 hcs
        rw [← hc] at hC
        have HFS := Lib.hid hfs
        have HFC := Lib.hid hfc
        have HC := Lib.hid hc
        have HAE := Lib.hid hae
        have HFC2 := Lib.hid hfc2
        have HBD := Lib.hid hbd
        clear hsm1 hsm2 hfs hfc hc hae ei hcs hfc2 hbd
        go_upto_region 5 with (fail)
        have hS : Blk wr.drew x1 #[.slice A n m, .slice (some ⟨x0, 0, none⟩) K K, .slice (some ⟨x2, 0, none⟩) K K] 80 := hI.1
        have L : ∀ w' : World, Blk w' x1 #[.slice A n m, .slice (some ⟨x0, 0, none⟩) K K, .slice (some ⟨x2, 0, none⟩) K K] 80 → w'.cell? ⟨x1, 1, none⟩ = some (.slice (some ⟨x0, 0, none⟩) K K) ∧ w'.cell? ⟨x1, 2, none⟩ = some (.slice (some ⟨x2, 0, none⟩) K K) := fun w' h => h.c3.2
        have HI := Lib.hid hId
        clear hI hId
        refine Seq.wp_region_last (fun w' => Blk w' x1 #[.slice A n m, .slice (some ⟨x0, 0, none⟩) K K, .slice (some ⟨x2, 0, none⟩) K K] 80) (by kernel_rfl) (by kernel_rfl) (by kernel_rfl) hS ?_
        repeat (first | (refine Seq.SeqE.skip (by rfl) ?_; (try simp only [Act.put, List.setIfInBounds_toArray, List.set_cons_zero, List.set_cons_succ])) | (refine Seq.SeqE.det ?_ (by rfl) (fun w hS => ?_) ?_; rotate_left; ((try dsimp only at hS); go_simp; (try rw [if_pos (by omega)]); with_reducible rfl); (try simp only [Act.put, List.setIfInBounds_toArray, List.set_cons_zero, List.set_cons_succ])))
        refine Seq.SeqE.make (by rfl) (by rfl) (fun K Q' hK => ?_)
        go_simp
        go_at_call 73
        refine hC.mono ?_
        rintro e w1 ⟨rfl, hb1⟩
        have hI1 := HI.out.below hb1
        have HBD1 := Lib.hid (HBD.out.drew.trans (hb1.mono (HSZ.out _ HBD.out.drew)))
        clear hC hb1 HI
        have hS1 := hI1.1
        refine hK.out _ _ (hS1) ?_
        clear hK K
        try simp only [Act.put, List.setIfInBounds_toArray, List.set_cons_zero, List.set_cons_succ]
        repeat (first | (refine Seq.SeqE.skip (by rfl) ?_; (try simp only [Act.put, List.setIfInBounds_toArray, List.set_cons_zero, List.set_cons_succ])) | (refine Seq.SeqE.det ?_ (by rfl) (fun w hS => ?_) ?_; rotate_left; ((try dsimp only at hS); go_simp; (try rw [if_pos (by omega)]); with_reducible rfl); (try simp only [Act.put, List.setIfInBounds_toArray, List.set_cons_zero, List.set_cons_succ])))
        have u0 := hI1.2.2.free (a * 3)
        have u1 := hI1.2.2.free (a * 3 + 1)
        have u2 := hI1.2.2.free (a * 3 + 2)
        have v0 := tb_cell hI1.2.2 (i := a * 3) (by omega)
        have v1 := tb_cell hI1.2.2 (i := a * 3 + 1) (by omega)
        have v2 := tb_cell hI1.2.2 (i := a * 3 + 2) (by omega)
        refine Seq.SeqE.last (by rfl) (by rfl) (fun K Q' hK => ?_)
        go_simp
        refine hK.out _ _ ?_
        clear hK K
        try simp only [Act.put, List.setIfInBounds_toArray, List.set_cons_zero, List.set_cons_succ]
        clear L hS hS1 u0 u1 u2 v0 v1 v2
        have hI2 : IsS _ x1 x0 x2 A n m K fs (up3 fc a c) := ⟨far3 hI1.1 (by omega) (.int .i64 c.1) (.int .i64 c.2.1) (.int .i64 c.2.2), far3 hI1.2.1 (by omega) (.int .i64 c.1) (.int .i64 c.2.1) (.int .i64 c.2.2), tb_set3 hI1.2.2 a c⟩
        have hbd2 := below3 (a := a) (g := x2) HBD1.out (by omega) (.int .i64 c.1) (.int .i64 c.2.1) (.int .i64 c.2.2)
        generalize ((w1.setCell ⟨x2, a * 3, none⟩ (.int .i64 c.1)).setCell ⟨x2, a * 3 + 1, none⟩ (.int .i64 c.2.1)).setCell ⟨x2, a * 3 + 2, none⟩ (.int .i64 c.2.2) = w2 at *
        have HBD2 := Lib.hid hbd2
        clear hI1 hbd2 HBD HBD1
        obtain ⟨f2, hf2⟩ : ∃ f2, f2 = up3 fc a c := ⟨_, rfl⟩
        rw [← hf2] at hI2
        have hfc2 := HFC2.out
        rw [← hf2] at hfc2
        have hv : f2 (a * 3) = c.1 ∧ f2 (a * 3 + 1) = c.2.1 ∧ f2 (a * 3 + 2) = c.2.2 := by
          rw [hf2]
          unfold up3 upd
          exact ⟨by rw [if_neg (by omega), if_neg (by omega), if_pos rfl], by rw [if_neg (by omega), if_pos rfl], by rw [if_pos rfl]⟩
        have HF2 := Lib.hid hf2
        clear hf2 HFC2
        have hC := bestrun_any (w := w2.drew) a (show IsS w2.drew x1 x0 x2 A n m K fs f2 from hI2) HK.out han hn (fun i => ⟨(hfc2 i).1, by have := (hfc2 i).2; omega⟩)
        obtain ⟨r, hr⟩ : ∃ r, r = stf (fun k => (k : Int) + 1 + f2 ((a + k) * 3)) 0 1 (n - a) := ⟨_, rfl⟩
        rw [← hr] at hC
        have HR := Lib.hid hr
        clear hr hfc2
        go_upto_region 6 with (fail)
        have hS : S6 x1 x2 a #[.slice A n m, .slice (some ⟨x0, 0, none⟩) K K, .slice (some ⟨x2, 0, none⟩) K K] c w2.drew := ⟨hI2.1, by rw [← hv.1]; exact tb_cell hI2.2.2 (by omega), by rw [← hv.2.1]; exact tb_cell hI2.2.2 (by omega), by rw [← hv.2.2]; exact tb_cell hI2.2.2 (by omega)⟩
        have L : ∀ w' : World, S6 x1 x2 a #[.slice A n m, .slice (some ⟨x0, 0, none⟩) K K, .slice (some ⟨x2, 0, none⟩) K K] c w' → (w'.cell? ⟨x1, 1, none⟩ = some (.slice (some ⟨x0, 0, none⟩) K K) ∧ w'.cell? ⟨x1, 2, none⟩ = some (.slice (some ⟨x2, 0, none⟩) K K)) ∧ w'.cell? ⟨x2, a * 3, none⟩ = some (.int .i64 c.1) ∧ w'.cell? ⟨x2, a * 3 + 1, none⟩ = some (.int .i64 c.2.1) ∧ w'.cell? ⟨x2, a * 3 + 2, none⟩ = some (.int .i64 c.2.2) := fun w' h => ⟨h.1.c3.2, h.2⟩
        have HI2 := Lib.hid (show IsS w2.drew x1 x0 x2 A n m K fs f2 from hI2)
        clear hI2 hv
        refine Seq.wp_region_last (S6 x1 x2 a #[.slice A n m, .slice (some ⟨x0, 0, none⟩) K K, .slice (some ⟨x2, 0, none⟩) K K] c) (by kernel_rfl) (by kernel_rfl) (by kernel_rfl) hS ?_
        repeat (first | (refine Seq.SeqE.skip (by rfl) ?_; (try simp only [Act.put, List.setIfInBounds_toArray, List.set_cons_zero, List.set_cons_succ])) | (refine Seq.SeqE.det ?_ (by rfl) (fun w hS => ?_) ?_; rotate_left; ((try dsimp only at hS); go_simp; (try rw [if_pos (by omega)]); with_reducible rfl); (try simp only [Act.put, List.setIfInBounds_toArray, List.set_cons_zero, List.set_cons_succ])))
        refine Seq.SeqE.make (by rfl) (by rfl) (fun K Q' hK => ?_)
        go_simp
        go_at_call 75
        refine hC.mono ?_
        rintro e w3 ⟨rfl, hb3⟩
        have HI3 := Lib.hid (HI2.out.below hb3)
        have HBD3 := Lib.hid (HBD2.out.drew.trans (hb3.mono (HSZ.out _ HBD2.out.drew)))
        have hS3 := hS.below hb3
        clear hC hb3 HI2 HBD2
        refine hK.out _ _ (hS3) ?_
        clear hK K
        try simp only [Act.put, List.setIfInBounds_toArray, List.set_cons_zero, List.set_cons_succ]
        repeat (first | (refine Seq.SeqE.skip (by rfl) ?_; (try simp only [Act.put, List.setIfInBounds_toArray, List.set_cons_zero, List.set_cons_succ])) | (refine Seq.SeqE.det ?_ (by rfl) (fun w hS => ?_) ?_; rotate_left; ((try dsimp only at hS); go_simp; (try rw [if_pos (by omega)]); with_reducible rfl); (try simp only [Act.put, List.setIfInBounds_toArray, List.set_cons_zero, List.set_cons_succ])))
        refine Seq.SeqE.make (by rfl) (by rfl) (fun K Q' hK => ?_)
        go_simp
        go_at_call 74
        refine (less_any c.1 c.2.1 c.2.2 r.1 r.2.1 r.2.2 _).mono ?_
        rintro e w4 ⟨rfl, hb4⟩
        rw [show lss (c.1, c.2.1, c.2.2) (r.1, r.2.1, r.2.2) = lss c r from rfl]
        obtain ⟨t, ht⟩ : ∃ t, t = lss c r := ⟨_, rfl⟩
        rw [← ht]
        have HT := Lib.hid ht
        have hI4 := HI3.out.below hb4
        have HBD4 := Lib.hid (HBD3.out.trans (hb4.mono (HSZ.out _ HBD3.out)))
        have hS4 := hS3.below hb4
        clear hb4 HI3 HBD3 ht
        refine hK.out _ _ (hS4) ?_
        clear hK K
        try simp only [Act.put, List.setIfInBounds_toArray, List.set_cons_zero, List.set_cons_succ]
        repeat (first | (refine Seq.SeqE.skip (by rfl) ?_; (try simp only [Act.put, List.setIfInBounds_toArray, List.set_cons_zero, List.set_cons_succ])) | (refine Seq.SeqE.det ?_ (by rfl) (fun w hS => ?_) ?_; rotate_left; ((try dsimp only at hS); go_simp; (try rw [if_pos (by omega)]); with_reducible rfl); (try simp only [Act.put, List.setIfInBounds_toArray, List.set_cons_zero, List.set_cons_succ])))
        have u0 := hI4.2.1.free (a * 3)
        have u1 := hI4.2.1.free (a * 3 + 1)
        have u2 := hI4.2.1.free (a * 3 + 2)
        have v0 := tb_cell hI4.2.1 (i := a * 3) (by omega)
        have v1 := tb_cell hI4.2.1 (i := a * 3 + 1) (by omega)
        have v2 := tb_cell hI4.2.1 (i := a * 3 + 2) (by omega)
        refine Seq.SeqE.last (by rfl) (by rfl) (fun K Q' hK => ?_)
        go_simp
        refine hK.out _ _ ?_
        clear hK K
        try simp only [Act.put, List.setIfInBounds_toArray, List.set_cons_zero, List.set_cons_succ]
        clear L hS hS3 hS4 u0 u1 u2 v0 v1 v2
        have hI5 : IsS _ x1 x0 x2 A n m K (up3 fs a t) f2 := ⟨far3 hI4.1 (by omega) (.int .i64 t.1) (.int .i64 t.2.1) (.int .i64 t.2.2), tb_set3 hI4.2.1 a t, far3 hI4.2.2 (by omega) (.int .i64 t.1) (.int .i64 t.2.1) (.int .i64 t.2.2)⟩
        have hbd5 := below3 (a := a) (g := x0) HBD4.out (by omega) (.int .i64 t.1) (.int .i64 t.2.1) (.int .i64 t.2.2)
        generalize ((w4.setCell ⟨x0, a * 3, none⟩ (.int .i64 t.1)).setCell ⟨x0, a * 3 + 1, none⟩ (.int .i64 t.2.1)).setCell ⟨x0, a * 3 + 2, none⟩ (.int .i64 t.2.2) = w5 at *
        have HI5 : Hid (IsS w5 x1 x0 x2 A n m K (cst z (k + 1)).1 (cst z (k + 1)).2) := Lib.hid (by
          have e2 : (cst z (k + 1)).2 = f2 := by rw [cst, hzl, ← HAE.out, ← HFS.out, ← HFC.out, HF2.out, HC.out]; rfl
          have e1 : (cst z (k + 1)).1 = up3 fs a t := by
            rw [HT.out, HR.out, HC.out, HF2.out, HC.out, cst, hzl, ← HAE.out, ← HFS.out, ← HFC.out]
            unfold brn
            rw [hzl]
            rfl
          rw [e1, e2]
          exact hI5)
        have HBD5 := Lib.hid hbd5
        clear hI4 HBD4 hI5 hbd5 HT HR HF2 HC HFS HFC
        go_wp2
        go_roundw
        case rel => exact ⟨k + 1, hlt, rfl, HI5.out, HBD5.out⟩
        case measure =>
          have hh := HAE.out
          simp [intOf]
          omega
      · obtain rfl : k = n := by omega
        have hge : ¬ (0 : Int) ≤ (k : Int) - 1 - (k : Int) := by omega
        have HI := Lib.hid hI
        have HBD := Lib.hid hbd
        clear hI hbd
        rw [show (k : Int) - 1 - (k : Int) = -1 by omega]
        clear hge
        go_wp2
        go_ret
        exact ⟨x1, x0, x2, rfl, HI.out, by rw [H0.out]; exact HBD.out⟩
  · obtain ⟨W, hW⟩ : ∃ W, (((w.alloc (.cells (tbc (K * 3) (fun _ => 0)) 77)).alloc (.cells (tbc (K * 3) (fun _ => 0)) 77)).alloc (.cells #[.slice A n m, .slice (some ⟨w.heap.size + 1, 0, none⟩) K K, .slice (some ⟨w.heap.size, 0, none⟩) K K] 80)).drew = W := ⟨_, rfl⟩
    rw [hW]
    obtain ⟨b0, b1, b2, hbd⟩ := new3 w (tbc (K * 3) (fun _ => 0)) (tbc (K * 3) (fun _ => 0)) #[.slice A n m, .slice (some ⟨w.heap.size + 1, 0, none⟩) K K, .slice (some ⟨w.heap.size, 0, none⟩) K K] 77 77 80
    rw [hW] at b0 b1 b2 hbd
    have hI : IsS W (w.heap.size + 1 + 1) (w.heap.size + 1) (w.heap.size) A n m K (fun _ => 0) (fun _ => 0) := ⟨b2, b1, b0⟩
    have hne : w.heap.size ≤ (w.heap.size + 1) ∧ w.heap.size ≤ (w.heap.size) ∧ (w.heap.size + 1) ≠ (w.heap.size) ∧ (w.heap.size + 1 + 1) ≠ (w.heap.size + 1) ∧ (w.heap.size + 1 + 1) ≠ (w.heap.size) := by omega
    have hsz : ∀ W' : World, Below w.heap.size w W' → w.heap.size ≤ W'.heap.size := fun _ h => h.size
    clear b0 b1 b2 hW
    generalize w.heap.size + 1 + 1 = x2 at *
    generalize w.heap.size + 1 = x1 at *
    generalize h0 : w.heap.size = x0 at *
    have H0 := Lib.hid h0
    have HSZ := Lib.hid hsz
    clear h0 hsz
    have HKK := HK
    clear hmk
    go_wp2
    go_loopw [4] (fun i wr => ∃ k : Nat, k ≤ n ∧ i = .int .i64 ((n : Int) - 1 - (k : Int)) ∧ IsS wr x2 x1 x0 A n m K (cst z k).1 (cst z k).2 ∧ Below x0 w wr) (fun i _ => (intOf i + 1).toNat)
    case atStart => exact ⟨0, by omega, by simp, hI, hbd⟩
    case round =>
      clear hI hbd
      obtain ⟨k, hk, rfl, hI, hbd⟩ := hrel
      by_cases hlt : k < n
      · obtain ⟨a, hae⟩ : ∃ a : Nat, a = n - (k + 1) := ⟨_, rfl⟩
        have ei : (n : Int) - 1 - (k : Int) = (a : Int) := by omega
        have han : a < n := by omega
        have haK : a < K := by have := HK.out; omega
        have hge : (0 : Int) ≤ (a : Int) := by omega
        have ew : IntKind.i64.wrap ((a : Int) - 1) = (n : Int) - 1 - ((k + 1 : Nat) : Int) := (IntWalk.i64_in _ (by omega)).trans (by omega)
        rw [ei]
        obtain ⟨hsm1, hsm2⟩ := cst_small (z := z) (by omega) k (by omega)
        obtain ⟨fs, hfs⟩ : ∃ fs, fs = (cst z k).1 := ⟨_, rfl⟩
        obtain ⟨fc, hfc⟩ : ∃ fc, fc = (cst z k).2 := ⟨_, rfl⟩
        rw [← hfs, ← hfc] at hI
        rw [← hfs] at hsm1
        rw [← hfc] at hsm2
        have hId : IsS wr.drew x2 x1 x0 A n m K fs fc := hI
        have hC := bestcopy_any (w := wr.drew) a hId ((HZ.out.below (by rw [H0.out]; exact hbd)).drewN 1) HBY.out hm HK.out han hn (fun i => ⟨(hsm1 i).1, by have := (hsm1 i).2; omega⟩)
        obtain ⟨c, hc⟩ : ∃ c, c = stf (g2 fs a) (bof z a (alls a)) 4 (lg z a a - 3) := ⟨_, rfl⟩
        have hcs : Sml c := by rw [hc]; exact bcp_small (z := z) (fs := fs) (a := a) (by omega) (by omega) hsm1
        have hfc2 := up3_small (a := a) hsm2 hcs
        rw [← hc] at hC
        have HFS := Lib.hid hfs
        have HFC := Lib.hid hfc
        have HC := Lib.hid hc
        have HAE := Lib.hid hae
        have HFC2 := Lib.hid hfc2
        have HBD := Lib.hid hbd
        clear hsm1 hsm2 hfs hfc hc hae ei hcs hfc2 hbd
        go_upto_region 5 with (fail)
        have hS : Blk wr.drew x2 #[.slice A n m, .slice (some ⟨x1, 0, none⟩) K K, .slice (some ⟨x0, 0, none⟩) K K] 80 := hI.1
        have L : ∀ w' : World, Blk w' x2 #[.slice A n m, .slice (some ⟨x1, 0, none⟩) K K, .slice (some ⟨x0, 0, none⟩) K K] 80 → w'.cell? ⟨x2, 1, none⟩ = some (.slice (some ⟨x1, 0, none⟩) K K) ∧ w'.cell? ⟨x2, 2, none⟩ = some (.slice (some ⟨x0, 0, none⟩) K K) := fun w' h => h.c3.2
        have HI := Lib.hid hId
        clear hI hId
        refine Seq.wp_region_last (fun w' => Blk w' x2 #[.slice A n m, .slice (some ⟨x1, 0, none⟩) K K, .slice (some ⟨x0, 0, none⟩) K K] 80) (by kernel_rfl) (by kernel_rfl) (by kernel_rfl) hS ?_
        repeat (first | (refine Seq.SeqE.skip (by rfl) ?_; (try simp only [Act.put, List.setIfInBounds_toArray, List.set_cons_zero, List.set_cons_succ])) | (refine Seq.SeqE.det ?_ (by rfl) (fun w hS => ?_) ?_; rotate_left; ((try dsimp only at hS); go_simp; (try rw [if_pos (by omega)]); with_reducible rfl); (try simp only [Act.put, List.setIfInBounds_toArray, List.set_cons_zero, List.set_cons_succ])))
        refine Seq.SeqE.make (by rfl) (by rfl) (fun K Q' hK => ?_)
        go_simp
        go_at_call 73
        refine hC.mono ?_
        rintro e w1 ⟨rfl, hb1⟩
        have hI1 := HI.out.below hb1
        have HBD1 := Lib.hid (HBD.out.drew.trans (hb1.mono (HSZ.out _ HBD.out.drew)))
        clear hC hb1 HI
        have hS1 := hI1.1
        refine hK.out _ _ (hS1) ?_
        clear hK K
        try simp only [Act.put, List.setIfInBounds_toArray, List.set_cons_zero, List.set_cons_succ]
        repeat (first | (refine Seq.SeqE.skip (by rfl) ?_; (try simp only [Act.put, List.setIfInBounds_toArray, List.set_cons_zero, List.set_cons_succ])) | (refine Seq.SeqE.det ?_ (by rfl) (fun w hS => ?_) ?_; rotate_left; ((try dsimp only at hS); go_simp; (try rw [if_pos (by omega)]); with_reducible rfl); (try simp only [Act.put, List.setIfInBounds_toArray, List.set_cons_zero, List.set_cons_succ])))
        have u0 := hI1.2.2.free (a * 3)
        have u1 := hI1.2.2.free (a * 3 + 1)
        have u2 := hI1.2.2.free (a * 3 + 2)
        have v0 := tb_cell hI1.2.2 (i := a * 3) (by omega)
        have v1 := tb_cell hI1.2.2 (i := a * 3 + 1) (by omega)
        have v2 := tb_cell hI1.2.2 (i := a * 3 + 2) (by omega)
        refine Seq.SeqE.last (by rfl) (by rfl) (fun K Q' hK => ?_)
        go_simp
        refine hK.out _ _ ?_
        clear hK K
        try simp only [Act.put, List.setIfInBounds_toArray, List.set_cons_zero, List.set_cons_succ]
        clear L hS hS1 u0 u1 u2 v0 v1 v2
        have hI2 : IsS _ x2 x1 x0 A n m K fs (up3 fc a c) := ⟨far3 hI1.1 (by omega) (.int .i64 c.1) (.int .i64 c.2.1) (.int .i64 c.2.2), far3 hI1.2.1 (by omega) (.int .i64 c.1) (.int .i64 c.2.1) (.int .i64 c.2.2), tb_set3 hI1.2.2 a c⟩
        have hbd2 := below3 (a := a) (g := x0) HBD1.out (by omega) (.int .i64 c.1) (.int .i64 c.2.1) (.int .i64 c.2.2)
        generalize ((w1.setCell ⟨x0, a * 3, none⟩ (.int .i64 c.1)).setCell ⟨x0, a * 3 + 1, none⟩ (.int .i64 c.2.1)).setCell ⟨x0, a * 3 + 2, none⟩ (.int .i64 c.2.2) = w2 at *
        have HBD2 := Lib.hid hbd2
        clear hI1 hbd2 HBD HBD1
        obtain ⟨f2, hf2⟩ : ∃ f2, f2 = up3 fc a c := ⟨_, rfl⟩
        rw [← hf2] at hI2
        have hfc2 := HFC2.out
        rw [← hf2] at hfc2
        have hv : f2 (a * 3) = c.1 ∧ f2 (a * 3 + 1) = c.2.1 ∧ f2 (a * 3 + 2) = c.2.2 := by
          rw [hf2]
          unfold up3 upd
          exact ⟨by rw [if_neg (by omega), if_neg (by omega), if_pos rfl], by rw [if_neg (by omega), if_pos rfl], by rw [if_pos rfl]⟩
        have HF2 := Lib.hid hf2
        clear hf2 HFC2
        have hC := bestrun_any (w := w2.drew) a (show IsS w2.drew x2 x1 x0 A n m K fs f2 from hI2) HK.out han hn (fun i => ⟨(hfc2 i).1, by have := (hfc2 i).2; omega⟩)
        obtain ⟨r, hr⟩ : ∃ r, r = stf (fun k => (k : Int) + 1 + f2 ((a + k) * 3)) 0 1 (n - a) := ⟨_, rfl⟩
        rw [← hr] at hC
        have HR := Lib.hid hr
        clear hr hfc2
        go_upto_region 6 with (fail)
        have hS : S6 x2 x0 a #[.slice A n m, .slice (some ⟨x1, 0, none⟩) K K, .slice (some ⟨x0, 0, none⟩) K K] c w2.drew := ⟨hI2.1, by rw [← hv.1]; exact tb_cell hI2.2.2 (by omega), by rw [← hv.2.1]; exact tb_cell hI2.2.2 (by omega), by rw [← hv.2.2]; exact tb_cell hI2.2.2 (by omega)⟩
        have L : ∀ w' : World, S6 x2 x0 a #[.slice A n m, .slice (some ⟨x1, 0, none⟩) K K, .slice (some ⟨x0, 0, none⟩) K K] c w' → (w'.cell? ⟨x2, 1, none⟩ = some (.slice (some ⟨x1, 0, none⟩) K K) ∧ w'.cell? ⟨x2, 2, none⟩ = some (.slice (some ⟨x0, 0, none⟩) K K)) ∧ w'.cell? ⟨x0, a * 3, none⟩ = some (.int .i64 c.1) ∧ w'.cell? ⟨x0, a * 3 + 1, none⟩ = some (.int .i64 c.2.1) ∧ w'.cell? ⟨x0, a * 3 + 2, none⟩ = some (.int .i64 c.2.2) := fun w' h => ⟨h.1.c3.2, h.2⟩
        have HI2 := Lib.hid (show IsS w2.drew x2 x1 x0 A n m K fs f2 from hI2)
        clear hI2 hv
        refine Seq.wp_region_last (S6 x2 x0 a #[.slice A n m, .slice (some ⟨x1, 0, none⟩) K K, .slice (some ⟨x0, 0, none⟩) K K] c) (by kernel_rfl) (by kernel_rfl) (by kernel_rfl) hS ?_
        repeat (first | (refine Seq.SeqE.skip (by rfl) ?_; (try simp only [Act.put, List.setIfInBounds_toArray, List.set_cons_zero, List.set_cons_succ])) | (refine Seq.SeqE.det ?_ (by rfl) (fun w hS => ?_) ?_; rotate_left; ((try dsimp only at hS); go_simp; (try rw [if_pos (by omega)]); with_reducible rfl); (try simp only [Act.put, List.setIfInBounds_toArray, List.set_cons_zero, List.set_cons_succ])))
        refine Seq.SeqE.make (by rfl) (by rfl) (fun K Q' hK => ?_)
        go_simp
        go_at_call 75
        refine hC.mono ?_
        rintro e w3 ⟨rfl, hb3⟩
        have HI3 := Lib.hid (HI2.out.below hb3)
        have HBD3 := Lib.hid (HBD2.out.drew.trans (hb3.mono (HSZ.out _ HBD2.out.drew)))
        have hS3 := hS.below hb3
        clear hC hb3 HI2 HBD2
        refine hK.out _ _ (hS3) ?_
        clear hK K
        try simp only [Act.put, List.setIfInBounds_toArray, List.set_cons_zero, List.set_cons_succ]
        repeat (first | (refine Seq.SeqE.skip (by rfl) ?_; (try simp only [Act.put, List.setIfInBounds_toArray, List.set_cons_zero, List.set_cons_succ])) | (refine Seq.SeqE.det ?_ (by rfl) (fun w hS => ?_) ?_; rotate_left; ((try dsimp only at hS); go_simp; (try rw [if_pos (by omega)]); with_reducible rfl); (try simp only [Act.put, List.setIfInBounds_toArray, List.set_cons_zero, List.set_cons_succ])))
        refine Seq.SeqE.make (by rfl) (by rfl) (fun K Q' hK => ?_)
        go_simp
        go_at_call 74
        refine (less_any c.1 c.2.1 c.2.2 r.1 r.2.1 r.2.2 _).mono ?_
        rintro e w4 ⟨rfl, hb4⟩
        rw [show lss (c.1, c.2.1, c.2.2) (r.1, r.2.1, r.2.2) = lss c r from rfl]
        obtain ⟨t, ht⟩ : ∃ t, t = lss c r := ⟨_, rfl⟩
        rw [← ht]
        have HT := Lib.hid ht
        have hI4 := HI3.out.below hb4
        have HBD4 := Lib.hid (HBD3.out.trans (hb4.mono (HSZ.out _ HBD3.out)))
        have hS4 := hS3.below hb4
        clear hb4 HI3 HBD3 ht
        refine hK.out _ _ (hS4) ?_
        clear hK K
        try simp only [Act.put, List.setIfInBounds_toArray, List.set_cons_zero, List.set_cons_succ]
        repeat (first | (refine Seq.SeqE.skip (by rfl) ?_; (try simp only [Act.put, List.setIfInBounds_toArray, List.set_cons_zero, List.set_cons_succ])) | (refine Seq.SeqE.det ?_ (by rfl) (fun w hS => ?_) ?_; rotate_left; ((try dsimp only at hS); go_simp; (try rw [if_pos (by omega)]); with_reducible rfl); (try simp only [Act.put, List.setIfInBounds_toArray, List.set_cons_zero, List.set_cons_succ])))
        have u0 := hI4.2.1.free (a * 3)
        have u1 := hI4.2.1.free (a * 3 + 1)
        have u2 := hI4.2.1.free (a * 3 + 2)
        have v0 := tb_cell hI4.2.1 (i := a * 3) (by omega)
        have v1 := tb_cell hI4.2.1 (i := a * 3 + 1) (by omega)
        have v2 := tb_cell hI4.2.1 (i := a * 3 + 2) (by omega)
        refine Seq.SeqE.last (by rfl) (by rfl) (fun K Q' hK => ?_)
        go_simp
        refine hK.out _ _ ?_
        clear hK K
        try simp only [Act.put, List.setIfInBounds_toArray, List.set_cons_zero, List.set_cons_succ]
        clear L hS hS3 hS4 u0 u1 u2 v0 v1 v2
        have hI5 : IsS _ x2 x1 x0 A n m K (up3 fs a t) f2 := ⟨far3 hI4.1 (by omega) (.int .i64 t.1) (.int .i64 t.2.1) (.int .i64 t.2.2), tb_set3 hI4.2.1 a t, far3 hI4.2.2 (by omega) (.int .i64 t.1) (.int .i64 t.2.1) (.int .i64 t.2.2)⟩
        have hbd5 := below3 (a := a) (g := x1) HBD4.out (by omega) (.int .i64 t.1) (.int .i64 t.2.1) (.int .i64 t.2.2)
        generalize ((w4.setCell ⟨x1, a * 3, none⟩ (.int .i64 t.1)).setCell ⟨x1, a * 3 + 1, none⟩ (.int .i64 t.2.1)).setCell ⟨x1, a * 3 + 2, none⟩ (.int .i64 t.2.2) = w5 at *
        have HI5 : Hid (IsS w5 x2 x1 x0 A n m K (cst z (k + 1)).1 (cst z (k + 1)).2) := Lib.hid (by
          have e2 : (cst z (k + 1)).2 = f2 := by rw [cst, hzl, ← HAE.out, ← HFS.out, ← HFC.out, HF2.out, HC.out]; rfl
          have e1 : (cst z (k + 1)).1 = up3 fs a t := by
            rw [HT.out, HR.out, HC.out, HF2.out, HC.out, cst, hzl, ← HAE.out, ← HFS.out, ← HFC.out]
            unfold brn
            rw [hzl]
            rfl
          rw [e1, e2]
          exact hI5)
        have HBD5 := Lib.hid hbd5
        clear hI4 HBD4 hI5 hbd5 HT HR HF2 HC HFS HFC
        go_wp2
        go_roundw
        case rel => exact ⟨k + 1, hlt, rfl, HI5.out, HBD5.out⟩
        case measure =>
          have hh := HAE.out
          simp [intOf]
          omega
      · obtain rfl : k = n := by omega
        have hge : ¬ (0 : Int) ≤ (k : Int) - 1 - (k : Int) := by omega
        have HI := Lib.hid hI
        have HBD := Lib.hid hbd
        clear hI hbd
        rw [show (k : Int) - 1 - (k : Int) = -1 by omega]
        clear hge
        go_wp2
        go_ret
        exact ⟨x2, x1, x0, rfl, HI.out, by rw [H0.out]; exact HBD.out⟩
  · obtain ⟨W, hW⟩ : ∃ W, (((w.alloc (.cells (tbc (K * 3) (fun _ => 0)) 77)).alloc (.cells #[.slice A n m, .slice (some ⟨w.heap.size + 1 + 1, 0, none⟩) K K, .slice (some ⟨w.heap.size, 0, none⟩) K K] 80)).alloc (.cells (tbc (K * 3) (fun _ => 0)) 77)).drew = W := ⟨_, rfl⟩
    rw [hW]
    obtain ⟨b0, b1, b2, hbd⟩ := new3 w (tbc (K * 3) (fun _ => 0)) #[.slice A n m, .slice (some ⟨w.heap.size + 1 + 1, 0, none⟩) K K, .slice (some ⟨w.heap.size, 0, none⟩) K K] (tbc (K * 3) (fun _ => 0)) 77 80 77
    rw [hW] at b0 b1 b2 hbd
    have hI : IsS W (w.heap.size + 1) (w.heap.size + 1 + 1) (w.heap.size) A n m K (fun _ => 0) (fun _ => 0) := ⟨b1, b2, b0⟩
    have hne : w.heap.size ≤ (w.heap.size + 1 + 1) ∧ w.heap.size ≤ (w.heap.size) ∧ (w.heap.size + 1 + 1) ≠ (w.heap.size) ∧ (w.heap.size + 1) ≠ (w.heap.size + 1 + 1) ∧ (w.heap.size + 1) ≠ (w.heap.size) := by omega
    have hsz : ∀ W' : World, Below w.heap.size w W' → w.heap.size ≤ W'.heap.size := fun _ h => h.size
    clear b0 b1 b2 hW
    generalize w.heap.size + 1 + 1 = x2 at *
    generalize w.heap.size + 1 = x1 at *
    generalize h0 : w.heap.size = x0 at *
    have H0 := Lib.hid h0
    have HSZ := Lib.hid hsz
    clear h0 hsz
    have HKK := HK
    clear hmk
    go_wp2
    go_loopw [4] (fun i wr => ∃ k : Nat, k ≤ n ∧ i = .int .i64 ((n : Int) - 1 - (k : Int)) ∧ IsS wr x1 x2 x0 A n m K (cst z k).1 (cst z k).2 ∧ Below x0 w wr) (fun i _ => (intOf i + 1).toNat)
    case atStart => exact ⟨0, by omega, by simp, hI, hbd⟩
    case round =>
      clear hI hbd
      obtain ⟨k, hk, rfl, hI, hbd⟩ := hrel
      by_cases hlt : k < n
      · obtain ⟨a, hae⟩ : ∃ a : Nat, a = n - (k + 1) := ⟨_, rfl⟩
        have ei : (n : Int) - 1 - (k : Int) = (a : Int) := by omega
        have han : a < n := by omega
        have haK : a < K := by have := HK.out; omega
        have hge : (0 : Int) ≤ (a : Int) := by omega
        have ew : IntKind.i64.wrap ((a : Int) - 1) = (n : Int) - 1 - ((k + 1 : Nat) : Int) := (IntWalk.i64_in _ (by omega)).trans (by omega)
        rw [ei]
        obtain ⟨hsm1, hsm2⟩ := cst_small (z := z) (by omega) k (by omega)
        obtain ⟨fs, hfs⟩ : ∃ fs, fs = (cst z k).1 := ⟨_, rfl⟩
        obtain ⟨fc, hfc⟩ : ∃ fc, fc = (cst z k).2 := ⟨_, rfl⟩
        rw [← hfs, ← hfc] at hI
        rw [← hfs] at hsm1
        rw [← hfc] at hsm2
        have hId : IsS wr.drew x1 x2 x0 A n m K fs fc := hI
        have hC := bestcopy_any (w := wr.drew) a hId ((HZ.out.below (by rw [H0.out]; exact hbd)).drewN 1) HBY.out hm HK.out han hn (fun i => ⟨(hsm1 i).1, by have := (hsm1 i).2; omega⟩)
        obtain ⟨c, hc⟩ : ∃ c, c = stf (g2 fs a) (bof z a (alls a)) 4 (lg z a a - 3) := ⟨_, rfl⟩
        have hcs : Sml c := by rw [hc]; exact bcp_small (z := z) (fs := fs) (a := a) (by omega) (by omega) hsm1
        have hfc2 := up3_small (a := a) hsm2 hcs
        rw [← hc] at hC
        have HFS := Lib.hid hfs
        have HFC := Lib.hid hfc
        have HC := Lib.hid hc
        have HAE := Lib.hid hae
        have HFC2 := Lib.hid hfc2
        have HBD := Lib.hid hbd
        clear hsm1 hsm2 hfs hfc hc hae ei hcs hfc2 hbd
        go_upto_region 5 with (fail)
        have hS : Blk wr.drew x1 #[.slice A n m, .slice (some ⟨x2, 0, none⟩) K K, .slice (some ⟨x0, 0, none⟩) K K] 80 := hI.1
        have L : ∀ w' : World, Blk w' x1 #[.slice A n m, .slice (some ⟨x2, 0, none⟩) K K, .slice (some ⟨x0, 0, none⟩) K K] 80 → w'.cell? ⟨x1, 1, none⟩ = some (.slice (some ⟨x2, 0, none⟩) K K) ∧ w'.cell? ⟨x1, 2, none⟩ = some (.slice (some ⟨x0, 0, none⟩) K K) := fun w' h => h.c3.2
        have HI := Lib.hid hId
        clear hI hId
        refine Seq.wp_region_last (fun w' => Blk w' x1 #[.slice A n m, .slice (some ⟨x2, 0, none⟩) K K, .slice (some ⟨x0, 0, none⟩) K K] 80) (by kernel_rfl) (by kernel_rfl) (by kernel_rfl) hS ?_
        repeat (first | (refine Seq.SeqE.skip (by rfl) ?_; (try simp only [Act.put, List.setIfInBounds_toArray, List.set_cons_zero, List.set_cons_succ])) | (refine Seq.SeqE.det ?_ (by rfl) (fun w hS => ?_) ?_; rotate_left; ((try dsimp only at hS); go_simp; (try rw [if_pos (by omega)]); with_reducible rfl); (try simp only [Act.put, List.setIfInBounds_toArray, List.set_cons_zero, List.set_cons_succ])))
        refine Seq.SeqE.make (by rfl) (by rfl) (fun K Q' hK => ?_)
        go_simp
        go_at_call 73
        refine hC.mono ?_
        rintro e w1 ⟨rfl, hb1⟩
        have hI1 := HI.out.below hb1
        have HBD1 := Lib.hid (HBD.out.drew.trans (hb1.mono (HSZ.out _ HBD.out.drew)))
        clear hC hb1 HI
        have hS1 := hI1.1
        refine hK.out _ _ (hS1) ?_
        clear hK K
        try simp only [Act.put, List.setIfInBounds_toArray, List.set_cons_zero, List.set_cons_succ]
        repeat (first | (refine Seq.SeqE.skip (by rfl) ?_; (try simp only [Act.put, List.setIfInBounds_toArray, List.set_cons_zero, List.set_cons_succ])) | (refine Seq.SeqE.det ?_ (by rfl) (fun w hS => ?_) ?_; rotate_left; ((try dsimp only at hS); go_simp; (try rw [if_pos (by omega)]); with_reducible rfl); (try simp only [Act.put, List.setIfInBounds_toArray, List.set_cons_zero, List.set_cons_succ])))
        have u0 := hI1.2.2.free (a * 3)
        have u1 := hI1.2.2.free (a * 3 + 1)
        have u2 := hI1.2.2.free (a * 3 + 2)
        have v0 := tb_cell hI1.2.2 (i := a * 3) (by omega)
        have v1 := tb_cell hI1.2.2 (i := a * 3 + 1) (by omega)
        have v2 := tb_cell hI1.2.2 (i := a * 3 + 2) (by omega)
        refine Seq.SeqE.last (by rfl) (by rfl) (fun K Q' hK => ?_)
        go_simp
        refine hK.out _ _ ?_
        clear hK K
        try simp only [Act.put, List.setIfInBounds_toArray, List.set_cons_zero, List.set_cons_succ]
        clear L hS hS1 u0 u1 u2 v0 v1 v2
        have hI2 : IsS _ x1 x2 x0 A n m K fs (up3 fc a c) := ⟨far3 hI1.1 (by omega) (.int .i64 c.1) (.int .i64 c.2.1) (.int .i64 c.2.2), far3 hI1.2.1 (by omega) (.int .i64 c.1) (.int .i64 c.2.1) (.int .i64 c.2.2), tb_set3 hI1.2.2 a c⟩
        have hbd2 := below3 (a := a) (g := x0) HBD1.out (by omega) (.int .i64 c.1) (.int .i64 c.2.1) (.int .i64 c.2.2)
        generalize ((w1.setCell ⟨x0, a * 3, none⟩ (.int .i64 c.1)).setCell ⟨x0, a * 3 + 1, none⟩ (.int .i64 c.2.1)).setCell ⟨x0, a * 3 + 2, none⟩ (.int .i64 c.2.2) = w2 at *
        have HBD2 := Lib.hid hbd2
        clear hI1 hbd2 HBD HBD1
        obtain ⟨f2, hf2⟩ : ∃ f2, f2 = up3 fc a c := ⟨_, rfl⟩
        rw [← hf2] at hI2
        have hfc2 := HFC2.out
        rw [← hf2] at hfc2
        have hv : f2 (a * 3) = c.1 ∧ f2 (a * 3 + 1) = c.2.1 ∧ f2 (a * 3 + 2) = c.2.2 := by
          rw [hf2]
          unfold up3 upd
          exact ⟨by rw [if_neg (by omega), if_neg (by omega), if_pos rfl], by rw [if_neg (by omega), if_pos rfl], by rw [if_pos rfl]⟩
        have HF2 := Lib.hid hf2
        clear hf2 HFC2
        have hC := bestrun_any (w := w2.drew) a (show IsS w2.drew x1 x2 x0 A n m K fs f2 from hI2) HK.out han hn (fun i => ⟨(hfc2 i).1, by have := (hfc2 i).2; omega⟩)
        obtain ⟨r, hr⟩ : ∃ r, r = stf (fun k => (k : Int) + 1 + f2 ((a + k) * 3)) 0 1 (n - a) := ⟨_, rfl⟩
        rw [← hr] at hC
        have HR := Lib.hid hr
        clear hr hfc2
        go_upto_region 6 with (fail)
        have hS : S6 x1 x0 a #[.slice A n m, .slice (some ⟨x2, 0, none⟩) K K, .slice (some ⟨x0, 0, none⟩) K K] c w2.drew := ⟨hI2.1, by rw [← hv.1]; exact tb_cell hI2.2.2 (by omega), by rw [← hv.2.1]; exact tb_cell hI2.2.2 (by omega), by rw [← hv.2.2]; exact tb_cell hI2.2.2 (by omega)⟩
        have L : ∀ w' : World, S6 x1 x0 a #[.slice A n m, .slice (some ⟨x2, 0, none⟩) K K, .slice (some ⟨x0, 0, none⟩) K K] c w' → (w'.cell? ⟨x1, 1, none⟩ = some (.slice (some ⟨x2, 0, none⟩) K K) ∧ w'.cell? ⟨x1, 2, none⟩ = some (.slice (some ⟨x0, 0, none⟩) K K)) ∧ w'.cell? ⟨x0, a * 3, none⟩ = some (.int .i64 c.1) ∧ w'.cell? ⟨x0, a * 3 + 1, none⟩ = some (.int .i64 c.2.1) ∧ w'.cell? ⟨x0, a * 3 + 2, none⟩ = some (.int .i64 c.2.2) := fun w' h => ⟨h.1.c3.2, h.2⟩
        have HI2 := Lib.hid (show IsS w2.drew x1 x2 x0 A n m K fs f2 from hI2)
        clear hI2 hv
        refine Seq.wp_region_last (S6 x1 x0 a #[.slice A n m, .slice (some ⟨x2, 0, none⟩) K K, .slice (some ⟨x0, 0, none⟩) K K] c) (by kernel_rfl) (by kernel_rfl) (by kernel_rfl) hS ?_
        repeat (first | (refine Seq.SeqE.skip (by rfl) ?_; (try simp only [Act.put, List.setIfInBounds_toArray, List.set_cons_zero, List.set_cons_succ])) | (refine Seq.SeqE.det ?_ (by rfl) (fun w hS => ?_) ?_; rotate_left; ((try dsimp only at hS); go_simp; (try rw [if_pos (by omega)]); with_reducible rfl); (try simp only [Act.put, List.setIfInBounds_toArray, List.set_cons_zero, List.set_cons_succ])))
        refine Seq.SeqE.make (by rfl) (by rfl) (fun K Q' hK => ?_)
        go_simp
        go_at_call 75
        refine hC.mono ?_
        rintro e w3 ⟨rfl, hb3⟩
        have HI3 := Lib.hid (HI2.out.below hb3)
        have HBD3 := Lib.hid (HBD2.out.drew.trans (hb3.mono (HSZ.out _ HBD2.out.drew)))
        have hS3 := hS.below hb3
        clear hC hb3 HI2 HBD2
        refine hK.out _ _ (hS3) ?_
        clear hK K
        try simp only [Act.put, List.setIfInBounds_toArray, List.set_cons_zero, List.set_cons_succ]
        repeat (first | (refine Seq.SeqE.skip (by rfl) ?_; (try simp only [Act.put, List.setIfInBounds_toArray, List.set_cons_zero, List.set_cons_succ])) | (refine Seq.SeqE.det ?_ (by rfl) (fun w hS => ?_) ?_; rotate_left; ((try dsimp only at hS); go_simp; (try rw [if_pos (by omega)]); with_reducible rfl); (try simp only [Act.put, List.setIfInBounds_toArray, List.set_cons_zero, List.set_cons_succ])))
        refine Seq.SeqE.make (by rfl) (by rfl) (fun K Q' hK => ?_)
        go_simp
        go_at_call 74
        refine (less_any c.1 c.2.1 c.2.2 r.1 r.2.1 r.2.2 _).mono ?_
        rintro e w4 ⟨rfl, hb4⟩
        rw [show lss (c.1, c.2.1, c.2.2) (r.1, r.2.1, r.2.2) = lss c r from rfl]
        obtain ⟨t, ht⟩ : ∃ t, t = lss c r := ⟨_, rfl⟩
        rw [← ht]
        have HT := Lib.hid ht
        have hI4 := HI3.out.below hb4
        have HBD4 := Lib.hid (HBD3.out.trans (hb4.mono (HSZ.out _ HBD3.out)))
        have hS4 := hS3.below hb4
        clear hb4 HI3 HBD3 ht
        refine hK.out _ _ (hS4) ?_
        clear hK K
        try simp only [Act.put, List.setIfInBounds_toArray, List.set_cons_zero, List.set_cons_succ]
        repeat (first | (refine Seq.SeqE.skip (by rfl) ?_; (try simp only [Act.put, List.setIfInBounds_toArray, List.set_cons_zero, List.set_cons_succ])) | (refine Seq.SeqE.det ?_ (by rfl) (fun w hS => ?_) ?_; rotate_left; ((try dsimp only at hS); go_simp; (try rw [if_pos (by omega)]); with_reducible rfl); (try simp only [Act.put, List.setIfInBounds_toArray, List.set_cons_zero, List.set_cons_succ])))
        have u0 := hI4.2.1.free (a * 3)
        have u1 := hI4.2.1.free (a * 3 + 1)
        have u2 := hI4.2.1.free (a * 3 + 2)
        have v0 := tb_cell hI4.2.1 (i := a * 3) (by omega)
        have v1 := tb_cell hI4.2.1 (i := a * 3 + 1) (by omega)
        have v2 := tb_cell hI4.2.1 (i := a * 3 + 2) (by omega)
        refine Seq.SeqE.last (by rfl) (by rfl) (fun K Q' hK => ?_)
        go_simp
        refine hK.out _ _ ?_
        clear hK K
        try simp only [Act.put, List.setIfInBounds_toArray, List.set_cons_zero, List.set_cons_succ]
        clear L hS hS3 hS4 u0 u1 u2 v0 v1 v2
        have hI5 : IsS _ x1 x2 x0 A n m K (up3 fs a t) f2 := ⟨far3 hI4.1 (by omega) (.int .i64 t.1) (.int .i64 t.2.1) (.int .i64 t.2.2), tb_set3 hI4.2.1 a t, far3 hI4.2.2 (by omega) (.int .i64 t.1) (.int .i64 t.2.1) (.int .i64 t.2.2)⟩
        have hbd5 := below3 (a := a) (g := x2) HBD4.out (by omega) (.int .i64 t.1) (.int .i64 t.2.1) (.int .i64 t.2.2)
        generalize ((w4.setCell ⟨x2, a * 3, none⟩ (.int .i64 t.1)).setCell ⟨x2, a * 3 + 1, none⟩ (.int .i64 t.2.1)).setCell ⟨x2, a * 3 + 2, none⟩ (.int .i64 t.2.2) = w5 at *
        have HI5 : Hid (IsS w5 x1 x2 x0 A n m K (cst z (k + 1)).1 (cst z (k + 1)).2) := Lib.hid (by
          have e2 : (cst z (k + 1)).2 = f2 := by rw [cst, hzl, ← HAE.out, ← HFS.out, ← HFC.out, HF2.out, HC.out]; rfl
          have e1 : (cst z (k + 1)).1 = up3 fs a t := by
            rw [HT.out, HR.out, HC.out, HF2.out, HC.out, cst, hzl, ← HAE.out, ← HFS.out, ← HFC.out]
            unfold brn
            rw [hzl]
            rfl
          rw [e1, e2]
          exact hI5)
        have HBD5 := Lib.hid hbd5
        clear hI4 HBD4 hI5 hbd5 HT HR HF2 HC HFS HFC
        go_wp2
        go_roundw
        case rel => exact ⟨k + 1, hlt, rfl, HI5.out, HBD5.out⟩
        case measure =>
          have hh := HAE.out
          simp [intOf]
          omega
      · obtain rfl : k = n := by omega
        have hge : ¬ (0 : Int) ≤ (k : Int) - 1 - (k : Int) := by omega
        have HI := Lib.hid hI
        have HBD := Lib.hid hbd
        clear hI hbd
        rw [show (k : Int) - 1 - (k : Int) = -1 by omega]
        clear hge
        go_wp2
        go_ret
        exact ⟨x1, x2, x0, rfl, HI.out, by rw [H0.out]; exact HBD.out⟩
  · obtain ⟨W, hW⟩ : ∃ W, (((w.alloc (.cells #[.slice A n m, .slice (some ⟨w.heap.size + 1, 0, none⟩) K K, .slice (some ⟨w.heap.size + 1 + 1, 0, none⟩) K K] 80)).alloc (.cells (tbc (K * 3) (fun _ => 0)) 77)).alloc (.cells (tbc (K * 3) (fun _ => 0)) 77)).drew = W := ⟨_, rfl⟩
    rw [hW]
    obtain ⟨b0, b1, b2, hbd⟩ := new3 w #[.slice A n m, .slice (some ⟨w.heap.size + 1, 0, none⟩) K K, .slice (some ⟨w.heap.size + 1 + 1, 0, none⟩) K K] (tbc (K * 3) (fun _ => 0)) (tbc (K * 3) (fun _ => 0)) 80 77 77
    rw [hW] at b0 b1 b2 hbd
    have hI : IsS W (w.heap.size) (w.heap.size + 1) (w.heap.size + 1 + 1) A n m K (fun _ => 0) (fun _ => 0) := ⟨b0, b1, b2⟩
    have hne : w.heap.size ≤ (w.heap.size + 1) ∧ w.heap.size ≤ (w.heap.size + 1 + 1) ∧ (w.heap.size + 1) ≠ (w.heap.size + 1 + 1) ∧ (w.heap.size) ≠ (w.heap.size + 1) ∧ (w.heap.size) ≠ (w.heap.size + 1 + 1) := by omega
    have hsz : ∀ W' : World, Below w.heap.size w W' → w.heap.size ≤ W'.heap.size := fun _ h => h.size
    clear b0 b1 b2 hW
    generalize w.heap.size + 1 + 1 = x2 at *
    generalize w.heap.size + 1 = x1 at *
    generalize h0 : w.heap.size = x0 at *
    have H0 := Lib.hid h0
    have HSZ := Lib.hid hsz
    clear h0 hsz
    have HKK := HK
    clear hmk
    go_wp2
    go_loopw [4] (fun i wr => ∃ k : Nat, k ≤ n ∧ i = .int .i64 ((n : Int) - 1 - (k : Int)) ∧ IsS wr x0 x1 x2 A n m K (cst z k).1 (cst z k).2 ∧ Below x0 w wr) (fun i _ => (intOf i + 1).toNat)
    case atStart => exact ⟨0, by omega, by simp, hI, hbd⟩
    case round =>
      clear hI hbd
      obtain ⟨k, hk, rfl, hI, hbd⟩ := hrel
      by_cases hlt : k < n
      · obtain ⟨a, hae⟩ : ∃ a : Nat, a = n - (k + 1) := ⟨_, rfl⟩
        have ei : (n : Int) - 1 - (k : Int) = (a : Int) := by omega
        have han : a < n := by omega
        have haK : a < K := by have := HK.out; omega
        have hge : (0 : Int) ≤ (a : Int) := by omega
        have ew : IntKind.i64.wrap ((a : Int) - 1) = (n : Int) - 1 - ((k + 1 : Nat) : Int) := (IntWalk.i64_in _ (by omega)).trans (by omega)
        rw [ei]
        obtain ⟨hsm1, hsm2⟩ := cst_small (z := z) (by omega) k (by omega)
        obtain ⟨fs, hfs⟩ : ∃ fs, fs = (cst z k).1 := ⟨_, rfl⟩
        obtain ⟨fc, hfc⟩ : ∃ fc, fc = (cst z k).2 := ⟨_, rfl⟩
        rw [← hfs, ← hfc] at hI
        rw [← hfs] at hsm1
        rw [← hfc] at hsm2
        have hId : IsS wr.drew x0 x1 x2 A n m K fs fc := hI
        have hC := bestcopy_any (w := wr.drew) a hId ((HZ.out.below (by rw [H0.out]; exact hbd)).drewN 1) HBY.out hm HK.out han hn (fun i => ⟨(hsm1 i).1, by have := (hsm1 i).2; omega⟩)
        obtain ⟨c, hc⟩ : ∃ c, c = stf (g2 fs a) (bof z a (alls a)) 4 (lg z a a - 3) := ⟨_, rfl⟩
        have hcs : Sml c := by rw [hc]; exact bcp_small (z := z) (fs := fs) (a := a) (by omega) (by omega) hsm1
        have hfc2 := up3_small (a := a) hsm2 hcs
        rw [← hc] at hC
        have HFS := Lib.hid hfs
        have HFC := Lib.hid hfc
        have HC := Lib.hid hc
        have HAE := Lib.hid hae
        have HFC2 := Lib.hid hfc2
        have HBD := Lib.hid hbd
        clear hsm1 hsm2 hfs hfc hc hae ei hcs hfc2 hbd
        go_upto_region 5 with (fail)
        have hS : Blk wr.drew x0 #[.slice A n m, .slice (some ⟨x1, 0, none⟩) K K, .slice (some ⟨x2, 0, none⟩) K K] 80 := hI.1
        have L : ∀ w' : World, Blk w' x0 #[.slice A n m, .slice (some ⟨x1, 0, none⟩) K K, .slice (some ⟨x2, 0, none⟩) K K] 80 → w'.cell? ⟨x0, 1, none⟩ = some (.slice (some ⟨x1, 0, none⟩) K K) ∧ w'.cell? ⟨x0, 2, none⟩ = some (.slice (some ⟨x2, 0, none⟩) K K) := fun w' h => h.c3.2
        have HI := Lib.hid hId
        clear hI hId
        refine Seq.wp_region_last (fun w' => Blk w' x0 #[.slice A n m, .slice (some ⟨x1, 0, none⟩) K K, .slice (some ⟨x2, 0, none⟩) K K] 80) (by kernel_rfl) (by kernel_rfl) (by kernel_rfl) hS ?_
        repeat (first | (refine Seq.SeqE.skip (by rfl) ?_; (try simp only [Act.put, List.setIfInBounds_toArray, List.set_cons_zero, List.set_cons_succ])) | (refine Seq.SeqE.det ?_ (by rfl) (fun w hS => ?_) ?_; rotate_left; ((try dsimp only at hS); go_simp; (try rw [if_pos (by omega)]); with_reducible rfl); (try simp only [Act.put, List.setIfInBounds_toArray, List.set_cons_zero, List.set_cons_succ])))
        refine Seq.SeqE.make (by rfl) (by rfl) (fun K Q' hK => ?_)
        go_simp
        go_at_call 73
        refine hC.mono ?_
        rintro e w1 ⟨rfl, hb1⟩
        have hI1 := HI.out.below hb1
        have HBD1 := Lib.hid (HBD.out.drew.trans (hb1.mono (HSZ.out _ HBD.out.drew)))
        clear hC hb1 HI
        have hS1 := hI1.1
        refine hK.out _ _ (hS1) ?_
        clear hK K
        try simp only [Act.put, List.setIfInBounds_toArray, List.set_cons_zero, List.set_cons_succ]
        repeat (first | (refine Seq.SeqE.skip (by rfl) ?_; (try simp only [Act.put, List.setIfInBounds_toArray, List.set_cons_zero, List.set_cons_succ])) | (refine Seq.SeqE.det ?_ (by rfl) (fun w hS => ?_) ?_; rotate_left; ((try dsimp only at hS); go_simp; (try rw [if_pos (by omega)]); with_reducible rfl); (try simp only [Act.put, List.setIfInBounds_toArray, List.set_cons_zero, List.set_cons_succ])))
        have u0 := hI1.2.2.free (a * 3)
        have u1 := hI1.2.2.free (a * 3 + 1)
        have u2 := hI1.2.2.free (a * 3 + 2)
        have v0 := tb_cell hI1.2.2 (i := a * 3) (by omega)
        have v1 := tb_cell hI1.2.2 (i := a * 3 + 1) (by omega)
        have v2 := tb_cell hI1.2.2 (i := a * 3 + 2) (by omega)
        refine Seq.SeqE.last (by rfl) (by rfl) (fun K Q' hK => ?_)
        go_simp
        refine hK.out _ _ ?_
        clear hK K
        try simp only [Act.put, List.setIfInBounds_toArray, List.set_cons_zero, List.set_cons_succ]
        clear L hS hS1 u0 u1 u2 v0 v1 v2
        have hI2 : IsS _ x0 x1 x2 A n m K fs (up3 fc a c) := ⟨far3 hI1.1 (by omega) (.int .i64 c.1) (.int .i64 c.2.1) (.int .i64 c.2.2), far3 hI1.2.1 (by omega) (.int .i64 c.1) (.int .i64 c.2.1) (.int .i64 c.2.2), tb_set3 hI1.2.2 a c⟩
        have hbd2 := below3 (a := a) (g := x2) HBD1.out (by omega) (.int .i64 c.1) (.int .i64 c.2.1) (.int .i64 c.2.2)
        generalize ((w1.setCell ⟨x2, a * 3, none⟩ (.int .i64 c.1)).setCell ⟨x2, a * 3 + 1, none⟩ (.int .i64 c.2.1)).setCell ⟨x2, a * 3 + 2, none⟩ (.int .i64 c.2.2) = w2 at *
        have HBD2 := Lib.hid hbd2
        clear hI1 hbd2 HBD HBD1
        obtain ⟨f2, hf2⟩ : ∃ f2, f2 = up3 fc a c := ⟨_, rfl⟩
        rw [← hf2] at hI2
        have hfc2 := HFC2.out
        rw [← hf2] at hfc2
        have hv : f2 (a * 3) = c.1 ∧ f2 (a * 3 + 1) = c.2.1 ∧ f2 (a * 3 + 2) = c.2.2 := by
          rw [hf2]
          unfold up3 upd
          exact ⟨by rw [if_neg (by omega), if_neg (by omega), if_pos rfl], by rw [if_neg (by omega), if_pos rfl], by rw [if_pos rfl]⟩
        have HF2 := Lib.hid hf2
        clear hf2 HFC2
        have hC := bestrun_any (w := w2.drew) a (show IsS w2.drew x0 x1 x2 A n m K fs f2 from hI2) HK.out han hn (fun i => ⟨(hfc2 i).1, by have := (hfc2 i).2; omega⟩)
        obtain ⟨r, hr⟩ : ∃ r, r = stf (fun k => (k : Int) + 1 + f2 ((a + k) * 3)) 0 1 (n - a) := ⟨_, rfl⟩
        rw [← hr] at hC
        have HR := Lib.hid hr
        clear hr hfc2
        go_upto_region 6 with (fail)
        have hS : S6 x0 x2 a #[.slice A n m, .slice (some ⟨x1, 0, none⟩) K K, .slice (some ⟨x2, 0, none⟩) K K] c w2.drew := ⟨hI2.1, by rw [← hv.1]; exact tb_cell hI2.2.2 (by omega), by rw [← hv.2.1]; exact tb_cell hI2.2.2 (by omega), by rw [← hv.2.2]; exact tb_cell hI2.2.2 (by omega)⟩
        have L : ∀ w' : World, S6 x0 x2 a #[.slice A n m, .slice (some ⟨x1, 0, none⟩) K K, .slice (some ⟨x2, 0, none⟩) K K] c w' → (w'.cell? ⟨x0, 1, none⟩ = some (.slice (some ⟨x1, 0, none⟩) K K) ∧ w'.cell? ⟨x0, 2, none⟩ = some (.slice (some ⟨x2, 0, none⟩) K K)) ∧ w'.cell? ⟨x2, a * 3, none⟩ = some (.int .i64 c.1) ∧ w'.cell? ⟨x2, a * 3 + 1, none⟩ = some (.int .i64 c.2.1) ∧ w'.cell? ⟨x2, a * 3 + 2, none⟩ = some (.int .i64 c.2.2) := fun w' h => ⟨h.1.c3.2, h.2⟩
        have HI2 := Lib.hid (show IsS w2.drew x0 x1 x2 A n m K fs f2 from hI2)
        clear hI2 hv
        refine Seq.wp_region_last (S6 x0 x2 a #[.slice A n m, .slice (some ⟨x1, 0, none⟩) K K, .slice (some ⟨x2, 0, none⟩) K K] c) (by kernel_rfl) (by kernel_rfl) (by kernel_rfl) hS ?_
        repeat (first | (refine Seq.SeqE.skip (by rfl) ?_; (try simp only [Act.put, List.setIfInBounds_toArray, List.set_cons_zero, List.set_cons_succ])) | (refine Seq.SeqE.det ?_ (by rfl) (fun w hS => ?_) ?_; rotate_left; ((try dsimp only at hS); go_simp; (try rw [if_pos (by omega)]); with_reducible rfl); (try simp only [Act.put, List.setIfInBounds_toArray, List.set_cons_zero, List.set_cons_succ])))
        refine Seq.SeqE.make (by rfl) (by rfl) (fun K Q' hK => ?_)
        go_simp
        go_at_call 75
        refine hC.mono ?_
        rintro e w3 ⟨rfl, hb3⟩
        have HI3 := Lib.hid (HI2.out.below hb3)
        have HBD3 := Lib.hid (HBD2.out.drew.trans (hb3.mono (HSZ.out _ HBD2.out.drew)))
        have hS3 := hS.below hb3
        clear hC hb3 HI2 HBD2
        refine hK.out _ _ (hS3) ?_
        clear hK K
        try simp only [Act.put, List.setIfInBounds_toArray, List.set_cons_zero, List.set_cons_succ]
        repeat (first | (refine Seq.SeqE.skip (by rfl) ?_; (try simp only [Act.put, List.setIfInBounds_toArray, List.set_cons_zero, List.set_cons_succ])) | (refine Seq.SeqE.det ?_ (by rfl) (fun w hS => ?_) ?_; rotate_left; ((try dsimp only at hS); go_simp; (try rw [if_pos (by omega)]); with_reducible rfl); (try simp only [Act.put, List.setIfInBounds_toArray, List.set_cons_zero, List.set_cons_succ])))
        refine Seq.SeqE.make (by rfl) (by rfl) (fun K Q' hK => ?_)
        go_simp
        go_at_call 74
        refine (less_any c.1 c.2.1 c.2.2 r.1 r.2.1 r.2.2 _).mono ?_
        rintro e w4 ⟨rfl, hb4⟩
        rw [show lss (c.1, c.2.1, c.2.2) (r.1, r.2.1, r.2.2) = lss c r from rfl]
        obtain ⟨t, ht⟩ : ∃ t, t = lss c r := ⟨_, rfl⟩
        rw [← ht]
        have HT := Lib.hid ht
        have hI4 := HI3.out.below hb4
        have HBD4 := Lib.hid (HBD3.out.trans (hb4.mono (HSZ.out _ HBD3.out)))
        have hS4 := hS3.below hb4
        clear hb4 HI3 HBD3 ht
        refine hK.out _ _ (hS4) ?_
        clear hK K
        try simp only [Act.put, List.setIfInBounds_toArray, List.set_cons_zero, List.set_cons_succ]
        repeat (first | (refine Seq.SeqE.skip (by rfl) ?_; (try simp only [Act.put, List.setIfInBounds_toArray, List.set_cons_zero, List.set_cons_succ])) | (refine Seq.SeqE.det ?_ (by rfl) (fun w hS => ?_) ?_; rotate_left; ((try dsimp only at hS); go_simp; (try rw [if_pos (by omega)]); with_reducible rfl); (try simp only [Act.put, List.setIfInBounds_toArray, List.set_cons_zero, List.set_cons_succ])))
        have u0 := hI4.2.1.free (a * 3)
        have u1 := hI4.2.1.free (a * 3 + 1)
        have u2 := hI4.2.1.free (a * 3 + 2)
        have v0 := tb_cell hI4.2.1 (i := a * 3) (by omega)
        have v1 := tb_cell hI4.2.1 (i := a * 3 + 1) (by omega)
        have v2 := tb_cell hI4.2.1 (i := a * 3 + 2) (by omega)
        refine Seq.SeqE.last (by rfl) (by rfl) (fun K Q' hK => ?_)
        go_simp
        refine hK.out _ _ ?_
        clear hK K
        try simp only [Act.put, List.setIfInBounds_toArray, List.set_cons_zero, List.set_cons_succ]
        clear L hS hS3 hS4 u0 u1 u2 v0 v1 v2
        have hI5 : IsS _ x0 x1 x2 A n m K (up3 fs a t) f2 := ⟨far3 hI4.1 (by omega) (.int .i64 t.1) (.int .i64 t.2.1) (.int .i64 t.2.2), tb_set3 hI4.2.1 a t, far3 hI4.2.2 (by omega) (.int .i64 t.1) (.int .i64 t.2.1) (.int .i64 t.2.2)⟩
        have hbd5 := below3 (a := a) (g := x1) HBD4.out (by omega) (.int .i64 t.1) (.int .i64 t.2.1) (.int .i64 t.2.2)
        generalize ((w4.setCell ⟨x1, a * 3, none⟩ (.int .i64 t.1)).setCell ⟨x1, a * 3 + 1, none⟩ (.int .i64 t.2.1)).setCell ⟨x1, a * 3 + 2, none⟩ (.int .i64 t.2.2) = w5 at *
        have HI5 : Hid (IsS w5 x0 x1 x2 A n m K (cst z (k + 1)).1 (cst z (k + 1)).2) := Lib.hid (by
          have e2 : (cst z (k + 1)).2 = f2 := by rw [cst, hzl, ← HAE.out, ← HFS.out, ← HFC.out, HF2.out, HC.out]; rfl
          have e1 : (cst z (k + 1)).1 = up3 fs a t := by
            rw [HT.out, HR.out, HC.out, HF2.out, HC.out, cst, hzl, ← HAE.out, ← HFS.out, ← HFC.out]
            unfold brn
            rw [hzl]
            rfl
          rw [e1, e2]
          exact hI5)
        have HBD5 := Lib.hid hbd5
        clear hI4 HBD4 hI5 hbd5 HT HR HF2 HC HFS HFC
        go_wp2
        go_roundw
        case rel => exact ⟨k + 1, hlt, rfl, HI5.out, HBD5.out⟩
        case measure =>
          have hh := HAE.out
          simp [intOf]
          omega
      · obtain rfl : k = n := by omega
        have hge : ¬ (0 : Int) ≤ (k : Int) - 1 - (k : Int) := by omega
        have HI := Lib.hid hI
        have HBD := Lib.hid hbd
        clear hI hbd
        rw [show (k : Int) - 1 - (k : Int) = -1 by omega]
        clear hge
        go_wp2
        go_ret
        exact ⟨x0, x1, x2, rfl, HI.out, by rw [H0.out]; exact HBD.out⟩
  · obtain ⟨W, hW⟩ : ∃ W, (((w.alloc (.cells #[.slice A n m, .slice (some ⟨w.heap.size + 1 + 1, 0, none⟩) K K, .slice (some ⟨w.heap.size + 1, 0, none⟩) K K] 80)).alloc (.cells (tbc (K * 3) (fun _ => 0)) 77)).alloc (.cells (tbc (K * 3) (fun _ => 0)) 77)).drew = W := ⟨_, rfl⟩
    rw [hW]
    obtain ⟨b0, b1, b2, hbd⟩ := new3 w #[.slice A n m, .slice (some ⟨w.heap.size + 1 + 1, 0, none⟩) K K, .slice (some ⟨w.heap.size + 1, 0, none⟩) K K] (tbc (K * 3) (fun _ => 0)) (tbc (K * 3) (fun _ => 0)) 80 77 77
    rw [hW] at b0 b1 b2 hbd
    have hI : IsS W (w.heap.size) (w.heap.size + 1 + 1) (w.heap.size + 1) A n m K (fun _ => 0) (fun _ => 0) := ⟨b0, b2, b1⟩
    have hne : w.heap.size ≤ (w.heap.size + 1 + 1) ∧ w.heap.size ≤ (w.heap.size + 1) ∧ (w.heap.size + 1 + 1) ≠ (w.heap.size + 1) ∧ (w.heap.size) ≠ (w.heap.size + 1 + 1) ∧ (w.heap.size) ≠ (w.heap.size + 1) := by omega
    have hsz : ∀ W' : World, Below w.heap.size w W' → w.heap.size ≤ W'.heap.size := fun _ h => h.size
    clear b0 b1 b2 hW
    generalize w.heap.size + 1 + 1 = x2 at *
    generalize w.heap.size + 1 = x1 at *
    generalize h0 : w.heap.size = x0 at *
    have H0 := Lib.hid h0
    have HSZ := Lib.hid hsz
    clear h0 hsz
    have HKK := HK
    clear hmk
    go_wp2
    go_loopw [4] (fun i wr => ∃ k : Nat, k ≤ n ∧ i = .int .i64 ((n : Int) - 1 - (k : Int)) ∧ IsS wr x0 x2 x1 A n m K (cst z k).1 (cst z k).2 ∧ Below x0 w wr) (fun i _ => (intOf i + 1).toNat)
    case atStart => exact ⟨0, by omega, by simp, hI, hbd⟩
    case round =>
      clear hI hbd
      obtain ⟨k, hk, rfl, hI, hbd⟩ := hrel
      by_cases hlt : k < n
      · obtain ⟨a, hae⟩ : ∃ a : Nat, a = n - (k + 1) := ⟨_, rfl⟩
        have ei : (n : Int) - 1 - (k : Int) = (a : Int) := by omega
        have han : a < n := by omega
        have haK : a < K := by have := HK.out; omega
        have hge : (0 : Int) ≤ (a : Int) := by omega
        have ew : IntKind.i64.wrap ((a : Int) - 1) = (n : Int) - 1 - ((k + 1 : Nat) : Int) := (IntWalk.i64_in _ (by omega)).trans (by omega)
        rw [ei]
        obtain ⟨hsm1, hsm2⟩ := cst_small (z := z) (by omega) k (by omega)
        obtain ⟨fs, hfs⟩ : ∃ fs, fs = (cst z k).1 := ⟨_, rfl⟩
        obtain ⟨fc, hfc⟩ : ∃ fc, fc = (cst z k).2 := ⟨_, rfl⟩
        rw [← hfs, ← hfc] at hI
        rw [← hfs] at hsm1
        rw [← hfc] at hsm2
        have hId : IsS wr.drew x0 x2 x1 A n m K fs fc := hI
        have hC := bestcopy_any (w := wr.drew) a hId ((HZ.out.below (by rw [H0.out]; exact hbd)).drewN 1) HBY.out hm HK.out han hn (fun i => ⟨(hsm1 i).1, by have := (hsm1 i).2; omega⟩)
        obtain ⟨c, hc⟩ : ∃ c, c = stf (g2 fs a) (bof z a (alls a)) 4 (lg z a a - 3) := ⟨_, rfl⟩
        have hcs : Sml c := by rw [hc]; exact bcp_small (z := z) (fs := fs) (a := a) (by omega) (by omega) hsm1
        have hfc2 := up3_small (a := a) hsm2 hcs
        rw [← hc] at hC
        have HFS := Lib.hid hfs
        have HFC := Lib.hid hfc
        have HC := Lib.hid hc
        have HAE := Lib.hid hae
        have HFC2 := Lib.hid hfc2
        have HBD := Lib.hid hbd
        clear hsm1 hsm2 hfs hfc hc hae ei hcs hfc2 hbd
        go_upto_region 5 with (fail)
        have hS : Blk wr.drew x0 #[.slice A n m, .slice (some ⟨x2, 0, none⟩) K K, .slice (some ⟨x1, 0, none⟩) K K] 80 := hI.1
        have L : ∀ w' : World, Blk w' x0 #[.slice A n m, .slice (some ⟨x2, 0, none⟩) K K, .slice (some ⟨x1, 0, none⟩) K K] 80 → w'.cell? ⟨x0, 1, none⟩ = some (.slice (some ⟨x2, 0, none⟩) K K) ∧ w'.cell? ⟨x0, 2, none⟩ = some (.slice (some ⟨x1, 0, none⟩) K K) := fun w' h => h.c3.2
        have HI := Lib.hid hId
        clear hI hId
        refine Seq.wp_region_last (fun w' => Blk w' x0 #[.slice A n m, .slice (some ⟨x2, 0, none⟩) K K, .slice (some ⟨x1, 0, none⟩) K K] 80) (by kernel_rfl) (by kernel_rfl) (by kernel_rfl) hS ?_
        repeat (first | (refine Seq.SeqE.skip (by rfl) ?_; (try simp only [Act.put, List.setIfInBounds_toArray, List.set_cons_zero, List.set_cons_succ])) | (refine Seq.SeqE.det ?_ (by rfl) (fun w hS => ?_) ?_; rotate_left; ((try dsimp only at hS); go_simp; (try rw [if_pos (by omega)]); with_reducible rfl); (try simp only [Act.put, List.setIfInBounds_toArray, List.set_cons_zero, List.set_cons_succ])))
        refine Seq.SeqE.make (by rfl) (by rfl) (fun K Q' hK => ?_)
        go_simp
        go_at_call 73
        refine hC.mono ?_
        rintro e w1 ⟨rfl, hb1⟩
        have hI1 := HI.out.below hb1
        have HBD1 := Lib.hid (HBD.out.drew.trans (hb1.mono (HSZ.out _ HBD.out.drew)))
        clear hC hb1 HI
        have hS1 := hI1.1
        refine hK.out _ _ (hS1) ?_
        clear hK K
        try simp only [Act.put, List.setIfInBounds_toArray, List.set_cons_zero, List.set_cons_succ]
        repeat (first | (refine Seq.SeqE.skip (by rfl) ?_; (try simp only [Act.put, List.setIfInBounds_toArray, List.set_cons_zero, List.set_cons_succ])) | (refine Seq.SeqE.det ?_ (by rfl) (fun w hS => ?_) ?_; rotate_left; ((try dsimp only at hS); go_simp; (try rw [if_pos (by omega)]); with_reducible rfl); (try simp only [Act.put, List.setIfInBounds_toArray, List.set_cons_zero, List.set_cons_succ])))
        have u0 := hI1.2.2.free (a * 3)
        have u1 := hI1.2.2.free (a * 3 + 1)
        have u2 := hI1.2.2.free (a * 3 + 2)
        have v0 := tb_cell hI1.2.2 (i := a * 3) (by omega)
        have v1 := tb_cell hI1.2.2 (i := a * 3 + 1) (by omega)
        have v2 := tb_cell hI1.2.2 (i := a * 3 + 2) (by omega)
        refine Seq.SeqE.last (by rfl) (by rfl) (fun K Q' hK => ?_)
        go_simp
        refine hK.out _ _ ?_
        clear hK K
        try simp only [Act.put, List.setIfInBounds_toArray, List.set_cons_zero, List.set_cons_succ]
        clear L hS hS1 u0 u1 u2 v0 v1 v2
        have hI2 : IsS _ x0 x2 x1 A n m K fs (up3 fc a c) := ⟨far3 hI1.1 (by omega) (.int .i64 c.1) (.int .i64 c.2.1) (.int .i64 c.2.2), far3 hI1.2.1 (by omega) (.int .i64 c.1) (.int .i64 c.2.1) (.int .i64 c.2.2), tb_set3 hI1.2.2 a c⟩
        have hbd2 := below3 (a := a) (g := x1) HBD1.out (by omega) (.int .i64 c.1) (.int .i64 c.2.1) (.int .i64 c.2.2)
        generalize ((w1.setCell ⟨x1, a * 3, none⟩ (.int .i64 c.1)).setCell ⟨x1, a * 3 + 1, none⟩ (.int .i64 c.2.1)).setCell ⟨x1, a * 3 + 2, none⟩ (.int .i64 c.2.2) = w2 at *
        have HBD2 := Lib.hid hbd2
        clear hI1 hbd2 HBD HBD1
        obtain ⟨f2, hf2⟩ : ∃ f2, f2 = up3 fc a c := ⟨_, rfl⟩
        rw [← hf2] at hI2
        have hfc2 := HFC2.out
        rw [← hf2] at hfc2
        have hv : f2 (a * 3) = c.1 ∧ f2 (a * 3 + 1) = c.2.1 ∧ f2 (a * 3 + 2) = c.2.2 := by
          rw [hf2]
          unfold up3 upd
          exact ⟨by rw [if_neg (by omega), if_neg (by omega), if_pos rfl], by rw [if_neg (by omega), if_pos rfl], by rw [if_pos rfl]⟩
        have HF2 := Lib.hid hf2
        clear hf2 HFC2
        have hC := bestrun_any (w := w2.drew) a (show IsS w2.drew x0 x2 x1 A n m K fs f2 from hI2) HK.out han hn (fun i => ⟨(hfc2 i).1, by have := (hfc2 i).2; omega⟩)
        obtain ⟨r, hr⟩ : ∃ r, r = stf (fun k => (k : Int) + 1 + f2 ((a + k) * 3)) 0 1 (n - a) := ⟨_, rfl⟩
        rw [← hr] at hC
        have HR := Lib.hid hr
        clear hr hfc2
        go_upto_region 6 with (fail)
        have hS : S6 x0 x1 a #[.slice A n m, .slice (some ⟨x2, 0, none⟩) K K, .slice (some ⟨x1, 0, none⟩) K K] c w2.drew := ⟨hI2.1, by rw [← hv.1]; exact tb_cell hI2.2.2 (by omega), by rw [← hv.2.1]; exact tb_cell hI2.2.2 (by omega), by rw [← hv.2.2]; exact tb_cell hI2.2.2 (by omega)⟩
        have L : ∀ w' : World, S6 x0 x1 a #[.slice A n m, .slice (some ⟨x2, 0, none⟩) K K, .slice (some ⟨x1, 0, none⟩) K K] c w' → (w'.cell? ⟨x0, 1, none⟩ = some (.slice (some ⟨x2, 0, none⟩) K K) ∧ w'.cell? ⟨x0, 2, none⟩ = some (.slice (some ⟨x1, 0, none⟩) K K)) ∧ w'.cell? ⟨x1, a * 3, none⟩ = some (.int .i64 c.1) ∧ w'.cell? ⟨x1, a * 3 + 1, none⟩ = some (.int .i64 c.2.1) ∧ w'.cell? ⟨x1, a * 3 + 2, none⟩ = some (.int .i64 c.2.2) := fun w' h => ⟨h.1.c3.2, h.2⟩
        have HI2 := Lib.hid (show IsS w2.drew x0 x2 x1 A n m K fs f2 from hI2)
        clear hI2 hv
        refine Seq.wp_region_last (S6 x0 x1 a #[.slice A n m, .slice (some ⟨x2, 0, none⟩) K K, .slice (some ⟨x1, 0, none⟩) K K] c) (by kernel_rfl) (by kernel_rfl) (by kernel_rfl) hS ?_
        repeat (first | (refine Seq.SeqE.skip (by rfl) ?_; (try simp only [Act.put, List.setIfInBounds_toArray, List.set_cons_zero, List.set_cons_succ])) | (refine Seq.SeqE.det ?_ (by rfl) (fun w hS => ?_) ?_; rotate_left; ((try dsimp only at hS); go_simp; (try rw [if_pos (by omega)]); with_reducible rfl); (try simp only [Act.put, List.setIfInBounds_toArray, List.set_cons_zero, List.set_cons_succ])))
        refine Seq.SeqE.make (by rfl) (by rfl) (fun K Q' hK => ?_)
        go_simp
        go_at_call 75
        refine hC.mono ?_
        rintro e w3 ⟨rfl, hb3⟩
        have HI3 := Lib.hid (HI2.out.below hb3)
        have HBD3 := Lib.hid (HBD2.out.drew.trans (hb3.mono (HSZ.out _ HBD2.out.drew)))
        have hS3 := hS.below hb3
        clear hC hb3 HI2 HBD2
        refine hK.out _ _ (hS3) ?_
        clear hK K
        try simp only [Act.put, List.setIfInBounds_toArray, List.set_cons_zero, List.set_cons_succ]
        repeat (first | (refine Seq.SeqE.skip (by rfl) ?_; (try simp only [Act.put, List.setIfInBounds_toArray, List.set_cons_zero, List.set_cons_succ])) | (refine Seq.SeqE.det ?_ (by rfl) (fun w hS => ?_) ?_; rotate_left; ((try dsimp only at hS); go_simp; (try rw [if_pos (by omega)]); with_reducible rfl); (try simp only [Act.put, List.setIfInBounds_toArray, List.set_cons_zero, List.set_cons_succ])))
        refine Seq.SeqE.make (by rfl) (by rfl) (fun K Q' hK => ?_)
        go_simp
        go_at_call 74
        refine (less_any c.1 c.2.1 c.2.2 r.1 r.2.1 r.2.2 _).mono ?_
        rintro e w4 ⟨rfl, hb4⟩
        rw [show lss (c.1, c.2.1, c.2.2) (r.1, r.2.1, r.2.2) = lss c r from rfl]
        obtain ⟨t, ht⟩ : ∃ t, t = lss c r := ⟨_, rfl⟩
        rw [← ht]
        have HT := Lib.hid ht
        have hI4 := HI3.out.below hb4
        have HBD4 := Lib.hid (HBD3.out.trans (hb4.mono (HSZ.out _ HBD3.out)))
        have hS4 := hS3.below hb4
        clear hb4 HI3 HBD3 ht
        refine hK.out _ _ (hS4) ?_
        clear hK K
        try simp only [Act.put, List.setIfInBounds_toArray, List.set_cons_zero, List.set_cons_succ]
        repeat (first | (refine Seq.SeqE.skip (by rfl) ?_; (try simp only [Act.put, List.setIfInBounds_toArray, List.set_cons_zero, List.set_cons_succ])) | (refine Seq.SeqE.det ?_ (by rfl) (fun w hS => ?_) ?_; rotate_left; ((try dsimp only at hS); go_simp; (try rw [if_pos (by omega)]); with_reducible rfl); (try simp only [Act.put, List.setIfInBounds_toArray, List.set_cons_zero, List.set_cons_succ])))
        have u0 := hI4.2.1.free (a * 3)
        have u1 := hI4.2.1.free (a * 3 + 1)
        have u2 := hI4.2.1.free (a * 3 + 2)
        have v0 := tb_cell hI4.2.1 (i := a * 3) (by omega)
        have v1 := tb_cell hI4.2.1 (i := a * 3 + 1) (by omega)
        have v2 := tb_cell hI4.2.1 (i := a * 3 + 2) (by omega)
        refine Seq.SeqE.last (by rfl) (by rfl) (fun K Q' hK => ?_)
        go_simp
        refine hK.out _ _ ?_
        clear hK K
        try simp only [Act.put, List.setIfInBounds_toArray, List.set_cons_zero, List.set_cons_succ]
        clear L hS hS3 hS4 u0 u1 u2 v0 v1 v2
        have hI5 : IsS _ x0 x2 x1 A n m K (up3 fs a t) f2 := ⟨far3 hI4.1 (by omega) (.int .i64 t.1) (.int .i64 t.2.1) (.int .i64 t.2.2), tb_set3 hI4.2.1 a t, far3 hI4.2.2 (by omega) (.int .i64 t.1) (.int .i64 t.2.1) (.int .i64 t.2.2)⟩
        have hbd5 := below3 (a := a) (g := x2) HBD4.out (by omega) (.int .i64 t.1) (.int .i64 t.2.1) (.int .i64 t.2.2)
        generalize ((w4.setCell ⟨x2, a * 3, none⟩ (.int .i64 t.1)).setCell ⟨x2, a * 3 + 1, none⟩ (.int .i64 t.2.1)).setCell ⟨x2, a * 3 + 2, none⟩ (.int .i64 t.2.2) = w5 at *
        have HI5 : Hid (IsS w5 x0 x2 x1 A n m K (cst z (k + 1)).1 (cst z (k + 1)).2) := Lib.hid (by
          have e2 : (cst z (k + 1)).2 = f2 := by rw [cst, hzl, ← HAE.out, ← HFS.out, ← HFC.out, HF2.out, HC.out]; rfl
          have e1 : (cst z (k + 1)).1 = up3 fs a t := by
            rw [HT.out, HR.out, HC.out, HF2.out, HC.out, cst, hzl, ← HAE.out, ← HFS.out, ← HFC.out]
            unfold brn
            rw [hzl]
            rfl
          rw [e1, e2]
          exact hI5)
        have HBD5 := Lib.hid hbd5
        clear hI4 HBD4 hI5 hbd5 HT HR HF2 HC HFS HFC
        go_wp2
        go_roundw
        case rel => exact ⟨k + 1, hlt, rfl, HI5.out, HBD5.out⟩
        case measure =>
          have hh := HAE.out
          simp [intOf]
          omega
      · obtain rfl : k = n := by omega
        have hge : ¬ (0 : Int) ≤ (k : Int) - 1 - (k : Int) := by omega
        have HI := Lib.hid hI
        have HBD := Lib.hid hbd
        clear hI hbd
        rw [show (k : Int) - 1 - (k : Int) = -1 by omega]
        clear hge
        go_wp2
        go_ret
        exact ⟨x0, x2, x1, rfl, HI.out, by rw [H0.out]; exact HBD.out⟩
end Go.Proofs.Ytmflnnfgkcmlhaa.Cur
