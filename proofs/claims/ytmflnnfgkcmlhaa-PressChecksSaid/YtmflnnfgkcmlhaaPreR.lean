/- Greedy compression: Check, Written; the document's Written; bytes told the same or not. -/
import Derived.Test.YtmflnnfgkcmlhaaK16
import Derived.Test.YtmflnnfgkcmlhaaExpX
import Derived.Test.YtmflnnfgkcmlhaaK13
import Derived.Test.YtmflnnfgkcmlhaaK12
import Derived.Test.YtmflnnfgkcmlhaaK2
namespace Go.Proofs.Ytmflnnfgkcmlhaa.Cur
open Go.RowKit Go.Shelf Mem
attribute [local go_sem] Oper.semAt_some
set_option linter.unusedVariables false
set_option maxRecDepth 100000


theorem bsame_any (A B : Option Addr) (n m c d : Nat) (y z : List Int) (w : World) (ha : Bs w A n y) (hb : Bs w B m z) (hy : ∀ x ∈ y, 0 ≤ x ∧ x < 256) (hz : ∀ x ∈ z, 0 ≤ x ∧ x < 256) :
    Calls Try.prog 14 #[.slice A n c, .slice B m d] w fun e w' => e = .returned (.bool (decide (y = z))) ∧ w = w' := by
  have h1 := run_convert_bs c ha
  have h2 := run_convert_bs d hb
  have hs : ((strOfNums y).toList == (strOfNums z).toList) = decide (y = z) := by
    by_cases h : y = z
    · subst h; simp
    · rw [decide_eq_false h, beq_eq_false_iff_ne]
      exact fun e => h (strOfNums_inj hy hz (bstr_inj e))
  generalize strOfNums y = s at *
  generalize strOfNums z = t at *
  generalize decide (y = z) = r at *
  clear hy hz ha hb
  go_enter Try.func14, Try.ntmps14
  go_wp2
  go_ret
  exact ⟨rfl, rfl⟩

/-- Is that what a text's compressed bytes are? -/
def chkb (t : List Int) (bound : Int) : Bool := decide ((exv t bound).2.1 = 0 ∧ t = cps (exv t bound).1)
def ChkPost (t : List Int) (bound : Int) (w : World) (e : Ending) (w' : World) : Prop :=
  ∃ v, e = .returned (.tuple #[v, .bool (chkb t bound), .agg #[.int .i64 (exv t bound).2.1, .int .i64 (exv t bound).2.2]]) ∧ Own w' w.heap.size v (exv t bound).1 ∧ Below w.heap.size w w'
set_option maxHeartbeats 4000000 in
theorem pcheck_any {w : World} {A : Option Addr} {n m : Nat} {t : List Int} (bound : Int) (hz : Bs w A n t) (hm : n ≤ m) (hn : n ≤ 100000) (hby : ∀ x ∈ t, 0 ≤ x ∧ x < 256) (hb : bound ≤ 10000) : Calls Try.prog 19 #[.slice A n m, .int .i64 bound] w (ChkPost t bound w) := by
  have hF := Blk.new w #[.int .i64 0, .int .i64 0] 40
  have hbF := below_one w (.cells #[.int .i64 0, .int .i64 0] 40)
  have hE := eb_le (m := m) (hz.below hbF) hm hn hby (show bound ≤ 800000 by omega)
  obtain ⟨g1, g2, g3, g4⟩ := exv_fine (z := t) (bound := bound) hby
  have emin : min bound 1048576 = bound := by omega
  have HZ := Lib.hid hz
  have HBY := Lib.hid hby
  unfold ChkPost
  obtain ⟨ck, hck⟩ : ∃ ck, ck = chkb t bound := ⟨_, rfl⟩
  rw [← hck]
  unfold chkb at hck
  generalize hG : exv t bound = G at *
  obtain ⟨y, c, q⟩ := G
  simp only at g1 g2 g3 g4 hck ⊢
  have HG4 := Lib.hid g4
  have HG3 := Lib.hid g3
  have HG2 := Lib.hid g2
  have HCK := Lib.hid hck
  clear hz hby hG g2 g3 g4 hck
  go_enter Try.func19, Try.ntmps19
  go_wp2_with fail
  with_reducible refine hE.mono ?_
  rintro e w1 ⟨v, rfl, ho, hb1⟩
  have hF1 := hF.below hb1
  have hbd := hbF.trans (hb1.mono hbF.size)
  have hX := Blk.new w1 #[.int .i64 c, .int .i64 q] 40
  have hbX := below_one w1 (.cells #[.int .i64 c, .int .i64 q] 40)
  obtain ⟨x0, x1⟩ := hX.c2
  have hF2 := hF1.below hbX
  have ho2 := ho.below hbX
  have hbd2 := hbd.trans (hbX.mono hbd.size)
  have hw1 : w.heap.size + 1 ≤ w1.heap.size := hF1.lt
  have HW1 : Hid (w.heap.size + 1 ≤ w1.heap.size) := Lib.hid hw1
  replace ho2 := ho2.base (B' := w.heap.size + 1) (fun g hg => by have := ho2.ge g hg; simpa using this)
  obtain ⟨Av, cv, rfl⟩ := ho2.slice
  clear hE ho hb1 hF1 hbX hbd hF hbF
  go_wp2_with fail
  refine (fgood_any c q _).mono ?_
  rintro e w2 ⟨rfl, hb2⟩
  replace hX := hX.below hb2
  replace hF2 := hF2.below hb2
  replace ho2 := ho2.below hb2
  replace hbd2 := hbd2.trans (hb2.mono hbd2.size)
  clear hb2 x0 x1
  by_cases hc : c = 0
  · subst hc
    obtain rfl := HG3.out rfl
    have hP := pbytes_any (m := cv) ho2.bs.2 HG2.out ho2.cap (by omega)
    have hcl := cps_byte (z := y) (by omega) HG2.out
    have HZ2 := HZ.out.below hbd2
    clear HG4
    go_wp2_with fail
    with_reducible refine hP.mono ?_
    rintro e w3 ⟨A3, n3, m3, rfl, hb3, hbs3, _⟩
    replace hX := hX.below hb3
    replace hF2 := hF2.below hb3
    replace ho2 := ho2.below hb3
    replace hbd2 := hbd2.trans (hb3.mono hbd2.size)
    replace HZ2 := HZ2.below hb3
    clear hP hb3
    have hBE := beq_any A A3 n n3 m m3 t (cps y) w3.drew (HZ2.below (below_one' w3)) (hbs3.below (below_one' w3)) HBY.out hcl
    have HCT : Hid (decide (t = cps y) = ck) := Lib.hid (by rw [HCK.out]; simp)
    rw [HCT.out] at hBE
    have hS : Blk w3.drew w1.heap.size #[.int .i64 0, .int .i64 0] 40 := hX
    have L : ∀ w', Blk w' w1.heap.size #[.int .i64 0, .int .i64 0] 40 → w'.cell? ⟨w1.heap.size, 0, none⟩ = some (.int .i64 0) ∧ w'.cell? ⟨w1.heap.size, 1, none⟩ = some (.int .i64 0) := fun w' h => h.c2
    have HO := Lib.hid (ho2.below (below_one' w3))
    have HB := Lib.hid (hbd2.trans ((below_one' w3).mono hbd2.size))
    have HF2 := Lib.hid (hF2.below (below_one' w3))
    clear HZ2 hbs3 hX ho2 hbd2 hF2 hcl
    go_wp2_with fail
    refine Seq.wp_region_seq (fun w' => Blk w' w1.heap.size #[.int .i64 0, .int .i64 0] 40) (by kernel_rfl) (by kernel_rfl) hS ?_
    repeat (first | (refine Seq.Seq.skip (by rfl) ?_; (try simp only [Act.put, List.setIfInBounds_toArray, List.set_cons_zero, List.set_cons_succ])) | (refine Seq.Seq.det ?_ (by rfl) (fun w hS => ?_) ?_; rotate_left; ((try dsimp only at hS); go_simp; (try rw [if_pos (by omega)]); with_reducible rfl); (try simp only [Act.put, List.setIfInBounds_toArray, List.set_cons_zero, List.set_cons_succ])))
    refine Seq.Seq.make (by rfl) (by rfl) (fun K Q' hK => ?_)
    go_simp
    go_at_call 46
    refine hBE.mono ?_
    rintro e w4 ⟨rfl, rfl⟩
    refine hK.out _ _ (hS) ?_
    clear hK K
    try simp only [Act.put, List.setIfInBounds_toArray, List.set_cons_zero, List.set_cons_succ]
    repeat (first | (refine Seq.Seq.skip (by rfl) ?_; (try simp only [Act.put, List.setIfInBounds_toArray, List.set_cons_zero, List.set_cons_succ])) | (refine Seq.Seq.det ?_ (by rfl) (fun w hS => ?_) ?_; rotate_left; ((try dsimp only at hS); go_simp; (try rw [if_pos (by omega)]); with_reducible rfl); (try simp only [Act.put, List.setIfInBounds_toArray, List.set_cons_zero, List.set_cons_succ])))
    obtain ⟨f0, f1⟩ := HF2.out.c2
    obtain ⟨k0, k1⟩ := HF2.out.f2
    have hF3 : Blk w3 w.heap.size #[.int .i64 0, .int .i64 0] 40 := HF2.out
    obtain ⟨f0', f1'⟩ := hF3.c2
    obtain ⟨k0', k1'⟩ := hF3.f2
    refine Seq.Seq.make (by rfl) (by rfl) (fun K Q' hK => ?_)
    go_simp
    have hne : w1.heap.size ≠ w.heap.size := by have := HW1.out; omega
    refine hK.out _ _ (((hS.far (g := w.heap.size) 0 (.int .i64 0) hne).far (g := w.heap.size) 1 (.int .i64 0) hne)) ?_
    clear hK K
    try simp only [Act.put, List.setIfInBounds_toArray, List.set_cons_zero, List.set_cons_succ]
    refine Seq.Seq.nil ?_
    clear L hS hne
    go_wp2
    have hFd : Blk ((w3.setCell ⟨w.heap.size, 0, none⟩ (.int .i64 0)).setCell ⟨w.heap.size, 1, none⟩ (.int .i64 0)).drew w.heap.size #[.int .i64 0, .int .i64 0] 40 := (hF3.set 0 (.int .i64 0)).set 1 (.int .i64 0)
    have hOd : Own ((w3.setCell ⟨w.heap.size, 0, none⟩ (.int .i64 0)).setCell ⟨w.heap.size, 1, none⟩ (.int .i64 0)).drew (w.heap.size + 1) (.slice Av y.length cv) y := Own.far (p := ⟨w.heap.size, 1, none⟩) (Own.far (p := ⟨w.heap.size, 0, none⟩) HO.out (by show w.heap.size < w.heap.size + 1; omega) (.int .i64 0)) (by show w.heap.size < w.heap.size + 1; omega) (.int .i64 0)
    have hBd : Below w.heap.size w ((w3.setCell ⟨w.heap.size, 0, none⟩ (.int .i64 0)).setCell ⟨w.heap.size, 1, none⟩ (.int .i64 0)).drew := (HB.out.setCell (p := ⟨w.heap.size, 0, none⟩) (Nat.le_refl _) (.int .i64 0)).setCell (p := ⟨w.heap.size, 1, none⟩) (Nat.le_refl _) (.int .i64 0)
    generalize ((w3.setCell ⟨w.heap.size, 0, none⟩ (.int .i64 0)).setCell ⟨w.heap.size, 1, none⟩ (.int .i64 0)).drew = Wf at hFd hOd hBd ⊢
    obtain ⟨d0, d1⟩ := hFd.c2
    exact bodyPost_ret (v := .tuple #[.slice Av y.length cv, .bool ck, .agg #[.int .i64 0, .int .i64 0]]) (by simp [results, Try.results19, go_sem, d0, d1]) rfl ⟨_, rfl, hOd.base (fun g hg => by have := hOd.ge g hg; omega), hBd⟩
  · have hcb : (c == 0) = false := by simpa using hc
    obtain rfl := HG4.out hc
    have HCF : Hid (ck = false) := Lib.hid (by rw [HCK.out]; exact decide_eq_false (fun h => hc h.1))
    clear hc HG3
    obtain ⟨f0, f1⟩ := hF2.c2
    obtain ⟨k0, k1⟩ := hF2.f2
    obtain ⟨x0, x1⟩ := hX.c2
    have HO := Lib.hid ho2
    have HB := Lib.hid hbd2
    clear ho2 hbd2
    go_wp2
    go_region
    go_wp2
    refine bodyPost_ret (v := .tuple #[.slice none 0 0, .bool false, .agg #[.int .i64 c, .int .i64 q]]) (by simp [results, Try.results19, go_sem, f0, f1]) rfl ⟨_, by rw [HCF.out], Own.nil _ _, ?_⟩
    exact ((HB.out.trans ((below_one' w2).mono HB.out.size)).setCell (Nat.le_refl _) _).setCell (Nat.le_refl _) _

/-- Are tokens those that are written, of what they make at most so many bytes? -/
def wrt (T : List Tk) (b : Int) (n : Nat) : Bool := decide ((xpb T b n).2.1 = 0 ∧ T = gtk (xpb T b n).1)
set_option maxHeartbeats 4000000 in
theorem pwritten_any {w : World} {A : Option Addr} {n m : Nat} {T : List Tk} {b : Int} (hT : TksL w A n T) (hok : ∀ t ∈ T, tkok t) (hn : n ≤ 100000) (hb0 : 0 ≤ b) (hb : b ≤ 10000) (h11 : (xpb T b n).2.1 ≠ 11) :
    Calls Try.prog 20 #[.slice A n m] w (BPost (.bool (wrt T b n)) w) := by
  unfold BPost
  have hE := etokens2_any A n m T 1048576 w hT hok hn (by omega) (fun k hk => by rw [xpb_twin (b := b) (by omega) k (xpb_11 h11 hk)]; have := xpb_le (T := T) (b := b) k; omega)
  rw [xpb_twin (b := b) (by omega) n h11] at hE
  have g1 := xpb_le (T := T) (b := b) n
  have g2 := xpb_byte (T := T) (b := b) hok n
  obtain ⟨ck, hck⟩ : ∃ ck, ck = wrt T b n := ⟨_, rfl⟩
  rw [← hck]
  unfold wrt at hck
  generalize hG : xpb T b n = G at *
  obtain ⟨y, c, q⟩ := G
  simp only at g1 g2 hck
  have HT := Lib.hid hT
  have HOK := Lib.hid hok
  have HG2 := Lib.hid g2
  have HCK := Lib.hid hck
  clear hT hok hG g2 hck h11
  go_enter Try.func20, Try.ntmps20
  go_wp2_with fail
  with_reducible refine hE.mono ?_
  rintro e w1 ⟨v, rfl, ho, hb1⟩
  have hX := Blk.new w1 #[.int .i64 c, .int .i64 q] 40
  have hbX := below_one w1 (.cells #[.int .i64 c, .int .i64 q] 40)
  obtain ⟨x0, x1⟩ := hX.c2
  have ho2 := ho.below hbX
  have hbd2 := hb1.trans (hbX.mono hb1.size)
  obtain ⟨Av, cv, rfl⟩ := ho2.slice
  clear hE ho hb1 hbX hX
  go_wp2_with fail
  refine (fgood_any c q _).mono ?_
  rintro e w2 ⟨rfl, hb2⟩
  replace ho2 := ho2.below hb2
  replace hbd2 := hbd2.trans (hb2.mono hbd2.size)
  clear hb2 x0 x1
  by_cases hc : c = 0
  · subst hc
    have hP := ptokens_any (m := cv) ho2.bs.2 HG2.out ho2.cap (by omega)
    have HGR := Lib.hid (gtk_right (z := y) (by omega) HG2.out)
    clear ho2
    go_wp2_with fail
    with_reducible refine hP.mono ?_
    rintro e w3 ⟨v3, L, p, rfl, hL, hp, hb3⟩
    obtain rfl := gtk_of hp
    obtain ⟨A3, c3, rfl⟩ := hL.slice
    obtain ⟨_, _, _, hT3⟩ := hL.tks
    replace hbd2 := hbd2.trans (hb3.mono hbd2.size)
    have HB := Lib.hid hbd2
    have hTS := tsame_any A A3 n (gtk y).length m c3 T (gtk y) w3 (by omega) (HT.out.below hbd2) hT3 HOK.out (fun t ht => (HGR.out.1 t ht).2.1)
    rw [show decide (T = gtk y) = ck by rw [HCK.out]; simp] at hTS
    generalize (gtk y).length = gl at *
    clear hP hL hp hb3 hbd2 hT3
    go_wp2_with fail
    with_reducible refine hTS.mono ?_
    rintro e w4 ⟨rfl, hb4⟩
    have HB4 := Lib.hid hb4
    clear hTS hb4
    go_wp2
    go_ret
    exact ⟨rfl, HB.out.trans (HB4.out.mono HB.out.size)⟩
  · have hcb : (c == 0) = false := by simpa using hc
    have HCF : Hid (ck = false) := Lib.hid (by rw [HCK.out]; exact decide_eq_false (fun h => hc h.1))
    have HB := Lib.hid hbd2
    clear hc ho2 hbd2
    go_wp2
    go_ret
    exact ⟨by rw [HCF.out]; rfl, HB.out⟩
set_option maxHeartbeats 4000000 in
theorem r15written_any {w : World} {A : Option Addr} {n m : Nat} {T : List Tk} {b : Int} (hT : TksL w A n T) (hok : ∀ t ∈ T, tkok t) (hn : n ≤ 100000) (hb : b ≤ 10000) :
    Calls Try.prog 24 #[.slice A n m, .int .i64 b] w (BPost (.bool (wrt T b n)) w) := by
  unfold BPost
  have hE := rtokens_any A n m T b w hT hok hn (by omega)
  have g1 := xpb_le (T := T) (b := b) n
  have g2 := xpb_byte (T := T) (b := b) hok n
  obtain ⟨ck, hck⟩ : ∃ ck, ck = wrt T b n := ⟨_, rfl⟩
  rw [← hck]
  unfold wrt at hck
  generalize hG : xpb T b n = G at *
  obtain ⟨y, c, q⟩ := G
  simp only at g1 g2 hck
  have HT := Lib.hid hT
  have HOK := Lib.hid hok
  have HG2 := Lib.hid g2
  have HCK := Lib.hid hck
  clear hT hok hG g2 hck
  go_enter Try.func24, Try.ntmps24
  go_wp2_with fail
  with_reducible refine hE.mono ?_
  rintro e w1 ⟨v, rfl, ho, hb1⟩
  have hX := Blk.new w1 #[.int .i64 c, .int .i64 q] 40
  have hbX := below_one w1 (.cells #[.int .i64 c, .int .i64 q] 40)
  obtain ⟨x0, x1⟩ := hX.c2
  have ho2 : Own _ w.heap.size v y := ho.below hbX
  have hbd2 := hb1.trans (hbX.mono hb1.size)
  obtain ⟨Av, cv, rfl⟩ := ho2.slice
  clear hE ho hb1 hbX hX
  by_cases hc : c = 0
  · subst hc
    have hP := rtokens15_any (m := cv) ho2.bs.2 HG2.out ho2.cap (by omega)
    have HGR := Lib.hid (gtk_right (z := y) (by omega) HG2.out)
    clear ho2
    go_wp2_with fail
    with_reducible refine hP.mono ?_
    rintro e w3 ⟨v3, L, p, rfl, hL, hp, hb3⟩
    obtain rfl := gtk_of hp
    obtain ⟨A3, c3, rfl⟩ := hL.slice
    obtain ⟨_, _, _, hT3⟩ := hL.tks
    replace hbd2 := hbd2.trans (hb3.mono hbd2.size)
    have HB := Lib.hid hbd2
    have hlen : (gtk y).length ≤ 10000 := by have := HGR.out.2.2; omega
    have hTS := rtsame_any A3 A (gtk y).length n c3 m (gtk y) T w3 (by omega) hT3 (HT.out.below hbd2) (fun t ht => (HGR.out.1 t ht).2.1) HOK.out
    rw [show decide (gtk y = T) = ck by rw [HCK.out]; simp only [true_and]; exact decide_eq_decide.2 eq_comm] at hTS
    generalize (gtk y).length = gl at *
    clear hP hL hp hb3 hbd2 hT3 x0 x1
    go_wp2_with fail
    with_reducible refine hTS.mono ?_
    rintro e w4 ⟨rfl, hb4⟩
    have HB4 := Lib.hid hb4
    clear hTS hb4
    go_wp2
    go_ret
    exact ⟨rfl, HB.out.trans (HB4.out.mono HB.out.size)⟩
  · have hcb : (c == 0) = false := by simpa using hc
    have HCF : Hid (ck = false) := Lib.hid (by rw [HCK.out]; exact decide_eq_false (fun h => hc h.1))
    have HB := Lib.hid hbd2
    clear hc ho2 hbd2
    go_wp2
    go_ret
    exact ⟨by rw [HCF.out]; rfl, HB.out⟩
/-- A text's own tokens, written and expanded. -/
theorem exv_cps {z : List Int} {b : Int} (hz : z.length ≤ 10000) (hby : ∀ x ∈ z, 0 ≤ x ∧ x < 256) (hb : (z.length : Int) ≤ b) : exv (cps z) b = (z, 0, 0) := by
  obtain ⟨p, hp⟩ := gtk_is z
  have h := gth_makes (z := z) (T := gtk z) (bound := (z.length : Int)) (by omega) (Int.le_refl _) hp
  have h' : xpb (gtk z) z.length (gtk z).length = (z, 0, 0) := h
  have := exv_all (T := gtk z) (M := z.length) (B := b) (n := (gtk z).length) (z := cps z) rfl (tbs_gtk z).symm (cps_byte (by omega) hby) (by rw [h']) (by rw [h']; exact hb)
  rw [this, h']
theorem wrt_gtk {z : List Int} {b : Int} (hz : z.length ≤ 10000) (hb : (z.length : Int) ≤ b) : (xpb (gtk z) b (gtk z).length) = (z, 0, 0) ∧ wrt (gtk z) b (gtk z).length = true := by
  obtain ⟨p, hp⟩ := gtk_is z
  have h : xpb (gtk z) b (gtk z).length = (z, 0, 0) := gth_makes (z := z) (T := gtk z) (by omega) hb hp
  refine ⟨h, ?_⟩
  unfold wrt
  rw [h]
  simp
end Go.Proofs.Ytmflnnfgkcmlhaa.Cur
