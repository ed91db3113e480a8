/- The least tokens, taken from the steps. -/
import Derived.Test.YtmflnnfgkcmlhaaLstD
import Derived.Test.YtmflnnfgkcmlhaaK16
namespace Go.Proofs.Ytmflnnfgkcmlhaa.Cur
open Go.RowKit Go.Shelf Mem
attribute [local go_sem] Oper.semAt_some
set_option linter.unusedVariables false
set_option maxRecDepth 100000


/-- The token of the step at a place: bytes of no run are none. -/
def stt (z : List Int) (fs : Nat → Int) (a : Nat) : List Tk := if 0 < fs (a * 3 + 1) then [([], fs (a * 3 + 1), fs (a * 3 + 2))] else rn1 (piece z a (a + (fs (a * 3 + 2)).toNat))
def stk (z : List Int) (fs : Nat → Int) : Nat → Nat → List Tk
  | 0, _ => []
  | k + 1, a => if a < z.length then stt z fs a ++ stk z fs k (a + (fs (a * 3 + 2)).toNat) else []
theorem stk_end {z : List Int} {fs : Nat → Int} {a : Nat} (h : z.length ≤ a) : ∀ k, stk z fs k a = []
  | 0 => rfl
  | k + 1 => by rw [stk, if_neg (by omega)]
theorem grown_blk5 {w w' : World} {r : Option Nat} {b : Nat} {cs : Array Value} {t : Nat} (hg : w.grownBy w' r) (hne : r ≠ some b) (h : Blk w b cs t) : Blk w' b cs t := (hg.block b h.lt (fun e => hne e.symm)).trans h
def StT (sb tb : Nat) (cs ts : Array Value) (w' : World) : Prop := Blk w' sb cs 80 ∧ Blk w' tb ts 77
set_option maxHeartbeats 8000000 in
theorem ltokens_any {w : World} {sb gs gc : Nat} {A : Option Addr} {n m K : Nat} {z : List Int} {fs fc : Nat → Int} (h : IsS w sb gs gc A n m K fs fc) (hz : Bs w A n z) (hm : n ≤ m) (hK : K = n + 1) (hn : n ≤ 60)
    (hgo : ∀ a, a < n → 1 ≤ fs (a * 3 + 2) ∧ (a : Int) + fs (a * 3 + 2) ≤ n) :
    Calls Try.prog 52 #[.pointer (some ⟨sb, 0, none⟩)] w fun e w' => ∃ v, e = .returned v ∧ TkOwn w' w.heap.size v (stk z fs n 0) ∧ (stk z fs n 0).length ≤ n ∧ Below w.heap.size w w' := by
  have hzl := hz.1
  have HZ := Lib.hid hz
  have HK := Lib.hid hK
  have HS := Lib.hid h
  have HGO := Lib.hid hgo
  obtain ⟨R, hR⟩ : ∃ R, R = stk z fs n 0 := ⟨_, rfl⟩
  rw [← hR]
  have HR := Lib.hid hR
  have hsb : sb < w.heap.size := Blk.lt h.1
  clear hz hK h hgo hR
  go_enter Try.func52, Try.ntmps52
  go_wp2
  go_loopw [3, 4] (fun l i wr => ∃ (a : Nat) (T : List Tk) (k : Nat), i = .int .i64 (a : Int) ∧ a ≤ n ∧ TkOwn wr w.heap.size l T ∧ T.length ≤ a ∧ Below w.heap.size w wr ∧ n - a ≤ k ∧ Hid (T ++ stk z fs k a = R)) (fun _ i _ => n - (intOf i).toNat)
  case atStart => exact ⟨0, [], n, rfl, by omega, TkOwn.nil _ _, by simp, Below.refl _ _, by omega, Lib.hid HR.out.symm⟩
  case round =>
    obtain ⟨a, T, k, rfl, ha, hT, hTl, hbd, hk, HQ⟩ := hrel
    have hI := HS.out.below hbd
    obtain ⟨p0, p1, p2⟩ := hI.1.c3
    by_cases hlt : a < n
    · have hlt' : (a : Int) < (n : Int) := by omega
      obtain ⟨hg1, hg2⟩ := HGO.out a hlt
      have haK : a < K := by have := HK.out; omega
      have v0 := tb_cell hI.2.1 (i := a * 3) (by omega)
      have v1 := tb_cell hI.2.1 (i := a * 3 + 1) (by omega)
      have v2 := tb_cell hI.2.1 (i := a * 3 + 2) (by omega)
      obtain ⟨k, rfl⟩ : ∃ k', k = k' + 1 := ⟨k - 1, by omega⟩
      have hq := HQ.out
      rw [stk, if_pos (by rw [hzl]; exact hlt)] at hq
      unfold stt at hq
      obtain ⟨ln, hln⟩ := Int.eq_ofNat_of_zero_le (show 0 ≤ fs (a * 3 + 2) by omega)
      rw [hln] at hq hg1 hg2 v2
      rw [Int.toNat_natCast] at hq
      obtain ⟨off, hoff⟩ : ∃ off, off = fs (a * 3 + 1) := ⟨_, rfl⟩
      obtain ⟨sz, hsz⟩ : ∃ sz, sz = fs (a * 3) := ⟨_, rfl⟩
      rw [← hoff] at hq v1
      rw [← hsz] at v0
      obtain ⟨ix, hix⟩ : ∃ ix, ix = a + ln := ⟨_, rfl⟩
      rw [← hix] at hq
      have HQ2 := Lib.hid hq
      have ew : IntKind.i64.wrap ((a : Int) + (ln : Int)) = (ix : Int) := (IntWalk.i64_in _ (by omega)).trans (by omega)
      have hix2 : a < ix ∧ ix ≤ n ∧ ix - a = ln := by omega
      clear hix
      have hB := Blk.new wr #[.int .i64 sz, .int .i64 off, .int .i64 (ln : Int)] 77
      have hbA := below_one wr (.cells #[.int .i64 sz, .int .i64 off, .int .i64 (ln : Int)] 77)
      replace hT := hT.below hbA
      replace hbd := hbd.trans (hbA.mono hbd.size)
      clear hq hoff hsz hln hI HQ hbA
      obtain ⟨Av, cv, rfl⟩ := hT.slice
      go_upto_region 5 with (fail)
      generalize wr.alloc (.cells #[.int .i64 sz, .int .i64 off, .int .i64 (ln : Int)] 77) = W at *
      generalize wr.heap.size = tb at *
      clear p0 p1 p2 v0 v1 v2
      obtain ⟨t0, t1, t2⟩ := hB.c3
      have hs2 := hbd.size
      by_cases hof : 0 < off
      · have HQ3 := HQ2.out
        rw [if_pos hof] at HQ3
        have hbA := below_one W (.cells #[.slice none 0 0, .int .i64 off, .int .i64 (ln : Int)] 33)
        have hTA := hT.below hbA
        have hBA := hbd.trans (hbA.mono hs2)
        have hrwA := rw_new W [.slice none 0 0, .int .i64 off, .int .i64 (ln : Int)] 33
        have hB9 := hBA.size
        have HBt := Lib.hid (hB.below hbA)
        have HLEN : Hid (T.length + 1 ≤ 1000000) := Lib.hid (by omega)
        obtain ⟨vs, hown, hTV⟩ := hTA
        have HS2 := Lib.hid (fun v' w' k1 k2 => TkOwn.snoc (w' := w') (v' := v') (t := ([], off, (ln : Int))) hown hTV (Own.nil _ _) k1 k2)
        have HGE := Lib.hid (own_ge hown)
        have HNE := Lib.hid (own_ne_blk hown (hB.below hbA) (by decide))
        have HBA := Lib.hid hBA
        have HQ := Lib.hid HQ3
        clear hbA hBA hbd hTV hT HQ2 HQ3 hB
        go_wp2_with (at_builtin; go_must (refine list_append_rw kindK rfl (.tmp 23) (.tmp 29) rfl w.heap.size _ _ _ rfl hown _ 1 _ [.slice none 0 0, .int .i64 off, .int .i64 (ln : Int)] rfl rfl hrwA (by simp) (by simp [Value.oneCell']) HLEN.out (by omega) hB9 ?_; intro v' w10 ho' hg' hgr; have hN := Lib.hid (HS2.out _ _ ho' hg'); have hBN := Lib.hid (HBA.out.grown hg' hB9 HGE.out); have hBt := grown_blk5 hg' HNE.out HBt.out; obtain ⟨t0, t1, t2⟩ := hBt.c3; clear ho' hg' hgr hown HS2 hrwA hBt))
        go_roundw
        case rel => exact ⟨ix, T ++ [([], off, (ln : Int))], k, rfl, by omega, hN.out, by rw [List.length_append, List.length_singleton]; omega, hBN.out, by omega, Lib.hid (by rw [List.append_assoc]; exact HQ.out)⟩
        case measure => simp [intOf]; omega
      · have HQ3 := HQ2.out
        rw [if_neg hof] at HQ3
        have hI := HS.out.below hbd
        obtain ⟨A', M, hsl, hbs, hML, _⟩ := slice_lh (HZ.out.below hbd) m (a : Int) (ix : Int) (by omega) (by omega) (by omega) hm
        rw [show ((ix : Int) - (a : Int)).toNat = ln by omega, Int.toNat_natCast, Int.toNat_natCast] at hbs
        rw [show ((ix : Int) - (a : Int)).toNat = ln by omega] at hsl hML
        obtain ⟨y, hy⟩ : ∃ y, y = piece z a ix := ⟨_, rfl⟩
        rw [← hy] at hbs HQ3
        have hRun := prun_any (w := W.drew) (m := M) (hT.below (below_one' W)) (hbs.below (below_one' W)) (by omega) (by omega) hs2
        unfold PRunPost at hRun
        have hS : StT sb tb #[.slice A n m, .slice (some ⟨gs, 0, none⟩) K K, .slice (some ⟨gc, 0, none⟩) K K] #[.int .i64 sz, .int .i64 off, .int .i64 (ln : Int)] W.drew := ⟨hI.1, hB⟩
        have L : ∀ w' : World, StT sb tb #[.slice A n m, .slice (some ⟨gs, 0, none⟩) K K, .slice (some ⟨gc, 0, none⟩) K K] #[.int .i64 sz, .int .i64 off, .int .i64 (ln : Int)] w' → w'.cell? ⟨sb, 0, none⟩ = some (.slice A n m) ∧ w'.cell? ⟨tb, 2, none⟩ = some (.int .i64 (ln : Int)) := fun w' h => ⟨h.1.c3.1, h.2.c3.2.2⟩
        have hge := hT.ge
        have hnb : (Value.slice Av T.length cv).ownBlock ≠ some tb := by
          obtain ⟨vs, h1, _⟩ := hT
          exact own_ne_blk h1 hB (by decide)
        have HNB := Lib.hid hnb
        have HGE := Lib.hid hge
        have HBD := Lib.hid hbd
        have HQ := Lib.hid HQ3
        have hr1 := rn1_len y
        clear hI hbs hT hB hbd HQ2 HQ3 hge hnb hy
        go_upto_region 7 with (fail)
        clear t0 t1 t2
        refine Seq.wp_region_seq (StT sb tb #[.slice A n m, .slice (some ⟨gs, 0, none⟩) K K, .slice (some ⟨gc, 0, none⟩) K K] #[.int .i64 sz, .int .i64 off, .int .i64 (ln : Int)]) (by kernel_rfl) (by kernel_rfl) hS ?_
        repeat (first | (refine Seq.Seq.skip (by rfl) ?_; (try simp only [Act.put, List.setIfInBounds_toArray, List.set_cons_zero, List.set_cons_succ])) | (refine Seq.Seq.det ?_ (by rfl) (fun w hS => ?_) ?_; rotate_left; ((try dsimp only at hS); go_simp; (try rw [if_pos (by omega)]); with_reducible rfl); (try simp only [Act.put, List.setIfInBounds_toArray, List.set_cons_zero, List.set_cons_succ])))
        refine Seq.Seq.make (by rfl) (by rfl) (fun K Q' hK => ?_)
        go_simp
        go_at_call 34
        refine hRun.mono ?_
        rintro e w1 ⟨v', rfl, ho1, hk1, _⟩
        have hS1 : StT sb tb _ _ w1 := ⟨Blk.ks hS.1 hk1 (fun e => by have := HGE.out _ e; omega), Blk.ks hS.2 hk1 (fun e => HNB.out e)⟩
        have HBD1 := Lib.hid (Ks.below HBD.out.drew (Nat.le_refl _) hk1 (fun k e => HGE.out k e))
        obtain ⟨T2, hT2⟩ : ∃ T2, T2 = T ++ rn1 y := ⟨_, rfl⟩
        have hTl2 : T2.length ≤ ix := by rw [hT2, List.length_append]; omega
        rw [← hT2] at ho1
        have HQ1 : Hid (T2 ++ stk z fs k ix = R) := Lib.hid (by rw [hT2, List.append_assoc]; exact HQ.out)
        obtain ⟨Av', cv', rfl⟩ := ho1.slice
        have HO1 := Lib.hid ho1
        clear hRun hk1 ho1 hT2 HQ
        refine hK.out _ _ (hS1) ?_
        clear hK K
        try simp only [Act.put, List.setIfInBounds_toArray, List.set_cons_zero, List.set_cons_succ]
        repeat (first | (refine Seq.Seq.skip (by rfl) ?_; (try simp only [Act.put, List.setIfInBounds_toArray, List.set_cons_zero, List.set_cons_succ])) | (refine Seq.Seq.det ?_ (by rfl) (fun w hS => ?_) ?_; rotate_left; ((try dsimp only at hS); go_simp; (try rw [if_pos (by omega)]); with_reducible rfl); (try simp only [Act.put, List.setIfInBounds_toArray, List.set_cons_zero, List.set_cons_succ])))
        refine Seq.Seq.nil ?_
        obtain ⟨t0, t1, t2⟩ := hS1.2.c3
        clear hS hS1 L hsl
        go_wp2
        go_roundw
        case rel => exact ⟨ix, T2, k, rfl, by omega, HO1.out, hTl2, HBD1.out, by omega, HQ1.out⟩
        case measure => simp [intOf]; omega
    · obtain rfl : a = n := by omega
      have hq := HQ.out
      rw [stk_end (by omega), List.append_nil] at hq
      subst hq
      obtain ⟨Av, cv, rfl⟩ := hT.slice
      have HT := Lib.hid hT
      have HBD := Lib.hid hbd
      clear hT hbd hI HR
      go_wp2
      go_ret
      exact ⟨_, rfl, HT.out, hTl, HBD.out⟩
end Go.Proofs.Ytmflnnfgkcmlhaa.Cur
