/- Get, by the document. -/
import Derived.Test.YtppccdogfcmfjaaTokI
namespace Go.Proofs.Ytppccdogfcmfjaa.Cur
open Go.RowKit Mem
set_option linter.unusedVariables false

def LR (n m : Nat) (a : Option Addr) (z : List Int) (w : World) (gk : Nat) (v : Value) (wr : World) : Prop :=
  ∃ (k : Nat) (pk : Int) (acc : List Tk), TkOwn wr (w.heap.size + 2) v acc ∧ Blk wr (w.heap.size + 1) (cvs (.slice a n m) pk 0 0) 49 ∧ Blk wr w.heap.size #[.int .i64 0, .int .i64 0] 42 ∧ Below w.heap.size w wr ∧ 0 ≤ pk ∧ pk ≤ n ∧
    gk = (n - pk).toNat + 1 ∧ (acc.length : Int) ≤ pk ∧ Hid ((n : Int) - pk < k ∧ tg z = tgo z k pk acc)

set_option maxRecDepth 100000 in
set_option maxHeartbeats 2000000 in
theorem rtget_any (a : Option Addr) (n m : Nat) (z : List Int) (w : World) (hz : Bs w a n z) (ha : a = none → m = 0) (hm : n ≤ m) (hn : n ≤ 100000) (hby : ∀ x ∈ z, 0 ≤ x ∧ x < 256) :
    Calls Try.prog 23 #[.slice a n m] w (TGPost z w) := by
  have HBY := Lib.hid hby
  have HA := Lib.hid ha
  clear hby ha
  have hzl := hz.1
  have hF := (Blk.new w #[.int .i64 0, .int .i64 0] 42).alloc (.cells (cvs (.slice a n m) 0 0 0) 49)
  have hC := Blk.new (w.alloc (.cells #[.int .i64 0, .int .i64 0] 42)) (cvs (.slice a n m) 0 0 0) 49
  rw [show (w.alloc (.cells #[.int .i64 0, .int .i64 0] 42)).heap.size = w.heap.size + 1 by simp] at hC
  have hbd := below_two w (.cells #[.int .i64 0, .int .i64 0] 42) (.cells (cvs (.slice a n m) 0 0 0) 49)
  go_enter Try.func23, Try.ntmps23
  go_wp2
  go_loopg [5] ((n : Nat) + 1) (fun gk v wr => LR n m a z w gk v wr)
  case atStart => exact ⟨z.length + 1, 0, [], TkOwn.nil _ _, hC, hF, hbd, by omega, by omega, by simp, by simp, Lib.hid ⟨by omega, rfl⟩⟩
  case round =>
    clear hC hF hbd
    obtain ⟨k, pk, acc, ho, hC, hF, hbd, k0, k1, hg, hl, H⟩ := hrel
    obtain ⟨Aw, cw, rfl⟩ := ho.slice
    obtain ⟨c0, c1, c2, c3⟩ := hC.c4
    by_cases hkn : pk = n
    · have hng : ¬ pk < (n : Int) := by omega
      have HE := Lib.hid (tgv_end H.out.2 (by omega))
      obtain ⟨f0, f1⟩ := hF.c2
      obtain ⟨g0, g1⟩ := hF.f2
      clear hkn
      go_wp2
      refine bodyPost_ret (v := .tuple #[.slice Aw acc.length cw, .agg #[.int .i64 0, .int .i64 0]]) (by simp [results, Try.results23, go_sem, f0, f1]) rfl ⟨_, acc, 0, 0, rfl, ?_, ?_, HE.out⟩
      · have h1 := ho.kp_blk hF (by decide) (.inl (by decide)) (Kp.setCell _ _ 0 (.int .i64 0))
        have hF3 := hF.set 0 (.int .i64 0)
        have h2 := h1.kp_blk hF3 (by decide) (.inl (by decide)) (Kp.setCell _ _ 1 (.int .i64 0))
        exact h2.base fun g hg => by have := h2.ge g hg; omega
      · exact (hbd.setCell (Nat.le_refl _) _).setCell (Nat.le_refl _) _
    · have hgt : pk < (n : Int) := by omega
      have hlt : pk < z.length := by omega
      have HLT := Lib.hid hlt
      obtain ⟨k, rfl⟩ : ∃ k', k = k' + 1 := ⟨k - 1, by have := H.out.1; omega⟩
      clear hkn hlt
      go_wp2_with fail
      refine (rtread_any _ _ _ _ _ _ _ _ (hz.below hbd) HA.out k0 k1 hm (by omega) HBY.out).mono ?_
      rintro e w3 ⟨u, t, p', c', q', rfl, ho3, hb3, hs3⟩
      obtain ⟨p0', p1'⟩ := hs3.place
      have HS := Lib.hid hs3
      replace ho := ho.below hb3
      replace hF := hF.below hb3
      replace hC := hC.below hb3
      have hbd3 := hbd.trans (hb3.mono hbd.size)
      clear hs3 hb3 hbd c0 c1 c2 c3
      obtain ⟨Au, mu, rfl⟩ := ho3.slice
      have hlt3 := hC.lt
      go_upto_region 5 with (fail)
      have hb4 := below_two w3 (.cells (cvs (.slice a n m) p' c' q') 49) (.cells #[.slice Au t.1.length mu, .int .i64 t.2.1, .int .i64 t.2.2] 28)
      have hD := (Blk.new w3 (cvs (.slice a n m) p' c' q') 49).alloc (.cells #[.slice Au t.1.length mu, .int .i64 t.2.1, .int .i64 t.2.2] 28)
      have hX := Blk.new (w3.alloc (.cells (cvs (.slice a n m) p' c' q') 49)) #[.slice Au t.1.length mu, .int .i64 t.2.1, .int .i64 t.2.2] 28
      rw [show (w3.alloc (.cells (cvs (.slice a n m) p' c' q') 49)).heap.size = w3.heap.size + 1 by simp] at hX
      replace ho := ho.below hb4
      replace ho3 := ho3.below hb4
      replace hF := hF.below hb4
      replace hC := hC.below hb4
      replace hbd3 := hbd3.trans (hb4.mono hbd3.size)
      generalize (w3.alloc (.cells (cvs (.slice a n m) p' c' q') 49)).alloc (.cells #[.slice Au t.1.length mu, .int .i64 t.2.1, .int .i64 t.2.2] 28) = w4 at *
      clear hb4
      generalize w3.heap.size = X at *
      obtain ⟨c0, c1, c2, c3⟩ := hC.c4
      obtain ⟨f0, f1, f2, f3⟩ := hC.f4
      obtain ⟨d0, d1, d2, d3⟩ := hD.c4
      go_upto_region 6 with (fail)
      obtain ⟨hC5, hk5⟩ := set4 hC (.slice a n m) (.int .i64 p') (.int .i64 c') (.int .i64 q')
      replace ho := ho.kp_blk hC (by decide) (.inl (by decide)) hk5
      replace ho3 : Own _ _ _ t.1 := own_kp ho3 hk5 (ho3.ne_blk hC (by decide))
      replace hF := blk_kp hF hk5 (by omega)
      replace hX := blk_kp hX hk5 (by omega)
      replace hbd3 := Kp.below hbd3 (Nat.le_refl _) hk5 (by omega)
      clear hD hC hk5 d0 d1 d2 d3 c0 c1 c2 c3 f0 f1 f2 f3
      generalize (((w4.setCell ⟨w.heap.size + 1, 0, none⟩ (.slice a n m)).setCell ⟨w.heap.size + 1, 1, none⟩ (.int .i64 p')).setCell ⟨w.heap.size + 1, 2, none⟩ (.int .i64 c')).setCell ⟨w.heap.size + 1, 3, none⟩ (.int .i64 q') = w5 at *
      obtain ⟨c0, c1, c2, c3⟩ := hC5.c4
      by_cases hc : c' = 0
      · subst hc
        obtain ⟨rfl, hmv, HN⟩ := tg_more HBY.out k0 H.out.2 HLT.out HS.out
        replace HN := Lib.hid HN
        obtain ⟨x0, x1, x2⟩ := hX.c3
        have hbA := below_one w5 (.cells #[.slice Au t.1.length mu, .int .i64 t.2.1, .int .i64 t.2.2] 28)
        replace ho := ho.below hbA
        replace ho3 := ho3.below hbA
        have hFA := hF.below hbA
        have hrA := hC5.below hbA
        have hbdA := hbd3.trans (hbA.mono hbd3.size)
        have hrwA := rw_new w5 [.slice Au t.1.length mu, .int .i64 t.2.1, .int .i64 t.2.2] 28
        have hB9 : w.heap.size + 2 ≤ (w5.alloc (.cells #[.slice Au t.1.length mu, .int .i64 t.2.1, .int .i64 t.2.2] 28)).heap.size := by have := hC5.lt; simp; omega
        have HLEN : Hid (acc.length + 1 ≤ 1000000) := Lib.hid (by omega)
        have hu0 : Own _ 0 _ t.1 := ho3.base (B' := 0) (fun g hg => Nat.zero_le g)
        obtain ⟨vs, hown, hTV⟩ := ho
        have hgeA := own_ge hown
        have HS2 := Lib.hid (fun v' w' k1 k2 => TkOwn.snoc (w' := w') (v' := v') hown hTV hu0 k1 k2)
        clear hF hbd3 hbA ho3 hu0 HS hC5
        go_wp2_with (at_builtin; go_must (refine list_append_rw kindK rfl (.tmp 32) (.tmp 34) rfl (w.heap.size + 2) _ _ _ rfl hown _ 1 _ [.slice Au t.1.length mu, .int .i64 t.2.1, .int .i64 t.2.2] rfl rfl hrwA (by simp) (by simp [Value.oneCell']) HLEN.out (by omega) hB9 ?_; intro v' w10 ho' hg' hgr; have hr10 := hrA.ks (Ks.of_grown (S := fun k => w.heap.size + 2 ≤ k) hg' hgeA) (by omega); have hF10 := hFA.ks (Ks.of_grown (S := fun k => w.heap.size + 2 ≤ k) hg' hgeA) (by omega); have hbd10 := hbdA.grown hg' (by have := hB9; omega) (fun k hk => by have := hgeA k hk; omega); have hoN := Lib.hid (HS2.out _ _ ho' hg'); clear ho' hg' hgr hown hrA hFA hbdA hgeA hTV HS2 hrwA))
        go_roundg ((n - p').toNat + 1)
        case measure => omega
        case rel => exact ⟨k, p', acc ++ [t], hoN.out, hr10, hF10, hbd10, p0', p1', rfl, by rw [List.length_append]; simp; omega, Lib.hid ⟨by have := H.out.1; omega, HN.out⟩⟩
      · have hcb : (c' != 0) = true := by simpa using hc
        have hfq : fq c' q' = q' := by unfold fq; rw [if_neg hc]
        have HE := Lib.hid (tgv_bad H.out.2 HLT.out HS.out hc)
        clear hc HS
        go_wp2_with fail
        refine (rat_any _ _ _).mono ?_
        rintro e w6 ⟨rfl, hb6⟩
        rw [hfq]
        replace hF := hF.below hb6
        replace hbd3 := hbd3.trans (hb6.mono hbd3.size)
        clear hb6
        obtain ⟨f0, f1⟩ := hF.c2
        obtain ⟨g0, g1⟩ := hF.f2
        go_wp2
        refine bodyPost_ret (v := .tuple #[.slice none 0 0, .agg #[.int .i64 c', .int .i64 q']]) (by simp [results, Try.results23, go_sem, f0, f1]) rfl ⟨_, [], c', q', rfl, TkOwn.nil _ _, ?_, HE.out⟩
        exact (hbd3.setCell (Nat.le_refl _) _).setCell (Nat.le_refl _) _
end Go.Proofs.Ytppccdogfcmfjaa.Cur
