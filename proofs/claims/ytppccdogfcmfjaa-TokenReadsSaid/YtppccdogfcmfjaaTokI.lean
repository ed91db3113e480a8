/- Get: the tokens of which bytes consist, by the program. -/
import Derived.Test.YtppccdogfcmfjaaTokH
namespace Go.Proofs.Ytppccdogfcmfjaa.Cur
open Go.RowKit Mem
set_option linter.unusedVariables false

theorem tgo_stop {z : List Int} {k : Nat} {p : Int} {acc : List Tk} (h : (z.length : Int) ≤ p) : tgo z k p acc = (acc, p, 0, 0) := by
  cases k with
  | zero => rfl
  | succ k => show (if (z.length : Int) ≤ p then _ else _) = _; rw [if_pos h]
theorem tgv_end {z : List Int} {k : Nat} {p : Int} {acc : List Tk} (e : tg z = tgo z k p acc) (h : (z.length : Int) ≤ p) : (acc, (0 : Int), (0 : Int)) = tgv z := by
  unfold tgv; rw [e, tgo_stop h]; rfl
theorem tgo_step {z : List Int} {k : Nat} {p : Int} {acc : List Tk} (h : p < z.length) : tgo z (k + 1) p acc = (tr z p).bind [] fun t p1 => tgo z k p1 (acc ++ [t]) := by
  show (if (z.length : Int) ≤ p then _ else _) = _; rw [if_neg (by omega)]
theorem tgv_bad {z : List Int} {k n : Nat} {p : Int} {acc : List Tk} {t : Tk} {p' c' q' : Int} (e : tg z = tgo z (k + 1) p acc) (h : p < z.length) (hs : St tk0 n (tr z p) p 0 0 t p' c' q') (hc : c' ≠ 0) : (([] : List Tk), c', q') = tgv z := by
  obtain ⟨_, _, ⟨h0, _⟩ | ⟨_, _, _, _, h0, _⟩ | ⟨_, h1, _, h2, h3⟩⟩ := hs
  · exact absurd rfl h0
  · exact absurd h0 hc
  · unfold tgv
    rw [e, tgo_step h]
    unfold Rs.bind
    rw [if_pos h1, h2, h3]
    show _ = if (tr z p).2.2.1 = 0 then _ else _
    rw [if_neg h1]
theorem tg_more {z : List Int} {k n : Nat} {p : Int} {acc : List Tk} {t : Tk} {p' q' : Int} (hby : ∀ x ∈ z, 0 ≤ x ∧ x < 256) (h0 : 0 ≤ p) (e : tg z = tgo z (k + 1) p acc) (h : p < z.length) (hs : St tk0 n (tr z p) p 0 0 t p' 0 q') :
    q' = 0 ∧ p + 1 ≤ p' ∧ tg z = tgo z k p' (acc ++ [t]) := by
  obtain ⟨_, g0, gv, gp, gq⟩ := hs.good
  obtain ⟨k1, k2, k3, _⟩ := tr_once hby h0 (by omega) g0
  subst gv
  subst gp
  exact ⟨gq, k1, by rw [e, tgo_step h, Rs.bind_of k3]⟩

/-- What Get hands back. -/
def TGPost (z : List Int) (w : World) (e : Ending) (w' : World) : Prop :=
  ∃ v T c q, e = .returned (.tuple #[v, .agg #[.int .i64 c, .int .i64 q]]) ∧ TkOwn w' w.heap.size v T ∧ Below w.heap.size w w' ∧ (T, c, q) = tgv z

theorem tok_made (w1 : World) (v x y : Value) :
    ∃ w2, w1.alloc (.cells #[v, x, y] 28) = w2 ∧ Blk w2 w1.heap.size #[v, x, y] 28 ∧ Below w1.heap.size w1 w2 := ⟨_, rfl, Blk.new _ _ _, below_one _ _⟩

def LG (n : Nat) (a : Option Addr) (z : List Int) (w : World) (gk : Nat) (v : Value) (wr : World) : Prop :=
  ∃ (k : Nat) (pk : Int) (acc : List Tk), TkOwn wr (w.heap.size + 2) v acc ∧ IsRd wr (w.heap.size + 1) (.slice a n n) pk 0 0 ∧ Blk wr w.heap.size #[.int .i64 0, .int .i64 0] 42 ∧ Below w.heap.size w wr ∧ 0 ≤ pk ∧ pk ≤ n ∧
    gk = (n - pk).toNat + 1 ∧ (acc.length : Int) ≤ pk ∧ Hid ((n : Int) - pk < k ∧ tg z = tgo z k pk acc)

set_option maxRecDepth 100000 in
set_option maxHeartbeats 2000000 in
theorem tget_any (a : Option Addr) (n m : Nat) (z : List Int) (w : World) (hz : Bs w a n z) (hm : n ≤ m) (hn : n ≤ 100000) (hby : ∀ x ∈ z, 0 ≤ x ∧ x < 256) :
    Calls Try.prog 22 #[.slice a n m] w (TGPost z w) := by
  have HBY := Lib.hid hby
  clear hby
  have hzl := hz.1
  go_enter Try.func22, Try.ntmps22
  go_wp2_with fail
  refine (new_any _ _ _ _ hm).mono ?_
  rintro e w1 ⟨rfl, hb1, hsz, hr1⟩
  rw [show (w.alloc (.cells #[.int .i64 0, .int .i64 0] 42)).heap.size = w.heap.size + 1 by simp] at hr1
  have hF := (Blk.new w #[.int .i64 0, .int .i64 0] 42).below hb1
  have hbd := (below_one w (.cells #[.int .i64 0, .int .i64 0] 42)).trans (hb1.mono (by simp))
  clear hb1
  go_wp2
  go_loopg [4] ((n : Nat) + 1) (fun gk v wr => LG n a z w gk v wr)
  case atStart => exact ⟨z.length + 1, 0, [], TkOwn.nil _ _, hr1, hF, hbd, by omega, by omega, by simp, by simp, Lib.hid ⟨by omega, rfl⟩⟩
  case round =>
    obtain ⟨k, pk, acc, ho, hr, hF, hbd, k0, k1, hg, hl, H⟩ := hrel
    obtain ⟨Aw, cw, rfl⟩ := ho.slice
    go_wp2_with fail
    refine (left_any _ _ _ _ _ _ _ _ hr k0 k1 (by omega)).mono ?_
    rintro e w2 ⟨rfl, j, rfl⟩
    by_cases hkn : pk = n
    · have hng : ¬ 0 < (n : Int) - pk := by omega
      have hbE : Below w.heap.size w (wr.drewN j) := hbd.trans ((below_drewN (Below.refl _ _) j).mono hbd.size)
      have hoE := ho.below (below_drewN (Below.refl _ _) j)
      have HE := Lib.hid (tgv_end H.out.2 (by omega))
      have hF2 := hF.drewN j
      obtain ⟨f0, f1⟩ := hF2.c2
      obtain ⟨g0, g1⟩ := hF2.f2
      clear hkn
      go_wp2
      refine bodyPost_ret (v := .tuple #[.slice Aw acc.length cw, .agg #[.int .i64 0, .int .i64 0]]) (by simp [results, Try.results22, go_sem, f0, f1]) rfl ⟨_, acc, 0, 0, rfl, ?_, ?_, HE.out⟩
      · have h1 := hoE.kp_blk hF2 (by decide) (.inl (by decide)) (Kp.setCell _ _ 0 (.int .i64 0))
        have hF3 := hF2.set 0 (.int .i64 0)
        have h2 := h1.kp_blk hF3 (by decide) (.inl (by decide)) (Kp.setCell _ _ 1 (.int .i64 0))
        exact h2.base fun g hg => by have := h2.ge g hg; omega
      · exact (hbE.setCell (Nat.le_refl _) _).setCell (Nat.le_refl _) _
    · have hgt : 0 < (n : Int) - pk := by omega
      have hlt : pk < z.length := by omega
      have HLT := Lib.hid hlt
      obtain ⟨k, rfl⟩ : ∃ k', k = k' + 1 := ⟨k - 1, by have := H.out.1; omega⟩
      replace ho := ho.below (below_drewN (Below.refl _ _) j)
      replace hr := hr.drewN j
      replace hF := hF.drewN j
      replace hbd : Below w.heap.size w (wr.drewN j) := hbd.trans ((below_drewN (Below.refl _ _) j).mono hbd.size)
      generalize wr.drewN j = w2 at *
      clear hkn hlt
      go_wp2_with fail
      refine (tread_any _ _ _ _ _ _ _ _ _ hr (hz.below hbd) k0 k1 (Nat.le_refl _) (by omega) HBY.out).mono ?_
      rintro e w3 ⟨u, t, p', c', q', rfl, ho3, hk3, hr3, hs3⟩
      obtain ⟨p0', p1'⟩ := hs3.place
      have HS := Lib.hid hs3
      have hne : (Value.slice Aw acc.length cw).ownBlock ≠ some (w.heap.size + 1) := fun e => by have := ho.ge _ e; omega
      replace ho := ho.kp_blk hr (by decide) (.inr hne) hk3
      replace hF := blk_kp hF hk3 (by omega)
      have hbd3 := Kp.below hbd (Nat.le_refl _) hk3 (by omega)
      clear hs3 hk3 hr hbd
      obtain ⟨Au, mu, rfl⟩ := ho3.slice
      go_upto_region 5 with (fail)
      obtain ⟨w4, hw4, hX, hb4⟩ := tok_made w3 (.slice Au t.1.length mu) (.int .i64 t.2.1) (.int .i64 t.2.2)
      rw [hw4]
      have hlt3 : w.heap.size + 1 < w3.heap.size := hr3.lt
      replace ho := ho.below hb4
      replace ho3 := ho3.below hb4
      replace hF := hF.below hb4
      replace hr3 := hr3.below hb4
      replace hbd3 := hbd3.trans (hb4.mono hbd3.size)
      clear hw4 hb4
      generalize w3.heap.size = X at *
      by_cases hc : c' = 0
      · subst hc
        obtain ⟨rfl, hmv, HN⟩ := tg_more HBY.out k0 H.out.2 HLT.out HS.out
        replace HN := Lib.hid HN
        go_wp2_with fail
        refine (good_any _ _ _ _ _ _ hr3).mono ?_
        rintro e w5 ⟨rfl, hb5⟩
        rw [show ((0 : Int) == 0) = true from rfl]
        replace ho := ho.below hb5
        replace ho3 := ho3.below hb5
        replace hF := hF.below hb5
        replace hr3 := hr3.below hb5
        replace hX := hX.below hb5
        replace hbd3 := hbd3.trans (hb5.mono hbd3.size)
        clear hb5 HS
        obtain ⟨x0, x1, x2⟩ := hX.c3
        have hbA := below_one w5 (.cells #[.slice Au t.1.length mu, .int .i64 t.2.1, .int .i64 t.2.2] 28)
        replace ho := ho.below hbA
        replace ho3 := ho3.below hbA
        have hFA := hF.below hbA
        have hrA : Blk _ _ #[.slice a n n, .int .i64 p', .int .i64 0, .int .i64 0] 73 := hr3.below hbA
        have hbdA := hbd3.trans (hbA.mono hbd3.size)
        have hrwA := rw_new w5 [.slice Au t.1.length mu, .int .i64 t.2.1, .int .i64 t.2.2] 28
        have hB9 : w.heap.size + 2 ≤ (w5.alloc (.cells #[.slice Au t.1.length mu, .int .i64 t.2.1, .int .i64 t.2.2] 28)).heap.size := by have := hr3.lt; simp; omega
        have HLEN : Hid (acc.length + 1 ≤ 1000000) := Lib.hid (by omega)
        have hu0 : Own _ 0 _ t.1 := ho3.base (B' := 0) (fun g hg => Nat.zero_le g)
        obtain ⟨vs, hown, hTV⟩ := ho
        have hgeA := own_ge hown
        have HS2 := Lib.hid (fun v' w' k1 k2 => TkOwn.snoc (w' := w') (v' := v') hown hTV hu0 k1 k2)
        clear hF hr3 hbd3 hbA ho3 hu0
        go_wp2_with (at_builtin; go_must (refine list_append_rw kindK rfl (.tmp 19) (.tmp 21) rfl (w.heap.size + 2) _ _ _ rfl hown _ 1 _ [.slice Au t.1.length mu, .int .i64 t.2.1, .int .i64 t.2.2] rfl rfl hrwA (by simp) (by simp [Value.oneCell']) HLEN.out (by omega) hB9 ?_; intro v' w10 ho' hg' hgr; have hr10 := hrA.ks (Ks.of_grown (S := fun k => w.heap.size + 2 ≤ k) hg' hgeA) (by omega); have hF10 := hFA.ks (Ks.of_grown (S := fun k => w.heap.size + 2 ≤ k) hg' hgeA) (by omega); have hbd10 := hbdA.grown hg' (by have := hB9; omega) (fun k hk => by have := hgeA k hk; omega); have hoN := Lib.hid (HS2.out _ _ ho' hg'); clear ho' hg' hgr hown hrA hFA hbdA hgeA hTV HS2 hrwA))
        go_roundg ((n - p').toNat + 1)
        case measure => omega
        case rel => exact ⟨k, p', acc ++ [t], hoN.out, hr10, hF10, hbd10, p0', p1', rfl, by rw [List.length_append]; simp; omega, Lib.hid ⟨by have := H.out.1; omega, HN.out⟩⟩
      · have hcb : (c' == 0) = false := by simpa using hc
        have HE := Lib.hid (tgv_bad H.out.2 HLT.out HS.out hc)
        clear hc HS
        go_wp2_with fail
        refine (good_any _ _ _ _ _ _ hr3).mono ?_
        rintro e w5 ⟨rfl, hb5⟩
        rw [hcb]
        replace hF := hF.below hb5
        replace hr3 := hr3.below hb5
        replace hbd3 := hbd3.trans (hb5.mono hbd3.size)
        clear hb5
        go_wp2_with fail
        refine (fault_any _ _ _ _ _ _ hr3).mono ?_
        rintro e w6 ⟨rfl, hb6⟩
        replace hF := hF.below hb6
        replace hbd3 := hbd3.trans (hb6.mono hbd3.size)
        clear hb6
        obtain ⟨f0, f1⟩ := hF.c2
        obtain ⟨g0, g1⟩ := hF.f2
        go_wp2
        refine bodyPost_ret (v := .tuple #[.slice none 0 0, .agg #[.int .i64 c', .int .i64 q']]) (by simp [results, Try.results22, go_sem, f0, f1]) rfl ⟨_, [], c', q', rfl, TkOwn.nil _ _, ?_, HE.out⟩
        exact (hbd3.setCell (Nat.le_refl _) _).setCell (Nat.le_refl _) _
end Go.Proofs.Ytppccdogfcmfjaa.Cur
