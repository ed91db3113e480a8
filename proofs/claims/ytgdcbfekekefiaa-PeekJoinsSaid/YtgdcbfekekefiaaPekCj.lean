/- As the seat's text, without what nothing here names. -/
import Derived.Test.YtgdcbfekekefiaaPekAj
import Derived.Test.YtgdcbfekekefiaaPekBj
import Derived.Test.YtgdcbfekekefiaaBtcBj
import Derived.Test.YtgdcbfekekefiaaBtcJj
namespace Go.Proofs.Ytgdcbfekekefiaa.Cur
open Go.RowKit Mem
set_option linter.unusedVariables false
set_option maxRecDepth 100000
def cut26 (e b : Int) (L : List En) (f t : Int) : Bool := btk (e, b, L) && decide (b ≤ f ∧ f < t ∧ t ≤ b + L.length)
theorem cut26_no {e b : Int} {L : List En} {f t : Int} (h : btk (e, b, L) = false) : cut26 e b L f t = false := by unfold cut26; rw [h]; rfl
theorem cut26_out {e b : Int} {L : List En} {f t : Int} (h : ¬ (b ≤ f ∧ f < t ∧ t ≤ b + L.length)) : cut26 e b L f t = false := by unfold cut26; rw [decide_eq_false h, Bool.and_false]
theorem esm_part {L : List En} (h : esm L) (l k : Nat) : esm ((L.drop l).take k) := fun i => by
  by_cases hi : i < k
  · have : ((L.drop l).take k).getD i en0 = L.getD (l + i) en0 := by
      rw [List.getD_eq_getElem?_getD, List.getD_eq_getElem?_getD, List.getElem?_take_of_lt hi, List.getElem?_drop]
    rw [this]
    exact h (l + i)
  · rw [List.getD_eq_getElem?_getD, List.getElem?_eq_none (by rw [List.length_take]; omega)]
    exact ⟨by simp [en0], fun s hs => by simp [en0] at hs, by simp [en0]⟩
theorem btk_fitx {B : Bt} (h : btk B = true) : fitn B.2.1 B.2.2.length = true := by
  unfold btk at h
  simp only [Bool.and_eq_true] at h
  exact h.1.1.2
def PCutPost (e b : Int) (L : List En) (f t : Int) (w : World) (en : Ending) (w' : World) : Prop :=
  Below w.heap.size w w' ∧ ((cut26 e b L f t = false ∧ en = .returned (.tuple #[btagg 0 0 none 0 0, .bool false])) ∨
    (cut26 e b L f t = true ∧ ∃ A m, en = .returned (.tuple #[btagg e f A (t - f).toNat m, .bool true]) ∧ Ens w' (fun k => w.heap.size ≤ k) A (t - f).toNat ((L.drop (f - b).toNat).take (t - f).toNat) ∧ (t - f).toNat ≤ m ∧ (A = none → m = 0)))
set_option maxHeartbeats 4000000 in
theorem peekcut_any (P : Nat → Prop) (e b : Int) (A : Option Addr) (n m : Nat) (L : List En) (f t : Int) (w : World) (hz : Ens w P A n L) (hn : n ≤ 1000) (hs : esm L) (b0 : 0 ≤ b) (b9 : b < 18446744073709551616) (f0 : 0 ≤ f) (f9 : f < 18446744073709551616) (t0 : 0 ≤ t) (t9 : t < 18446744073709551616) (hnm : n ≤ m) (hA : A = none → m = 0) :
    Calls Try.prog 24 #[btagg e b A n m, .int .u64 f, .int .u64 t] w (PCutPost e b L f t w) := by
  have hX := (Blk.new w (btenc e b A n m) 25).alloc (.cells (btenc 0 0 none 0 0) 25)
  have hY := Blk.new (w.alloc (.cells (btenc e b A n m) 25)) (btenc 0 0 none 0 0) 25
  rw [World.size_alloc] at hY
  have hb := below_two w (.cells (btenc e b A n m) 25) (.cells (btenc 0 0 none 0 0) 25)
  have hR := bright_any P e b A n m L ((w.alloc (.cells (btenc e b A n m) 25)).alloc (.cells (btenc 0 0 none 0 0) 25)) (hz.below hb) (by omega) hs b0 b9
  unfold BPost at hR
  have HZ := Lib.hid (hz.below hb)
  have HSM := Lib.hid hs
  have HLN := Lib.hid hz.1
  have hsz : ((w.alloc (.cells (btenc e b A n m) 25)).alloc (.cells (btenc 0 0 none 0 0) 25)).heap.size = w.heap.size + 2 := by simp
  clear hz hs
  obtain ⟨x0, x1, x2⟩ := hX.c3
  go_enter Try.func24, Try.ntmps24
  go_wp2_with fail
  generalize (w.alloc (.cells (btenc e b A n m) 25)).alloc (.cells (btenc 0 0 none 0 0) 25) = w0 at *
  refine hR.mono ?_
  rintro en w1 ⟨rfl, hb1⟩
  have hs1 := hb1.size
  have hX1 := hX.below hb1
  have hY1 := hY.below hb1
  have hz1 := HZ.out.below hb1
  have hbd := hb.trans (hb1.mono hb.size)
  clear x0 x1 x2 hR hX hY hb hb1
  obtain ⟨x0, x1, x2⟩ := hX1.c3
  cases hok : btk (e, b, L)
  · have HP : Hid (cut26 e b L f t = false) := Lib.hid (cut26_no hok)
    have HBD := Lib.hid hbd
    clear hok hbd hX1 hz1
    obtain ⟨y0, y1, y2⟩ := hY1.c3
    obtain ⟨k0, k1, k2⟩ := blk_f3 hY1
    have HYY := Lib.hid hY1
    go_wp2
    obtain ⟨hY9, hk9⟩ := set3 HYY.out (.int .u64 0) (.int .u64 0) (.slice none 0 0)
    obtain ⟨d0, d1, d2⟩ := hY9.c3
    have hfin := Kp.below HBD.out (Nat.le_refl _) hk9 (by omega)
    exact bodyPost_ret (v := .tuple #[btagg 0 0 none 0 0, .bool false]) (by simp [results, Try.results24, go_sem, d0, d1, d2]) rfl ⟨hfin, .inl ⟨HP.out, rfl⟩⟩
  by_cases h1 : f < b
  · have HP : Hid (cut26 e b L f t = false) := Lib.hid (cut26_out (fun h => by omega))
    have HBD := Lib.hid hbd
    clear hok hbd hX1 hz1
    obtain ⟨y0, y1, y2⟩ := hY1.c3
    obtain ⟨k0, k1, k2⟩ := blk_f3 hY1
    have HYY := Lib.hid hY1
    go_wp2
    obtain ⟨hY9, hk9⟩ := set3 HYY.out (.int .u64 0) (.int .u64 0) (.slice none 0 0)
    obtain ⟨d0, d1, d2⟩ := hY9.c3
    have hfin := Kp.below HBD.out (Nat.le_refl _) hk9 (by omega)
    exact bodyPost_ret (v := .tuple #[btagg 0 0 none 0 0, .bool false]) (by simp [results, Try.results24, go_sem, d0, d1, d2]) rfl ⟨hfin, .inl ⟨HP.out, rfl⟩⟩
  by_cases h2 : t ≤ f
  · have HP : Hid (cut26 e b L f t = false) := Lib.hid (cut26_out (fun h => by omega))
    have HBD := Lib.hid hbd
    clear hok hbd hX1 hz1
    obtain ⟨y0, y1, y2⟩ := hY1.c3
    obtain ⟨k0, k1, k2⟩ := blk_f3 hY1
    have HYY := Lib.hid hY1
    go_wp2
    obtain ⟨hY9, hk9⟩ := set3 HYY.out (.int .u64 0) (.int .u64 0) (.slice none 0 0)
    obtain ⟨d0, d1, d2⟩ := hY9.c3
    have hfin := Kp.below HBD.out (Nat.le_refl _) hk9 (by omega)
    exact bodyPost_ret (v := .tuple #[btagg 0 0 none 0 0, .bool false]) (by simp [results, Try.results24, go_sem, d0, d1, d2]) rfl ⟨hfin, .inl ⟨HP.out, rfl⟩⟩
  have hfit := fitn_bd (btk_fitx hok)
  have hln := HLN.out
  dsimp only at hfit
  have hE := bend_any e b A n m w1 (by omega)
  unfold BPost at hE
  rw [IntWalk.u64_in (b + n) (by omega)] at hE
  go_wp2_with fail
  refine hE.mono ?_
  rintro en w2 ⟨rfl, hb2⟩
  have hs2 := hb2.size
  have hX2 := hX1.below hb2
  have hY2 := hY1.below hb2
  have hz2 := hz1.below hb2
  replace hbd := hbd.trans (hb2.mono hbd.size)
  clear x0 x1 x2 hE hX1 hY1 hz1 hb2
  obtain ⟨x0, x1, x2⟩ := hX2.c3
  by_cases h3 : b + n < t
  · have HP : Hid (cut26 e b L f t = false) := Lib.hid (cut26_out (fun h => by omega))
    have HBD := Lib.hid hbd
    clear hok hbd hX2 hz2
    obtain ⟨y0, y1, y2⟩ := hY2.c3
    obtain ⟨k0, k1, k2⟩ := blk_f3 hY2
    have HYY := Lib.hid hY2
    go_wp2
    obtain ⟨hY9, hk9⟩ := set3 HYY.out (.int .u64 0) (.int .u64 0) (.slice none 0 0)
    obtain ⟨d0, d1, d2⟩ := hY9.c3
    have hfin := Kp.below HBD.out (Nat.le_refl _) hk9 (by omega)
    exact bodyPost_ret (v := .tuple #[btagg 0 0 none 0 0, .bool false]) (by simp [results, Try.results24, go_sem, d0, d1, d2]) rfl ⟨hfin, .inl ⟨HP.out, rfl⟩⟩
  have HP : Hid (cut26 e b L f t = true) := Lib.hid (by unfold cut26; rw [hok, decide_eq_true ⟨by omega, by omega, by omega⟩]; rfl)
  obtain ⟨A', M, hsl, hz3, hM, hAM⟩ := slice_ens hz2 m (f - b).toNat (t - b).toNat (by omega) (by omega) hnm hA
  have ek : (t - b).toNat - (f - b).toNat = (t - f).toNat := by omega
  rw [show (((f - b).toNat : Nat) : Int) = f - b by omega, show (((t - b).toNat : Nat) : Int) = t - b by omega, ek] at hsl
  rw [ek] at hz3 hM
  have hC := bcopy_any P e f A' (t - f).toNat M _ w2 hz3 (by omega) (fun k => by have := esm_part HSM.out (f - b).toNat (t - f).toNat k; exact ⟨by omega, fun s hs => by have := this.2.1 s hs; omega, by omega⟩)
  unfold CbtPost at hC
  have w1' : IntKind.u64.wrap (f - b) = f - b := IntWalk.u64_in _ (by omega)
  have w2' : IntKind.u64.wrap (t - b) = t - b := IntWalk.u64_in _ (by omega)
  have HZ3 := Lib.hid hz3
  clear hok hX2 hz2 hz3 hM hAM ek
  go_wp2_with fail
  refine hC.mono ?_
  rintro en w3 ⟨g, cur, lo, hi, rfl, hb3, hcp⟩
  have hE3 := hcp.ens HZ3.out.1 (fun x hx => ((HZ3.out.bds x hx).2))
  have hY3 := hY2.below hb3
  have HBD := Lib.hid (hbd.trans (hb3.mono hbd.size))
  have HE3 := Lib.hid hE3
  obtain ⟨y0, y1, y2⟩ := hY3.c3
  obtain ⟨k0, k1, k2⟩ := blk_f3 hY3
  clear hC hcp hb3 hbd hY2 x0 x1 x2 hE3
  go_wp2
  obtain ⟨hY9, hk9⟩ := set3 hY3 (.int .u64 e) (.int .u64 f) (.slice (some ⟨g, 0, none⟩) (t - f).toNat (t - f).toNat)
  obtain ⟨d0, d1, d2⟩ := hY9.c3
  have hfin := Kp.below HBD.out (Nat.le_refl _) hk9 (by omega)
  have hE9 := HE3.out.keep (w' := _) fun q h1 h2 => hk9.block q h2 (by have h3 : w2.heap.size ≤ q := h1; omega)
  exact bodyPost_ret (v := .tuple #[btagg e f (some ⟨g, 0, none⟩) (t - f).toNat (t - f).toNat, .bool true]) (by simp [results, Try.results24, go_sem, d0, d1, d2]) rfl ⟨hfin, .inr ⟨HP.out, _, _, rfl, hE9.mono fun q h1 _ => (by have h3 : w2.heap.size ≤ q := h1; show w.heap.size ≤ q; omega), Nat.le_refl _, fun h => nomatch h⟩⟩
end Go.Proofs.Ytgdcbfekekefiaa.Cur
