/- As the seat's text, without what nothing here names. -/
import Derived.Test.YtoemmppoejaapaaPekNt
import Derived.Test.YtoemmppoejaapaaPekLt
import Derived.Test.YtoemmppoejaapaaBtcBt
import Derived.Carry
namespace Go.Proofs.Ytoemmppoejaapaa.Cur
open Go.RowKit Mem
set_option linter.unusedVariables false
set_option maxRecDepth 100000
theorem ens_hdr {w : World} {P : Nat → Prop} {g o n : Nat} {L : List En} (h : Ens w P (some ⟨g, o, none⟩) n L) (hn : 0 < n) : ∃ hd : Hdr, g < w.heap.size ∧ ∀ k, k < n → (∀ w', Below w.heap.size w w' → w'.cell? ⟨g, o + k * 2, none⟩ = some (.slice (hd k).1 (hd k).2.1 (hd k).2.2)) ∧ Lks w P (hd k).1 (hd k).2.1 (L.getD k en0).1 := by
  obtain ⟨g', o', e, _, hg, hc⟩ := h.cells (by omega)
  injection e with e
  injection e with e1 e2 _
  subst e1 e2
  obtain ⟨hd, hh⟩ := Classical.axiomOfChoice (r := fun (k : Nat) (t : Option Addr × Nat × Nat) => k < n → (∀ w', Below w.heap.size w w' → w'.cell? ⟨g, o + k * 2, none⟩ = some (.slice t.1 t.2.1 t.2.2)) ∧ Lks w P t.1 t.2.1 (L.getD k en0).1) (fun k => by
    by_cases hk : k < n
    · obtain ⟨K, D, a, l, m, b, r, j, q1, q2, q3, q4, q5, q6, q7, q8, q9, q10⟩ := hc k hk
      exact ⟨(a, l, m), fun _ => ⟨fun w' hb => (q10 w' hb).1, by rw [q1]; exact q4⟩⟩
    · exact ⟨(none, 0, 0), fun h => absurd h hk⟩)
  exact ⟨hd, hg, hh⟩
def chnb (e b : Int) (L : List En) : Bool := btk (e, b, L) && coe b (lksOf L) tl0 L.length
set_option maxHeartbeats 8000000 in
theorem chained_any (P : Nat → Prop) (e b : Int) (A : Option Addr) (n m : Nat) (L : List En) (w : World) (hz : Ens w P A n L) (hn : n ≤ 1000) (hs : esm L) (b0 : 0 ≤ b) (b9 : b < 18446744073709551616) :
    Calls Try.prog 20 #[btagg e b A n m] w (BPost (.bool (chnb e b L)) w) := by
  unfold BPost
  have hX := Blk.new w (btenc e b A n m) 25
  have hb := below_one w (.cells (btenc e b A n m) 25)
  have HX := Lib.hid hX
  obtain ⟨x0, x1, x2⟩ := hX.c3
  clear hX
  have hR := bright_any P e b A n m L _ (hz.below hb) (by omega) hs b0 b9
  unfold BPost at hR
  have HZ := Lib.hid hz
  have HSM := Lib.hid hs
  have HLN := Lib.hid hz.1
  have hsz : (w.alloc (.cells (btenc e b A n m) 25)).heap.size = w.heap.size + 1 := by simp
  clear hz hs
  cases hbt : btk (e, b, L)
  case false =>
    rw [hbt] at hR
    have HNO : Hid (chnb e b L = false) := Lib.hid (by unfold chnb; rw [hbt]; rfl)
    clear hbt
    go_enter Try.func20, Try.ntmps20
    go_wp2_with fail
    refine hR.mono ?_
    rintro en w1 ⟨rfl, hb1⟩
    replace hb := hb.trans (hb1.mono hb.size)
    clear hR hb1 x0 x1 x2
    go_wp2
    go_ret
    exact ⟨by rw [HNO.out]; rfl, hb⟩
  case true =>
    rw [hbt] at hR
    have hfit := btk_fit hbt
    have HCH : Hid (chnb e b L = coe b (lksOf L) tl0 L.length) := Lib.hid (by unfold chnb; rw [hbt]; rfl)
    have hn16 : 1 ≤ n := by
      have h := hbt
      unfold btk at h
      simp only [Bool.and_eq_true] at h
      have h2 := of_decide_eq_true h.1.1.2
      have h3 := HLN.out
      have h4 : (L.length : Int) = n := by rw [h3]
      have h5 : 1 ≤ (L.length : Int) := h2.1
      omega
    clear hbt
    have hmm := @run_makeMap Try.prog
    go_enter Try.func20, Try.ntmps20
    go_wp2_with fail
    refine hR.mono ?_
    rintro en w1 ⟨rfl, hb1⟩
    have hX1 := HX.out.below hb1
    replace hb := hb.trans (hb1.mono hb.size)
    have hs1 := hb1.size
    rw [hsz] at hs1
    clear hR hb1 x0 x1 x2 HX
    have hA1 := below_one w1 (.cells #[.bool true] 4)
    have hA2 := below_one (w1.alloc (.cells #[.bool true] 4)) (.map #[] 0)
    have hA3 := below_one ((w1.alloc (.cells #[.bool true] 4)).alloc (.map #[] 0)) (.cells #[.map (some (w1.heap.size + 1))] 61)
    have hC1 := Blk.new w1 #[.bool true] 4
    have hM1 := World.ownsMap_made (w1.alloc (.cells #[.bool true] 4)) Try.prog 22 valR
    have hE1 := Blk.new ((w1.alloc (.cells #[.bool true] 4)).alloc (.map #[] 0)) #[.map (some (w1.heap.size + 1))] 61
    have hC3 := (hC1.below hA2).below hA3
    rw [World.size_alloc] at hM1
    have hM3 : MapV _ (w1.heap.size + 1) 0 (.map []) := MapV.below hM1 hA3
    rw [World.size_alloc, World.size_alloc] at hE1
    have hA13 := hA1.trans ((hA2.trans (hA3.mono hA2.size)).mono hA1.size)
    have hX3 := hX1.below hA13
    have hbd := hb.trans (hA13.mono hb.size)
    have hsz3 : (((w1.alloc (.cells #[.bool true] 4)).alloc (.map #[] 0)).alloc (.cells #[.map (some (w1.heap.size + 1))] 61)).heap.size = w1.heap.size + 3 := by simp
    clear hA1 hA2 hA3 hC1 hM1 hA13 hX1 hb
    go_upto_region 5 with (fail)
    generalize ((w1.alloc (.cells #[.bool true] 4)).alloc (.map #[] 0)).alloc (.cells #[.map (some (w1.heap.size + 1))] 61) = w4 at *
    clear hmm
    have hzw := HZ.out
    obtain ⟨g, o, rfl, _, _, _⟩ := hzw.cells (by omega)
    obtain ⟨hd, hg, hhd⟩ := ens_hdr hzw (by omega)
    have hls : ∀ k, ((lksOf L).getD k []).length ≤ 100 := fun k => by rw [lksOf_at]; have := (HSM.out k).1; omega
    have hbl : ∀ k, blen 1000 ((lksOf L).getD k []) := fun k s hs => by rw [lksOf_at] at hs; have := (HSM.out k).2.1 s hs; omega
    have hln : ∀ k, k < n → (hd k).2.1 = ((lksOf L).getD k []).length := fun k hk => by rw [lksOf_at]; exact (hhd k hk).2.1.symm
    have hstep := chained_step (B0 := w.heap.size) (eb := w1.heap.size + 2) (mb := w1.heap.size + 1) (cb := w1.heap.size) (b := b) (hd := hd) w4 w hzw hbd hls hbl hn b0
      (fun k hk => ⟨(hd k).2.2, by rw [← hln k hk], by rw [← hln k hk]; have := (hhd k hk).2; rw [← lksOf_at] at this; exact this⟩) (by omega) (by omega) (by omega)
    have h0 : ChnI w.heap.size (w1.heap.size + 2) (w1.heap.size + 1) w1.heap.size b L 0 0 w4 := ⟨hE1, hC3, 0, _, _, by omega, hM3, MV.nil, fun s => ⟨fun _ => rfl, fun v hv => by cases hv⟩⟩
    have hv := visit_chained ⟨w1.heap.size + 2, 0, none⟩ ⟨w1.heap.size, 0, none⟩ (chS (w1.heap.size + 1) w1.heap.size) (ChnI w.heap.size (w1.heap.size + 2) (w1.heap.size + 1) w1.heap.size b L) e b (some ⟨g, o, none⟩) n m hd w4 (by omega) b0 b9
      ChnI.below (fun h => by rcases h with h | h <;> omega)
      (fun _ => ⟨g, o, rfl, (fun h => by rcases h with h | h <;> omega), by omega, fun k hk => ⟨(hhd k hk).1 w4 hbd, (fun h => by
        obtain ⟨g', o', q1, _⟩ := (hhd k hk).2.cells (by omega)
        exact ⟨g', o', q1⟩), by have := hls k; rw [hln k hk]; omega⟩⟩) hstep (fun k wr hk hI => ChnI.next hls k wr (by rw [← hln k hk]; exact hI)) h0
    have hvn : vend b n = n := by
      have h3 := HLN.out
      unfold vend
      rw [if_pos (by have h4 : (L.length : Int) = n := by rw [h3]
                     omega)]
    rw [hvn] at hv
    obtain ⟨x0, x1, x2⟩ := hX3.c3
    clear hhd hls hbl hln hstep h0 hvn hE1 hC3 hM3 hX3 hzw hfit
    go_wp2_with fail
    refine hv.mono ?_
    rintro en w6 ⟨rfl, hI, hk6⟩
    have hc6 := hI.2.1.c1
    have e6 : (coe b (lksOf L) tl0 n && cok (b + n) ((lksOf L).getD n []) (CE b (lksOf L) tl0 n) 0) = chnb e b L := by
      rw [HCH.out, HLN.out]
      exact Bool.and_true _
    rw [e6] at hc6
    have hfin := Ks.below hbd (Nat.le_refl _) hk6 (fun x hx => by rcases hx with rfl | rfl <;> omega)
    clear hv hI hk6 e6 x0 x1 x2
    go_wp2
    go_ret
    exact ⟨rfl, hfin⟩
end Go.Proofs.Ytoemmppoejaapaa.Cur
