/- As the seat's text, without what nothing here names. -/
import Derived.Test.YtoemmppoejaapaaBtcAf
import Derived.Test.YtoemmppoejaapaaK38f
import Derived.Test.YtoemmppoejaapaaK39f
namespace Go.Proofs.Ytoemmppoejaapaa.Cur
open Go.RowKit Mem
set_option linter.unusedVariables false
set_option maxRecDepth 100000
theorem btk_no1 {B : Bt} (h : epk B.1 = false) : btk B = false := by unfold btk; rw [h]; rfl
theorem btk_no2 {B : Bt} (h : fitn B.2.1 B.2.2.length = false) : btk B = false := by unfold btk; rw [h]; simp
theorem btk_no3 {B : Bt} {k : Nat} (hk : k < B.2.2.length) (h : enok (B.2.1 + k) (B.2.2.getD k en0).1 (B.2.2.getD k en0).2.length = false) : btk B = false := by
  unfold btk
  cases he : enall B.2.1 B.2.2
  · simp
  · have := enall_at he k hk
    rw [h] at this
    exact absurd this (by decide)
theorem psk_of_fitn {b n : Int} (h : fitn b n = true) : psk b = true := decide_eq_true (by have := fitn_bd h; omega)
theorem btk_yes {B : Bt} (h1 : epk B.1 = true) (h2 : fitn B.2.1 B.2.2.length = true) (h3 : ∀ k, k < B.2.2.length → enok (B.2.1 + k) (B.2.2.getD k en0).1 (B.2.2.getD k en0).2.length = true) (h4 : (jn B.2.2).length ≤ 1048576) : btk B = true := by
  unfold btk
  rw [h1, psk_of_fitn h2, h2, decide_eq_true h4, enall_of h3]
  rfl
set_option maxHeartbeats 2000000 in
theorem bright_any (P : Nat → Prop) (e b : Int) (A : Option Addr) (n m : Nat) (L : List En) (w : World) (hz : Ens w P A n L) (hn : n ≤ 1000000) (hs : esm L) (b0 : 0 ≤ b) (b1 : b < 18446744073709551616) :
    Calls Try.prog 35 #[btagg e b A n m] w (BPost (.bool (btk (e, b, L))) w) := by
  unfold BPost
  have hX := Blk.new w (btenc e b A n m) 25
  have hb := below_one w (.cells (btenc e b A n m) 25)
  have HX := Lib.hid hX
  obtain ⟨x0, x1, x2⟩ := hX.c3
  clear hX
  have hl := hz.1
  have HER := Lib.hid (fun w' => eright_any e w')
  have HFT := Lib.hid (fun w' => fits_any b (n : Int) w' b0 b1 (by omega))
  have HN1 := Lib.hid (btk_no1 (B := (e, b, L)))
  have HN2 := Lib.hid (btk_no2 (B := (e, b, L)))
  have HN3 := Lib.hid (fun k => btk_no3 (B := (e, b, L)) (k := k))
  have HYE := Lib.hid (btk_yes (B := (e, b, L)))
  dsimp only at HN1 HN2 HN3 HYE
  rw [hl] at HN2 HN3 HYE
  generalize btk (e, b, L) = r at *
  cases hE : epk e
  case false =>
    have HR := Lib.hid (HN1.out hE)
    rw [hE] at HER
    clear hE HN1 HN2 HN3 HYE HFT hz hs
    go_enter Try.func35, Try.ntmps35
    go_wp2_with fail
    refine (HER.out _).mono ?_
    rintro en w1 ⟨rfl, rfl⟩
    go_wp2
    go_ret
    exact ⟨by rw [HR.out]; rfl, hb⟩
  have HE := Lib.hid hE
  rw [hE] at HER
  clear hE HN1
  cases hF : fitn b n
  case false =>
    have HR := Lib.hid (HN2.out hF)
    rw [hF] at HFT
    clear hF HN2 HN3 HYE hz hs
    go_enter Try.func35, Try.ntmps35
    go_wp2_with fail
    refine (HER.out _).mono ?_
    rintro en w1 ⟨rfl, rfl⟩
    go_wp2_with fail
    refine (HFT.out _).mono ?_
    rintro en w1 ⟨rfl, rfl⟩
    go_wp2
    go_ret
    exact ⟨by rw [HR.out]; rfl, hb⟩
  obtain ⟨f1, f2, f3⟩ := fitn_bd hF
  have HF := Lib.hid hF
  rw [hF] at HFT
  clear hF HN2
  have HZ := Lib.hid hz
  have HSM := Lib.hid hs
  have HC := Lib.hid (fun h => (hz.below hb).cells h)
  have HJ := Lib.hid (jn_of_jk hl)
  have hjl := jk_le hs n (by omega)
  obtain ⟨J, hJ⟩ : ∃ J, J = (jk L n).length := ⟨_, rfl⟩
  rw [← hJ] at hjl
  have HJL := Lib.hid hJ
  have ej : (J : Int) ≤ 1048576 := by omega
  clear hz hs hJ hl
  go_enter Try.func35, Try.ntmps35
  go_wp2_with fail
  refine (HER.out _).mono ?_
  rintro en w1 ⟨rfl, rfl⟩
  go_wp2_with fail
  refine (HFT.out _).mono ?_
  rintro en w1 ⟨rfl, rfl⟩
  go_wp2
  clear x0 x1 x2
  generalize w.alloc (.cells (btenc e b A n m) 25) = w0 at *
  go_loopw [21] (fun i wr => ∃ k : Nat, k ≤ n ∧ i = .int .i64 k ∧ Hid (∀ j, j < k → enok (b + j) (L.getD j en0).1 (L.getD j en0).2.length = true) ∧ Below w0.heap.size w0 wr) (fun i _ => n - (intOf i).toNat)
  case atStart => exact ⟨0, by omega, rfl, Lib.hid (by intro j hj; omega), Below.refl _ _⟩
  case round =>
    obtain ⟨k, hk, rfl, hj, hb0⟩ := hrel
    by_cases hlt : k < n
    · obtain ⟨g, o, rfl, _, hg, hc⟩ := HC.out (by omega)
      obtain ⟨K, D, a1, l1, m1', b1', r1, k1, he, hlm, hnl, hks, hrk, hnb, hbs, hbb, hsq, hcell⟩ := hc k hlt
      have ek : (k : Int) < n := by omega
      have e3 : IntKind.i64.wrap ((k : Int) + 1) = ((k + 1 : Nat) : Int) := IntWalk.i64_in _ (by omega)
      have e4 : IntKind.u64.wrap (k : Int) = k := IntWalk.u64_in _ (by omega)
      have e5 : IntKind.u64.wrap (b + k) = b + k := IntWalk.u64_in _ (by omega)
      obtain ⟨c0, c1⟩ := hcell wr hb0
      have hX2 := Blk.new wr (enc' a1 l1 m1' b1' r1 k1) 31
      have hb1 := hb0.trans ((below_one wr (.cells (enc' a1 l1 m1' b1' r1 k1) 31)).mono hb0.size)
      obtain ⟨y0, y1⟩ := hX2.c2
      obtain ⟨x0, x1, x2⟩ := (HX.out.below hb1).c3
      have hcon := enright_any P (b + k) a1 l1 m1' K b1' r1 k1 _ (hks.below hb1) (by omega) (by omega)
      unfold BPost at hcon
      have hv : enok (b + k) (L.getD k en0).1 (L.getD k en0).2.length = enok (b + k) K r1 := by rw [he]; show enok (b + k) K D.length = _; rw [hbs.1]
      have HV := Lib.hid hv
      obtain ⟨v, hvv⟩ : ∃ v, v = enok (b + k) K r1 := ⟨_, rfl⟩
      rw [← hvv] at HV hcon
      clear hv hvv hc hcell he hlm hnl hks hrk hnb hbs hbb hsq
      go_wp2_with fail
      refine hcon.mono ?_
      rintro en w2 ⟨rfl, hb2⟩
      have hb3 := hb1.trans (hb2.mono hb1.size)
      have hbd := hb.trans (hb3.mono hb.size)
      clear hcon y0 y1 x0 x1 x2 hX2 hb2 hb1 hb0 c0 c1
      cases v
      · have HR := Lib.hid (HN3.out k hlt HV.out)
        go_wp2
        go_ret
        exact ⟨by rw [HR.out]; rfl, hbd⟩
      · go_wp2
        go_roundw
        case rel => exact ⟨k + 1, by omega, by go_num, Lib.hid (fun j hjk => by
          rcases Nat.lt_or_ge j k with h | h
          · exact hj.out j h
          · obtain rfl : j = k := by omega
            exact HV.out), hb3⟩
        case measure => simp [intOf]; omega
    · obtain rfl : k = n := by omega
      obtain ⟨x0, x1, x2⟩ := (HX.out.below hb0).c3
      have hbd := hb.trans (hb0.mono hb.size)
      have hcon := total_any P A k m L wr (HZ.out.below hbd) (by omega) HSM.out
      unfold BPost at hcon
      rw [← HJL.out] at hcon
      have HR := Lib.hid (HYE.out HE.out HF.out (fun j hjk => hj.out j hjk) (by rw [HJ.out, ← HJL.out]; omega))
      go_wp2_with fail
      refine hcon.mono ?_
      rintro en w2 ⟨rfl, hb2⟩
      have hbd2 := hbd.trans (hb2.mono hbd.size)
      clear hcon hb2
      go_wp2
      go_ret
      exact ⟨by rw [HR.out]; first | rfl | simp, hbd2⟩
def LgBPost (n : Nat) (L : List En) (w : World) (e : Ending) (w' : World) : Prop := ∃ b, e = .returned (.bool b) ∧ Below w.heap.size w w' ∧ (b = false → n ≤ 30 ∧ esm L ∧ (jn L).length ≤ 300)
set_option maxHeartbeats 2000000 in
theorem long25_any (P : Nat → Prop) (e b : Int) (A : Option Addr) (n m : Nat) (L : List En) (w : World) (hz : Ens w P A n L) :
    Calls Try.prog 5 #[btagg e b A n m] w (LgBPost n L w) := by
  have hX := Blk.new w (btenc e b A n m) 25
  have hb := below_one w (.cells (btenc e b A n m) 25)
  have HX := Lib.hid hX
  obtain ⟨x0, x1, x2⟩ := hX.c3
  clear hX
  have HL := Lib.hid hz.1
  have HC := Lib.hid (fun h => (hz.below hb).cells h)
  have HZ := Lib.hid (hz.below hb)
  have HJN := Lib.hid (fun k (h : k < L.length) => jk_next_len h)
  have HJ := Lib.hid (jn_of_jk hz.1)
  have hj0 : Hid ((jk L 0).length = 0) := Lib.hid rfl
  clear hz
  go_enter Try.func5, Try.ntmps5
  go_wp2
  clear x0 x1 x2
  generalize w.alloc (.cells (btenc e b A n m) 25) = w0 at *
  go_loopw [3, 4] (fun t i wr => ∃ (k : Nat) (T : Int), k ≤ n ∧ k ≤ 30 ∧ t = .int .i64 T ∧ i = .int .i64 k ∧ Hid ((∀ j, j < k → (L.getD j en0).2.length ≤ 500) → T = (jk L k).length) ∧ Below w0.heap.size w0 wr) (fun _ i _ => 30 - (intOf i).toNat)
  case atStart => exact ⟨0, 0, by omega, by omega, rfl, rfl, Lib.hid (fun _ => by rw [hj0.out]; rfl), Below.refl _ _⟩
  case round =>
    obtain ⟨k, T, hk, hk30, rfl, rfl, hj, hb0⟩ := hrel
    obtain ⟨x0, x1, x2⟩ := (HX.out.below hb0).c3
    by_cases hlt : k < n ∧ k < 30
    · obtain ⟨hlt, h30⟩ := hlt
      have e2 : (k : Int) < 30 := by omega
      obtain ⟨g, o, rfl, _, hg, hc⟩ := HC.out (by omega)
      obtain ⟨K, D, a1, l1, m1, b1, r1, k1, he, hlm, hnl, hks, hrk, hnb, hbs, hbb, hsq, hcell⟩ := hc k hlt
      have ek : (k : Int) < n := by omega
      have e3 : IntKind.i64.wrap ((k : Int) + 1) = ((k + 1 : Nat) : Int) := IntWalk.i64_in _ (by omega)
      obtain ⟨c0, c1⟩ := hcell wr hb0
      have hjn := HJN.out k (by rw [HL.out]; exact hlt)
      rw [he] at hjn
      replace hjn : (jk L (k + 1)).length = (jk L k).length + D.length := hjn
      rw [hbs.1] at hjn
      have HR1 : Hid ((L.getD k en0).2.length = r1) := Lib.hid (by rw [he]; exact hbs.1)
      have HJK := Lib.hid hjn
      clear hc hcell he hlm hnl hks hrk hnb hbs hbb hsq hjn
      obtain ⟨T2, hT2⟩ : ∃ T2, T2 = IntKind.i64.wrap (T + r1) := ⟨_, rfl⟩
      have HT2 := Lib.hid hT2
      replace hT2 := hT2.symm
      go_wp2
      go_roundw
      case rel => exact ⟨k + 1, T2, by omega, by omega, by first | rfl | rw [hT2], by go_num, Lib.hid (fun h => by
        have h1 := hj.out (fun j hjk => h j (by omega))
        have h2 := h k (by omega)
        rw [HR1.out] at h2
        have h3 : (jk L k).length ≤ 500 * k := by
          have : ∀ i, i ≤ k → (jk L i).length ≤ 500 * i := by
            intro i
            induction i with
            | zero => intro _; rw [hj0.out]; exact Nat.zero_le _
            | succ i ih =>
              intro hi
              have h5 := HJN.out i (by rw [HL.out]; omega)
              have h6 := h i (by omega)
              have h7 := ih (by omega)
              omega
          exact this k (Nat.le_refl _)
        rw [HT2.out, h1, IntWalk.i64_in _ (by omega), HJK.out]
        omega), hb0⟩
      case measure => simp [intOf]; omega
    · have hcon := many_any P A n m L wr (HZ.out.below hb0)
      unfold ManyPost at hcon
      have hbd := hb.trans (hb0.mono hb.size)
      have HFIN : Hid (n ≤ 30 → esm L → T = ((jn L).length : Int)) := Lib.hid (fun h1 h2 => by
        obtain rfl : k = n := by omega
        rw [HJ.out]
        exact hj.out (fun j _ => (h2 j).2.2))
      clear hj
      by_cases hkn : k < n
      · have e1 : (k : Int) < n := by omega
        have e2 : ¬ (k : Int) < 30 := by omega
        clear hlt hkn
        go_wp2_with fail
        refine hcon.mono ?_
        rintro en w2 ⟨lb, rfl, hb2, hlong⟩
        have hbd2 := hbd.trans (hb2.mono hbd.size)
        clear hcon hb2 x0 x1 x2
        cases lb
        · exact absurd (hlong rfl).1 (by omega)
        · clear hlong
          go_wp2
          go_ret
          exact ⟨true, rfl, hbd2, fun h => by cases h⟩
      · have e1 : ¬ (k : Int) < n := by omega
        clear hlt hkn
        go_wp2_with fail
        refine hcon.mono ?_
        rintro en w2 ⟨lb, rfl, hb2, hlong⟩
        have hbd2 := hbd.trans (hb2.mono hbd.size)
        clear hcon hb2 x0 x1 x2
        cases lb
        · have HG := Lib.hid (hlong rfl)
          clear hlong
          by_cases h300 : 300 < T
          · go_wp2
            go_ret
            exact ⟨true, rfl, hbd2, fun h => by cases h⟩
          · have HT : Hid (T ≤ 300) := Lib.hid (by omega)
            go_wp2
            go_ret
            exact ⟨decide (300 < T), rfl, hbd2, fun _ => ⟨HG.out.1, HG.out.2, by have := HFIN.out HG.out.1 HG.out.2; have := HT.out; omega⟩⟩
        · clear hlong
          go_wp2
          go_ret
          exact ⟨true, rfl, hbd2, fun h => by cases h⟩
end Go.Proofs.Ytoemmppoejaapaa.Cur
