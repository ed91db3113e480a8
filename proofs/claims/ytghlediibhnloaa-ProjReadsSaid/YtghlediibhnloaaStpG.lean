/- Stripes written by the document: Bytes. -/
import Derived.Test.YtghlediibhnloaaStpF
import Derived.Test.YtghlediibhnloaaK5
namespace Go.Proofs.Ytghlediibhnloaa.Cur
open Go.RowKit Mem
set_option linter.unusedVariables false
set_option maxRecDepth 100000


theorem len_app1 {y : List Int} {x : Int} {M : Nat} (h : y.length + 1 ≤ M) (hM : M ≤ 1000000) : y.length + [x].length ≤ 1000000 := by simp; omega

set_option maxHeartbeats 4000000 in
theorem rstbytes_any (P : Nat → Prop) (f t : Int) (A : Option Addr) (n m : Nat) (S : List (List Int)) (hok : stok (f, t, S) = true) (hf : 0 ≤ f) (w : World) (hz : Sts w P A n S) (hm : n ≤ m) :
    Calls Try.prog 54 #[stagg f t A n m] w (RowPost (stb (f, t, S)) w) := by
  have hX := Blk.new w (stc f t A n m) 60
  have hb := below_one w (.cells (stc f t A n m) 60)
  have hw0 : (w.alloc (.cells (stc f t A n m) 60)).heap.size = w.heap.size + 1 := by simp
  have hlenB := stb_len hok
  obtain ⟨k1, k2, k3, k4, k5⟩ := stok_parts hok
  dsimp only at k1 k2 k3 k4 k5
  have HL := Lib.hid hz.1
  have HFN := Lib.hid (sok_fine k5)
  have hn8 : n ≤ 8 := by rw [← hz.1]; exact k4
  have hn1 : 1 ≤ n := by rw [← hz.1]; exact k3
  obtain ⟨g, o, rfl, _, hg, _⟩ := hz.cells (by omega)
  have HC := Lib.hid (hz.below hb)
  have HE : Hid (stk f t S n = stb (f, t, S)) := Lib.hid (by rw [← hz.1]; exact stk_end f t S)
  have HSU := Lib.hid (fun k (hk : k < S.length) => stk_succ (f := f) (t := t) hk)
  have HLE := Lib.hid (fun k (hk : k ≤ S.length) => stk_le (f := f) (t := t) hk)
  have H0 : Hid (stk f t S 0 = vz (t - f - 1) ++ vz n) := Lib.hid (by unfold stk ssb; rw [hz.1]; simp)
  have HLB := Lib.hid hlenB
  generalize stb (f, t, S) = ST at *
  generalize stk f t S = sk at *
  have e1 : IntKind.u64.wrap (t - f) = t - f := IntWalk.u64_in _ (by omega)
  have e1b : IntKind.u64.wrap ((t - f) - 1) = t - f - 1 := IntWalk.u64_in _ (by omega)
  have e2 : IntKind.u8.wrap (n : Int) = n := IntWalk.u8_in _ (by omega)
  have e0 : 0 ≤ t - f - 1 ∧ t - f - 1 < 18446744073709551616 := by omega
  have HVN : Hid (vz (n : Int) = [(n : Int)]) := Lib.hid (vz_lt _ (by omega))
  clear hok hz k1 k2 k3 k4 k5 hlenB
  obtain ⟨x0, x1, x2⟩ := hX.c3
  obtain ⟨d, hd⟩ : ∃ d, d = t - f := ⟨_, rfl⟩
  rw [← hd] at e1 e1b e0 H0
  have HD := Lib.hid hd
  have e1' : IntKind.u64.wrap (t - f) = d := by rw [← HD.out]; exact e1
  clear hd e1
  go_enter Try.func54, Try.ntmps54
  go_wp2_with fail
  generalize w.alloc (.cells (stc f t (some ⟨g, o, none⟩) n m) 60) = w0 at *
  refine (rbytes_any 10 _ _ (vsz_le _) e0.1 e0.2).mono ?_
  rintro e w1 ⟨A1, m1, rfl, hb1, _, _, _, ho1⟩
  have hX1 := hX.below hb1
  have HX := Lib.hid hX
  have HN := Lib.hid (vz_length (d - 1))
  have HV1 := Lib.hid (vsz_le (d - 1))
  clear x0 x1 x2 e0 hX
  obtain ⟨x0, x1, x2⟩ := hX1.c3
  have hA := below_one w1 (.cells #[.int .u8 (n : Int)] 5)
  have hoA := ho1.below hA
  have hbA := hb1.trans (hA.mono hb1.size)
  have hXA := hX1.below hA
  have hbsA := (Own.built w1 (n : Int)).bs.2
  have hBA := hbA.size
  have hLA : (vz (d - 1)).length + [(n : Int)].length ≤ 1000000 := by rw [HN.out]; have := HV1.out; simp; omega
  clear hX1 ho1 hb1 hA
  go_wp2_with (at_builtin; go_must (refine list_append_gr rfl (.tmp 12) (.tmp 17) rfl w0.heap.size _ _ rfl hoA _ 1 1 [(n : Int)] rfl hbsA (by simp) hLA hBA ?_; intro v2 w2 ho2 hg2 hgr2; have hb2 := Own.belowOf hbA hBA hoA hg2; clear hoA hbA hXA hbsA hBA hLA hg2 hgr2 x0 x1 x2))
  rw [← HVN.out, ← H0.out] at ho2
  go_loopw [3, 4] (fun v i wr => ∃ k : Nat, k ≤ n ∧ i = .int .i64 k ∧ Own wr w0.heap.size v (sk k) ∧ Below w0.heap.size w0 wr) (fun _ i _ => n - (intOf i).toNat)
  case atStart => exact ⟨0, by omega, rfl, ho2, hb2⟩
  case round =>
    clear ho2 hb2
    obtain ⟨k, hk, rfl, ho, hbr⟩ := hrel
    have hX := HX.out.below hbr
    obtain ⟨x0, x1, x2⟩ := hX.c3
    by_cases hlt : k < n
    · obtain ⟨g', o', e, _, _, hc⟩ := HC.out.cells (by omega)
      injection e with e
      injection e with ea eb
      subst ea eb
      obtain ⟨a, l, mm, hl, hlm, han, hus, hbl, hby, hcell⟩ := hc k hlt
      have c0 := hcell wr hbr
      have hkS : k < S.length := by rw [HL.out]; exact hlt
      obtain ⟨q1, q2, q3, _⟩ := fne_parts (HFN.out k hkS)
      have hsu := HSU.out k hkS
      have hle0 := HLE.out k (by omega)
      rw [hl] at hsu q1 q2
      obtain ⟨z, hz⟩ : ∃ z, z = S.getD k [] := ⟨_, rfl⟩
      rw [← hz] at hus hby q3 hsu hl
      have HSN := Lib.hid hsu
      have HBY := Lib.hid hby
      have HRI := Lib.hid q3
      have HUS := Lib.hid hus
      have HCELL := Lib.hid hcell
      have HVL : Hid (vz (l : Int) = [(l : Int)]) := Lib.hid (vz_lt _ (by omega))
      have HY : Hid ((sk k).length ≤ 740) := Lib.hid (Nat.le_trans hle0 HLB.out)
      have e3 : IntKind.u8.wrap (l : Int) = l := IntWalk.u8_in _ (by omega)
      have e4 : (k : Int) < n := by omega
      have e5 : IntKind.i64.wrap ((k : Int) + 1) = ((k + 1 : Nat) : Int) := IntWalk.i64_in _ (by omega)
      have hA := below_one wr (.cells #[.int .u8 (l : Int)] 5)
      have hoA := ho.below hA
      have hbA := hbr.trans (hA.mono hbr.size)
      have hbsA := (Own.built wr (l : Int)).bs.2
      have hBA := hbA.size
      have hLA : (sk k).length + [(l : Int)].length ≤ 1000000 := by have := HY.out; simp; omega
      obtain ⟨Av, cv, rfl⟩ := ho.slice
      clear hc hcell hus hby q3 han hbl hz hl hsu hle0 ho hA
      go_wp2_with (at_builtin; go_must (refine list_append_gr rfl (.tmp 26) (.tmp 34) rfl w0.heap.size _ _ rfl hoA _ 1 1 [(l : Int)] rfl hbsA (by simp) hLA hBA ?_; intro v2 w2 ho2 hg2 hgr2; have hb2 := Own.belowOf hbA hBA hoA hg2; clear hoA hbA hbsA hBA hLA hg2 hgr2 x0 x1 x2 hX c0 hbr; obtain ⟨x0, x1, x2⟩ := (HX.out.below hb2).c3; have c0 := HCELL.out _ hb2))
      have hus2 := HUS.out.below hb2
      have hL2 : (sk k ++ [(l : Int)]).length ≤ 741 := by have := HY.out; rw [List.length_append]; simp; omega
      obtain ⟨y2, hy2⟩ : ∃ y2, y2 = sk k ++ [(l : Int)] := ⟨_, rfl⟩
      rw [← hy2] at ho2 hL2
      have HY2 := Lib.hid hy2
      obtain ⟨A2, c2, rfl⟩ := ho2.slice
      clear hy2
      refine (rrz_any a l mm z w2 hus2 (by omega) HBY.out HRI.out).mono ?_
      rintro e w3 ⟨A3, m3, rfl, hb3, hbs3, hnil3, _, _⟩
      have ho3 := ho2.below hb3
      have hbd3 := hb2.trans (hb3.mono hb2.size)
      have hB3 := hbd3.size
      have hlz := rz_len z
      have hzl := HUS.out.1
      have hL3 : y2.length + (rz z).length ≤ 1000000 := by omega
      have HZR := Lib.hid (rfl : rz z = rz z)
      obtain ⟨u, hu⟩ : ∃ u, u = rz z := ⟨_, rfl⟩
      rw [← hu] at hbs3 hL3 ⊢
      have HU := Lib.hid hu
      clear hb3 ho2 hb2 x0 x1 x2 c0 hus2 hlz hzl hu
      go_wp2_with (at_builtin; go_must (refine list_append_gr rfl (.tmp 36) (.tmp 42) rfl w0.heap.size _ _ rfl ho3 _ _ _ u rfl hbs3 hnil3 hL3 hB3 ?_; intro v4 w4 ho4 hg4 hgr4; have hb4 := Own.belowOf hbd3 hB3 ho3 hg4; clear ho3 hbd3 hbs3 hB3 hL3 hg4 hgr4))
      go_roundw
      case rel => exact ⟨k + 1, by omega, by go_num, by rw [HSN.out, HVL.out, ← List.append_assoc, ← HY2.out, ← HU.out]; exact ho4, hb4⟩
      case measure => simp [intOf]; omega
    · obtain rfl : k = n := by omega
      rw [HE.out] at ho
      have HO := Lib.hid (ho.base (B' := w.heap.size) fun g hg => by have := ho.ge g hg; omega)
      have HB := Lib.hid (hb.trans (hbr.mono hb.size))
      obtain ⟨Av, cv, rfl⟩ := ho.slice
      clear ho hbr hb hX
      go_wp2
      go_ret
      exact Own.rowPost (B := 0) HO.out HB.out
end Go.Proofs.Ytghlediibhnloaa.Cur
