/- Projections written by the document: Bytes. -/
import Derived.Test.YtghlediibhnloaaPrjC
import Derived.Test.YtghlediibhnloaaStpG
import Derived.Test.YtghlediibhnloaaK1
import Derived.Deep.CutRange
namespace Go.Proofs.Ytghlediibhnloaa.Cur
open Go.RowKit Mem
set_option linter.unusedVariables false
set_option maxRecDepth 100000


/-- What the document's front needs. -/
def RpB (x : Nat) (u : Array Value) (w0 w : World) : Prop := Blk w x u 25 ∧ Below w0.heap.size w0 w
set_option maxHeartbeats 4000000 in
theorem rprbytes_any (P : Nat → Prop) (e : Int) (A : Option Addr) (n m : Nat) (L : List Stp) (w : World) (hok : prok (e, L) = true) (hz : Pts w P A n L) :
    Calls Try.prog 21 #[pragg e A n m] w (RowPost (prb (e, L)) w) := by
  have hX := Blk.new w (prc e A n m) 25
  have hb := below_one w (.cells (prc e A n m) 25)
  have hw0 : (w.alloc (.cells (prc e A n m) 25)).heap.size = w.heap.size + 1 := by simp
  obtain ⟨k1, k2, k3, _⟩ := prok_parts hok
  replace k2 : 1 ≤ n := by rw [← hz.1]; exact k2
  replace k3 : n ≤ 64 := by rw [← hz.1]; exact k3
  have HL := Lib.hid hz.1
  have hep := epk_bd k1
  replace hep : 1 ≤ e ∧ e ≤ 4611686018427387903 := hep
  obtain ⟨g, o, rfl, _, _, hjk⟩ := hz.cells (by omega)
  clear hjk
  have HC := Lib.hid ((hz.below hb).cells (by omega))
  have HE : Hid (ppk e L n = prb (e, L)) := Lib.hid (by rw [← hz.1]; exact ppk_end e L)
  have HSU := Lib.hid (fun k (hk : k < L.length) => ppk_succ (e := e) hk)
  have HLE := Lib.hid (fun k (hk : k ≤ L.length) => ppk_len hok k hk)
  have H0 : Hid (ppk e L 0 = vz e ++ vz n) := Lib.hid (by unfold ppk psb; rw [hz.1]; simp)
  have HOK := Lib.hid (fun k (hk : k < L.length) => prok_at hok hk)
  generalize prb (e, L) = ST at *
  generalize ppk e L = sk at *
  have e2 : IntKind.u8.wrap (n : Int) = n := IntWalk.u8_in _ (by omega)
  have HVN : Hid (vz (n : Int) = [(n : Int)]) := Lib.hid (vz_lt _ (by omega))
  clear hok hz k1
  obtain ⟨x0, x1⟩ := hX.c2
  have HB := Lib.hid hb
  go_enter Try.func21, Try.ntmps21
  go_wp2
  clear x0 x1
  generalize w.alloc (.cells (prc e (some ⟨g, o, none⟩) n m) 25) = w0 at *
  have hS : RpB w.heap.size (prc e (some ⟨g, o, none⟩) n m) w0 w0.drew := ⟨hX.drew, below_one' _⟩
  have L1 : ∀ w', RpB w.heap.size (prc e (some ⟨g, o, none⟩) n m) w0 w' → w'.cell? ⟨w.heap.size, 0, none⟩ = some (.int .u64 e) ∧ w'.cell? ⟨w.heap.size, 1, none⟩ = some (.slice (some ⟨g, o, none⟩) n m) := fun w' h => h.1.c2
  have HN := Lib.hid (vz_length e)
  have HV1 := Lib.hid (vsz_le e)
  go_cut [3] from 5 to 13 (fun v3 wx => Own wx w0.heap.size v3 (sk 0) ∧ Below w0.heap.size w0 wx)
  case first =>
    refine Seq.wp_region_pair (fun o => o.dst == some 7) 2 7 (RpB w.heap.size (prc e (some ⟨g, o, none⟩) n m) w0) (by kernel_rfl) (by kernel_rfl) hS ?_
    generalize w0.drew = wd at *
    repeat (first | (refine Seq.SeqX.skip (by rfl) (by rfl) ?_; (try simp only [Act.put, List.setIfInBounds_toArray, List.set_cons_zero, List.set_cons_succ])) | (refine Seq.SeqX.det ?_ (by rfl) (by rfl) (fun w hS => ?_) ?_; rotate_left; ((try dsimp only at hS); go_simp; (try rw [if_pos (by omega)]); with_reducible rfl); (try simp only [Act.put, List.setIfInBounds_toArray, List.set_cons_zero, List.set_cons_succ])))
    refine Seq.SeqX.pair (by rfl) (by rfl) (by rfl) (fun K Q' hK => ?_) ?_
    · go_simp
      go_at_call 53
      refine (rbytes_any 10 _ _ (vsz_le _) (by omega) (by omega)).mono ?_
      rintro en w1 ⟨A1, m1, rfl, hb1, _, _, _, ho1⟩
      have hb2 := hS.2.trans (hb1.mono hS.2.size)
      replace ho1 := ho1.base (B' := w0.heap.size) (fun g hg => by have := ho1.ge g hg; have := hS.2.size; omega)
      clear hb1 hS
      refine hK.out _ _ (⟨hX.below hb2, hb2⟩) ?_
      clear hK K
      try simp only [Act.put, List.setIfInBounds_toArray, List.set_cons_zero, List.set_cons_succ]
      repeat (first | (refine Seq.Seq.skip (by rfl) ?_; (try simp only [Act.put, List.setIfInBounds_toArray, List.set_cons_zero, List.set_cons_succ])) | (refine Seq.Seq.det ?_ (by rfl) (fun w hS => ?_) ?_; rotate_left; ((try dsimp only at hS); go_simp; (try rw [if_pos (by omega)]); with_reducible rfl); (try simp only [Act.put, List.setIfInBounds_toArray, List.set_cons_zero, List.set_cons_succ])))
      refine Seq.Seq.make (by rfl) (by rfl) (fun K Q' hK => ?_)
      go_simp
      have hA := below_one w1 (.cells #[.int .u8 (n : Int)] 5)
      have hbA := hb2.trans (hA.mono hb2.size)
      have hoA := ho1.below hA
      have hbsA := (Own.built w1 (n : Int)).bs.2
      have hBA := hbA.size
      have hLA : (vz e).length + [(n : Int)].length ≤ 1000000 := by rw [HN.out]; have := HV1.out; simp; omega
      clear hA ho1
      refine hK.out _ _ (⟨hX.below hbA, hbA⟩) ?_
      clear hK K
      try simp only [Act.put, List.setIfInBounds_toArray, List.set_cons_zero, List.set_cons_succ]
      refine Seq.Seq.make (by rfl) (by rfl) (fun K Q' hK => ?_)
      refine oper_append_gr (.tmp 7) (.tmp 12) rfl w0.heap.size _ _ rfl hoA _ 1 1 [(n : Int)] rfl hbsA (by simp) hLA hBA ?_
      intro v2 w2 ho2 hg2 hgr2
      have hb3 := Own.belowOf hbA hBA hoA hg2
      clear hoA hbA hbsA hBA hLA hg2 hgr2
      refine hK.out _ _ (⟨hX.below hb3, hb3⟩) ?_
      clear hK K
      try simp only [Act.put, List.setIfInBounds_toArray, List.set_cons_zero, List.set_cons_succ]
      repeat (first | (refine Seq.Seq.skip (by rfl) ?_; (try simp only [Act.put, List.setIfInBounds_toArray, List.set_cons_zero, List.set_cons_succ])) | (refine Seq.Seq.det ?_ (by rfl) (fun w hS => ?_) ?_; rotate_left; ((try dsimp only at hS); go_simp; (try rw [if_pos (by omega)]); with_reducible rfl); (try simp only [Act.put, List.setIfInBounds_toArray, List.set_cons_zero, List.set_cons_succ])))
      refine Seq.Seq.nil ?_
      rw [← HVN.out, ← H0.out] at ho2
      clear L1 hb2
      go_wp2
      go_meet
      case rel => exact ⟨ho2, hb3⟩
    · simp only [Seq.swp, Seq.making, Bool.false_eq_true, if_false, if_true, reduceIte]
      repeat (first | (refine Seq.Seq.skip (by rfl) ?_; (try simp only [Act.put, List.setIfInBounds_toArray, List.set_cons_zero, List.set_cons_succ])) | (refine Seq.Seq.det ?_ (by rfl) (fun w hS => ?_) ?_; rotate_left; ((try dsimp only at hS); go_simp; (try rw [if_pos (by omega)]); with_reducible rfl); (try simp only [Act.put, List.setIfInBounds_toArray, List.set_cons_zero, List.set_cons_succ])))
      refine Seq.Seq.make (by rfl) (by rfl) (fun K Q' hK => ?_)
      go_simp
      have hA := below_one wd (.cells #[.int .u8 (n : Int)] 5)
      have hbA := hS.2.trans (hA.mono hS.2.size)
      have hbsA := (Own.built wd (n : Int)).bs.2
      clear hS
      refine hK.out _ _ (⟨hX.below hbA, hbA⟩) ?_
      clear hK K
      try simp only [Act.put, List.setIfInBounds_toArray, List.set_cons_zero, List.set_cons_succ]
      repeat (first | (refine Seq.Seq.skip (by rfl) ?_; (try simp only [Act.put, List.setIfInBounds_toArray, List.set_cons_zero, List.set_cons_succ])) | (refine Seq.Seq.det ?_ (by rfl) (fun w hS => ?_) ?_; rotate_left; ((try dsimp only at hS); go_simp; (try rw [if_pos (by omega)]); with_reducible rfl); (try simp only [Act.put, List.setIfInBounds_toArray, List.set_cons_zero, List.set_cons_succ])))
      refine Seq.Seq.make (by rfl) (by rfl) (fun K Q' hK => ?_)
      go_simp
      go_at_call 53
      refine (rbytes_any 10 _ _ (vsz_le _) (by omega) (by omega)).mono ?_
      rintro en w1 ⟨A1, m1, rfl, hb1, _, _, _, ho1⟩
      have hbs1 := hbsA.below hb1
      have hb2 := hbA.trans (hb1.mono hbA.size)
      replace ho1 := ho1.base (B' := w0.heap.size) (fun g hg => by have := ho1.ge g hg; have := hbA.size; omega)
      have hBA := hb2.size
      have hLA : (vz e).length + [(n : Int)].length ≤ 1000000 := by rw [HN.out]; have := HV1.out; simp; omega
      clear hb1 hbA hbsA hA
      refine hK.out _ _ (⟨hX.below hb2, hb2⟩) ?_
      clear hK K
      try simp only [Act.put, List.setIfInBounds_toArray, List.set_cons_zero, List.set_cons_succ]
      refine Seq.Seq.make (by rfl) (by rfl) (fun K Q' hK => ?_)
      refine oper_append_gr (.tmp 7) (.tmp 12) rfl w0.heap.size _ _ rfl ho1 _ 1 1 [(n : Int)] rfl hbs1 (by simp) hLA hBA ?_
      intro v2 w2 ho2 hg2 hgr2
      have hb3 := Own.belowOf hb2 hBA ho1 hg2
      clear ho1 hb2 hbs1 hBA hLA hg2 hgr2
      refine hK.out _ _ (⟨hX.below hb3, hb3⟩) ?_
      clear hK K
      try simp only [Act.put, List.setIfInBounds_toArray, List.set_cons_zero, List.set_cons_succ]
      repeat (first | (refine Seq.Seq.skip (by rfl) ?_; (try simp only [Act.put, List.setIfInBounds_toArray, List.set_cons_zero, List.set_cons_succ])) | (refine Seq.Seq.det ?_ (by rfl) (fun w hS => ?_) ?_; rotate_left; ((try dsimp only at hS); go_simp; (try rw [if_pos (by omega)]); with_reducible rfl); (try simp only [Act.put, List.setIfInBounds_toArray, List.set_cons_zero, List.set_cons_succ])))
      refine Seq.Seq.nil ?_
      rw [← HVN.out, ← H0.out] at ho2
      clear L1
      go_wp2
      go_meet
      case rel => exact ⟨ho2, hb3⟩
  case rest =>
  obtain ⟨ho2, hb3⟩ := hcut
  clear hS L1
  go_wp2
  go_loopw [3, 4] (fun v i wr => ∃ k : Nat, k ≤ n ∧ i = .int .i64 k ∧ Own wr w0.heap.size v (sk k) ∧ Below w0.heap.size w0 wr) (fun _ i _ => n - (intOf i).toNat)
  case atStart => exact ⟨0, by omega, rfl, ho2, hb3⟩
  case round =>
    clear ho2 hb3
    obtain ⟨k, hk, rfl, ho, hbr⟩ := hrel
    obtain ⟨x0, x1⟩ := (hX.below hbr).c2
    by_cases hlt : k < n
    · obtain ⟨g', o', e', _, _, hc⟩ := HC.out
      injection e' with e'
      injection e' with ea eb
      subst ea eb
      obtain ⟨f, t, S, a, l, mm, he, ⟨f0, _⟩, _, hl, hlm, han, hst, hcell⟩ := hc k hlt
      obtain ⟨c0, c1, c2⟩ := hcell wr hbr
      have hkL : k < L.length := by rw [HL.out]; exact hlt
      have hokk := HOK.out k hkL
      have hsu := HSU.out k hkL
      have hle0 := HLE.out k (by omega)
      rw [he] at hokk hsu
      have HSN := Lib.hid hsu
      have hlen2 := stb_len hokk
      have hcon := rstbytes_any P f t a l mm S hokk f0 wr (hst.below hbr) hlm
      have e4 : (k : Int) < n := by omega
      have e5 : IntKind.i64.wrap ((k : Int) + 1) = ((k + 1 : Nat) : Int) := IntWalk.i64_in _ (by omega)
      obtain ⟨u, hu⟩ : ∃ u, u = stb (f, t, S) := ⟨_, rfl⟩
      rw [← hu] at hcon hlen2 HSN
      have HLU := Lib.hid (show (sk k).length + u.length ≤ 1000000 by omega)
      obtain ⟨Av, cv, rfl⟩ := ho.slice
      have HO := Lib.hid ho
      clear hc hcell hsu hle0 hst hokk hlen2 hl han hu he ho
      go_wp2_with fail
      refine hcon.mono ?_
      rintro en w3 ⟨A3, m3, rfl, hb3, hbs3, hnil3, _, _⟩
      have ho3 := HO.out.below hb3
      have hbd3 := hbr.trans (hb3.mono hbr.size)
      have hB3 := hbd3.size
      clear hb3 hcon c0 c1 c2 x0 x1
      go_wp2_with (at_builtin; go_must (refine list_append_gr rfl (.tmp 21) (.tmp 27) rfl w0.heap.size _ _ rfl ho3 _ _ _ u rfl hbs3 hnil3 HLU.out hB3 ?_; intro v4 w4 ho4 hg4 hgr4; have hb4 := Own.belowOf hbd3 hB3 ho3 hg4; clear ho3 hbd3 hbs3 hB3 hg4 hgr4))
      go_roundw
      case rel => exact ⟨k + 1, by omega, by go_num, by rw [HSN.out]; exact ho4, hb4⟩
      case measure => simp [intOf]; omega
    · obtain rfl : k = n := by omega
      rw [HE.out] at ho
      have HO := Lib.hid (ho.base (B' := w.heap.size) fun g hg => by have := ho.ge g hg; omega)
      have HBB := Lib.hid (HB.out.trans (hbr.mono HB.out.size))
      obtain ⟨Av, cv, rfl⟩ := ho.slice
      clear ho hbr hX
      go_wp2
      go_ret
      exact Own.rowPost (B := 0) HO.out HBB.out
end Go.Proofs.Ytghlediibhnloaa.Cur
