/- As the seat's text, without what nothing here names. -/
import Derived.Test.YtlealkfkddhnnaaGreatRows
import Derived.Test.YtlealkfkddhnnaaGreatBtcUx
import Derived.Test.YtlealkfkddhnnaaGreatBtcLx
import Derived.Test.YtlealkfkddhnnaaGreatBtcJx
import Derived.ProofKit
import Derived.OpenShut
import Derived.ShutString
import Derived.ChangeOld
namespace Go.Proofs.YtlealkfkddhnnaaGreat.batchOnce
open Go.ChangeShapes Go.WideShapes Go.ChangeAt Go.RowKit
open Go.ChangeMaps (open_string shut_string)
set_option linter.unusedVariables false
theorem own : ownKnob Tryz.prog.godebug = none := by kernel_rfl
theorem laidOut : laidOutB Tryz.prog = true := by kernel_rfl
open Cur Mem
set_option maxRecDepth 100000
theorem jn_esm : ∀ {L : List En}, esm L → (jn L).length ≤ 500 * L.length
  | [], _ => Nat.zero_le _
  | x :: L, h => by
    have h1 : x.2.length ≤ 500 := (h 0).2.2
    have h2 := jn_esm (L := L) (fun k => h (k + 1))
    have h3 : (jn (x :: L)).length = x.2.length + (jn L).length := by show (x.2 ++ jn L).length = _; rw [List.length_append]
    rw [h3, List.length_cons]
    omega
theorem onc_c {c q c' q' : Int} (h : (c = c' ∧ q = q') ∨ c = 12) : ((c == c') = true ∧ (q == q') = true) ∨ ((c == c') = false ∧ c = 12) ∨ ((c == c') = true ∧ (q == q') = false ∧ c = 12) := by
  rcases h with ⟨rfl, rfl⟩ | rfl
  · exact .inl ⟨by simp, by simp⟩
  · by_cases h1 : (12 : Int) = c'
    · subst h1
      by_cases h2 : q = q'
      · subst h2; exact .inl ⟨by simp, by simp⟩
      · exact .inr (.inr ⟨by simp, by simpa using h2, rfl⟩)
    · exact .inr (.inl ⟨by simpa using h1, rfl⟩)
set_option maxHeartbeats 8000000 in
theorem walk {H : Type} (enc : TypeId × Value → H) (w : World) (base : Nat) (v0 : Value) (d0 : DataW H) (p0 : List MemPlace) (g0 : Value.okWide Tryz.prog w .any base 28 v0) (h0 : DataW.Trod enc Tryz.prog w 0 (fun _ => true) true 28 v0 d0 p0) :
    Calls Tryz.prog 6 #[v0] w fun e w' => e = .returned (.bool true) ∧ Below w.heap.size w w' := by
  obtain ⟨A, n, m, z, rfl, hnm, hz, hby, hA⟩ := open_bytes g0 h0
  clear g0 h0
  by_cases h300 : 300 < n
  · have hbd := Below.refl w.heap.size w
    clear hz hby hA
    go_enter Tryz.func6, Tryz.ntmps6
    go_wp2_with fail
    refine (live25_any _).mono ?_
    rintro e wl ⟨rfl, hbl⟩
    replace hbd := hbd.trans (hbl.mono hbd.size)
    go_wp2
    go_ret
    exact ⟨rfl, hbd⟩
  have hn : ¬ (300 : Int) < (n : Int) := by omega
  have HG := great_any A n m z w hz hby (by omega)
  unfold GrPost at HG
  have HBY := Lib.hid hby
  have HZ := Lib.hid hz
  have hdc := dec_cases hby
  rw [hz.1] at hdc
  have hDS := fun w' (h : Below w.heap.size w w') (ng : NoGr z) => bdecode_any A n m z w' (hz.below h) hnm (by omega) hby (fun _ => nogr_few ng hby _ _) (fun _ => nogr_KS ng hby _)
  have hDL := fun w' (h : Below w.heap.size w w') (ng : NoGr z) => bdecodeloose_any A n m z w' (hz.below h) hnm (by omega) hby (fun _ => nogr_few ng hby _ _) (fun _ => nogr_KL ng hby _)
  unfold BdPost at hDS
  unfold BzPost at hDL
  clear h300 hz hby hA
  rcases hdc with ⟨⟨E, b0, L⟩, hok, hzb, d1, d2⟩ | ⟨⟨E, b0, L⟩, q, hok, d1, d2⟩ | ⟨c, q, c', q', d1, d2, hc0, hc0', hcc⟩
  · rw [d1] at hDS
    rw [d2] at hDL
    dsimp only at hDS hDL
    have HDS := Lib.hid hDS
    have HDL := Lib.hid hDL
    have HOK := Lib.hid hok
    have HZB := Lib.hid hzb
    clear d1 d2 hDS hDL hok hzb
    go_enter Tryz.func6, Tryz.ntmps6
    go_wp2_with fail
    refine HG.mono ?_
    rintro e w1 ⟨gb, rfl, hb1, hng⟩
    clear HG
    cases gb
    case true =>
      have hbd := hb1
      clear hng hb1
      go_wp2_with fail
      refine (live25_any _).mono ?_
      rintro e wl ⟨rfl, hbl⟩
      replace hbd := hbd.trans (hbl.mono hbd.size)
      go_wp2
      go_ret
      exact ⟨rfl, hbd⟩
    have hDS := fun w' h => HDS.out w' h (hng rfl)
    have HDL2 := Lib.hid (fun w' h => HDL.out w' h (hng rfl))
    clear hng HDS HDL
    go_wp2_with fail
    refine (hDS _ hb1).mono ?_
    rintro e w2 ⟨A2, N2, m2, rfl, hb2, hE2, hN2, hsm2⟩
    replace hE2 := hE2.mono (Q := fun b => b < w2.heap.size) (fun b _ h => h)
    have hX := (Blk.new w2 (btenc E b0 A2 N2 m2) 25).alloc (.cells #[.int .i64 0, .int .i64 0] 48)
    have hY := Blk.new (w2.alloc (.cells (btenc E b0 A2 N2 m2) 25)) #[.int .i64 0, .int .i64 0] 48
    rw [World.size_alloc] at hY
    have hbx := below_two w2 (.cells (btenc E b0 A2 N2 m2) 25) (.cells #[.int .i64 0, .int .i64 0] 48)
    have hbd := hb1.trans (hb2.mono hb1.size)
    replace hbd := hbd.trans (hbx.mono hbd.size)
    replace hE2 := hE2.below hbx
    clear hb1 hb2 hDS
    have hbw2 : w2.heap.size ≤ ((w2.alloc (.cells (btenc E b0 A2 N2 m2) 25)).alloc (.cells #[.int .i64 0, .int .i64 0] 48)).heap.size := hbx.size
    clear hbx
    go_wp2_with fail
    generalize (w2.alloc (.cells (btenc E b0 A2 N2 m2) 25)).alloc (.cells #[.int .i64 0, .int .i64 0] 48) = w3 at *
    refine (HDL2.out _ hbd).mono ?_
    rintro e w4 ⟨A4, N4, m4, rfl, hb4, hE4, hN4, hsm4⟩
    replace hX := hX.below hb4
    replace hY := hY.below hb4
    replace hE2 := hE2.below hb4
    replace hbd := hbd.trans (hb4.mono hbd.size)
    replace hE2 := hE2.mono (Q := fun b => b < w4.heap.size) (fun b _ h => h)
    have hX3 := hX
    have hY3 := hY
    clear hb4 hbw2 hX hY HDL2
    have hX := (Blk.new w4 (btenc E b0 A4 N4 m4) 25).alloc (.cells #[.int .i64 0, .int .i64 0] 48)
    have hY := Blk.new (w4.alloc (.cells (btenc E b0 A4 N4 m4) 25)) #[.int .i64 0, .int .i64 0] 48
    rw [World.size_alloc] at hY
    have hbx := below_two w4 (.cells (btenc E b0 A4 N4 m4) 25) (.cells #[.int .i64 0, .int .i64 0] 48)
    replace hX3 := hX3.below hbx
    replace hY3 := hY3.below hbx
    replace hE2 := hE2.below hbx
    replace hE4 := hE4.below hbx
    replace hbd := hbd.trans (hbx.mono hbd.size)
    have hb5 := hbx.size
    have hP : ∀ b', b' < w4.heap.size → b' < ((w4.alloc (.cells (btenc E b0 A4 N4 m4) 25)).alloc (.cells #[.int .i64 0, .int .i64 0] 48)).heap.size := fun b' h => by omega
    obtain ⟨o1, o2, o3, o4, o5, o6, o7, o8⟩ := HOK.out
    dsimp only at o3 o4 o5 o6
    have hjl := jn_esm hsm2
    rw [hE2.1] at hjl
    have hBY := bbytes_any (fun b' => b' < w4.heap.size) E b0 A2 N2 m2 L _ hE2 hP (by omega) hsm2 o3 o4 o5 o6 (by omega)
    unfold BbyPost at hBY
    have HRR := Lib.hid (fun w' (h : Below _ _ w') => rbright_any _ E b0 A2 N2 m2 L w' (hE2.below h) (by omega) hsm2 o3 o5 o6)
    have HSA := Lib.hid (fun w' (h : Below _ _ w') => rsame25_any _ _ E b0 E b0 A4 A2 N4 m4 N2 m2 L L w' (hE4.below h) (hE2.below h) (by omega) (by omega) hsm4 hsm2)
    rw [HOK.out.btk] at HRR
    rw [decide_eq_true rfl] at HSA
    unfold BPost at HRR HSA
    have HX3 := Lib.hid hX3
    have HY3 := Lib.hid hY3
    have HX := Lib.hid hX
    have HY := Lib.hid hY
    obtain ⟨x0, x1, x2⟩ := hX3.c3
    obtain ⟨y0, y1⟩ := hY3.c2
    clear hX3 hY3 hX hY hbx hE2 hE4 o1 o2 o3 o4 o5 o6 o7 o8 hP hjl hsm2 hsm4 hb5
    go_wp2_with fail
    generalize (w4.alloc (.cells (btenc E b0 A4 N4 m4) 25)).alloc (.cells #[.int .i64 0, .int .i64 0] 48) = w5 at *
    refine hBY.mono ?_
    rintro e w6 ⟨hb6, ⟨_, g, rfl, hg, hbs⟩ | ⟨hno, _⟩⟩
    case inr => exact absurd (HOK.out.btk.symm.trans hno) (by decide)
    replace hbd := hbd.trans (hb6.mono hbd.size)
    clear x0 x1 x2 y0 y1 hBY
    obtain ⟨x0, x1, x2⟩ := (HX3.out.below hb6).c3
    go_wp2_with fail
    refine (HRR.out _ hb6).mono ?_
    rintro e w7 ⟨rfl, hb7⟩
    replace hbd := hbd.trans (hb7.mono hbd.size)
    replace hbs := hbs.below hb7
    replace hb6 := hb6.trans (hb7.mono hb6.size)
    clear x0 x1 x2 hb7 HRR
    have hzz := HZ.out.below hbd
    rw [← HZB.out] at hbs
    rw [← HZB.out]
    go_wp2_with fail
    refine (same_any _ _ _ _ _ _ z _ hbs hzz).mono ?_
    rintro e w8 ⟨rfl, rfl⟩
    clear hbs hzz
    obtain ⟨x0, x1, x2⟩ := (HX3.out.below hb6).c3
    obtain ⟨u0, u1, u2⟩ := (HX.out.below hb6).c3
    obtain ⟨v0, v1⟩ := (HY.out.below hb6).c2
    go_wp2_with fail
    refine (HSA.out _ hb6).mono ?_
    rintro e w9 ⟨rfl, hb9⟩
    replace hbd := hbd.trans (hb9.mono hbd.size)
    clear x0 x1 x2 u0 u1 u2 v0 v1 hb9 hb6
    go_wp2_with fail
    refine (live25_any _).mono ?_
    rintro e wl ⟨rfl, hbl⟩
    replace hbd := hbd.trans (hbl.mono hbd.size)
    go_wp2
    go_ret
    exact ⟨rfl, hbd⟩
  · rw [d1] at hDS
    rw [d2] at hDL
    unfold bt0 at hDS
    dsimp only at hDS hDL
    have HDS := Lib.hid hDS
    have HDL := Lib.hid hDL
    have HOK := Lib.hid hok
    clear d1 d2 hDS hDL hok
    go_enter Tryz.func6, Tryz.ntmps6
    go_wp2_with fail
    refine HG.mono ?_
    rintro e w1 ⟨gb, rfl, hb1, hng⟩
    clear HG
    cases gb
    case true =>
      have hbd := hb1
      clear hng hb1
      go_wp2_with fail
      refine (live25_any _).mono ?_
      rintro e wl ⟨rfl, hbl⟩
      replace hbd := hbd.trans (hbl.mono hbd.size)
      go_wp2
      go_ret
      exact ⟨rfl, hbd⟩
    have hDS := fun w' h => HDS.out w' h (hng rfl)
    have HDL2 := Lib.hid (fun w' h => HDL.out w' h (hng rfl))
    clear hng HDS HDL
    go_wp2_with fail
    refine (hDS _ hb1).mono ?_
    rintro e w2 ⟨A2, N2, m2, rfl, hb2, hE2, hN2, hsm2⟩
    replace hE2 := hE2.mono (Q := fun b => b < w2.heap.size) (fun b _ h => h)
    have hX := (Blk.new w2 (btenc 0 0 A2 N2 m2) 25).alloc (.cells #[.int .i64 12, .int .i64 q] 48)
    have hY := Blk.new (w2.alloc (.cells (btenc 0 0 A2 N2 m2) 25)) #[.int .i64 12, .int .i64 q] 48
    rw [World.size_alloc] at hY
    have hbx := below_two w2 (.cells (btenc 0 0 A2 N2 m2) 25) (.cells #[.int .i64 12, .int .i64 q] 48)
    have hbd := hb1.trans (hb2.mono hb1.size)
    replace hbd := hbd.trans (hbx.mono hbd.size)
    clear hb1 hb2 hDS hE2 hN2 hsm2 hbx
    go_wp2_with fail
    generalize (w2.alloc (.cells (btenc 0 0 A2 N2 m2) 25)).alloc (.cells #[.int .i64 12, .int .i64 q] 48) = w3 at *
    refine (HDL2.out _ hbd).mono ?_
    rintro e w4 ⟨A4, N4, m4, rfl, hb4, hE4, hN4, hsm4⟩
    replace hX := hX.below hb4
    replace hY := hY.below hb4
    replace hbd := hbd.trans (hb4.mono hbd.size)
    have hX3 := hX
    have hY3 := hY
    clear hb4 hX hY HDL2
    have hX := (Blk.new w4 (btenc E b0 A4 N4 m4) 25).alloc (.cells #[.int .i64 0, .int .i64 0] 48)
    have hY := Blk.new (w4.alloc (.cells (btenc E b0 A4 N4 m4) 25)) #[.int .i64 0, .int .i64 0] 48
    rw [World.size_alloc] at hY
    have hbx := below_two w4 (.cells (btenc E b0 A4 N4 m4) 25) (.cells #[.int .i64 0, .int .i64 0] 48)
    replace hX3 := hX3.below hbx
    replace hY3 := hY3.below hbx
    replace hE4 := hE4.below hbx
    replace hbd := hbd.trans (hbx.mono hbd.size)
    obtain ⟨o1, o2, o3, o4, o5, o6, o7, o8⟩ := HOK.out
    dsimp only at o3 o4 o5 o6
    have hRR := rbright_any _ E b0 A4 N4 m4 L _ hE4 (by omega) hsm4 o3 o5 o6
    rw [HOK.out.btk] at hRR
    unfold BPost at hRR
    obtain ⟨y0, y1⟩ := hY3.c2
    obtain ⟨u0, u1, u2⟩ := hX.c3
    obtain ⟨v0, v1⟩ := hY.c2
    clear hX3 hY3 hX hY hbx hE4 o1 o2 o3 o4 o5 o6 o7 o8 hsm4
    go_wp2_with fail
    generalize (w4.alloc (.cells (btenc E b0 A4 N4 m4) 25)).alloc (.cells #[.int .i64 0, .int .i64 0] 48) = w5 at *
    refine hRR.mono ?_
    rintro e w6 ⟨rfl, hb6⟩
    replace hbd := hbd.trans (hb6.mono hbd.size)
    clear y0 y1 u0 u1 u2 v0 v1 hRR hb6
    go_wp2_with fail
    refine (live25_any _).mono ?_
    rintro e wl ⟨rfl, hbl⟩
    replace hbd := hbd.trans (hbl.mono hbd.size)
    go_wp2
    go_ret
    exact ⟨rfl, hbd⟩
  · rw [d1] at hDS
    rw [d2] at hDL
    unfold bt0 at hDS hDL
    dsimp only at hDS hDL
    have HDS := Lib.hid hDS
    have HDL := Lib.hid hDL
    have HCC := Lib.hid (onc_c hcc)
    have hz1 : (c == 0) = false := by simpa using hc0
    have hz2 : (c' == 0) = false := by simpa using hc0'
    clear d1 d2 hDS hDL hcc
    go_enter Tryz.func6, Tryz.ntmps6
    go_wp2_with fail
    refine HG.mono ?_
    rintro e w1 ⟨gb, rfl, hb1, hng⟩
    clear HG
    cases gb
    case true =>
      have hbd := hb1
      clear hng hb1
      go_wp2_with fail
      refine (live25_any _).mono ?_
      rintro e wl ⟨rfl, hbl⟩
      replace hbd := hbd.trans (hbl.mono hbd.size)
      go_wp2
      go_ret
      exact ⟨rfl, hbd⟩
    have hDS := fun w' h => HDS.out w' h (hng rfl)
    have HDL2 := Lib.hid (fun w' h => HDL.out w' h (hng rfl))
    clear hng HDS HDL
    go_wp2_with fail
    refine (hDS _ hb1).mono ?_
    rintro e w2 ⟨A2, N2, m2, rfl, hb2, hE2, hN2, hsm2⟩
    replace hE2 := hE2.mono (Q := fun b => b < w2.heap.size) (fun b _ h => h)
    obtain rfl : N2 = 0 := hE2.1.symm
    have hX := (Blk.new w2 (btenc 0 0 A2 0 m2) 25).alloc (.cells #[.int .i64 c, .int .i64 q] 48)
    have hY := Blk.new (w2.alloc (.cells (btenc 0 0 A2 0 m2) 25)) #[.int .i64 c, .int .i64 q] 48
    rw [World.size_alloc] at hY
    have hbx := below_two w2 (.cells (btenc 0 0 A2 0 m2) 25) (.cells #[.int .i64 c, .int .i64 q] 48)
    have hbd := hb1.trans (hb2.mono hb1.size)
    replace hbd := hbd.trans (hbx.mono hbd.size)
    clear hb1 hb2 hDS hE2 hN2 hsm2 hbx
    go_wp2_with fail
    generalize (w2.alloc (.cells (btenc 0 0 A2 0 m2) 25)).alloc (.cells #[.int .i64 c, .int .i64 q] 48) = w3 at *
    refine (HDL2.out _ hbd).mono ?_
    rintro e w4 ⟨A4, N4, m4, rfl, hb4, hE4, hN4, hsm4⟩
    obtain rfl : N4 = 0 := hE4.1.symm
    replace hX := hX.below hb4
    replace hY := hY.below hb4
    replace hbd := hbd.trans (hb4.mono hbd.size)
    have hX3 := hX
    have hY3 := hY
    clear hb4 hX hY HDL2 hE4 hN4 hsm4
    have hX := (Blk.new w4 (btenc 0 0 A4 0 m4) 25).alloc (.cells #[.int .i64 c', .int .i64 q'] 48)
    have hY := Blk.new (w4.alloc (.cells (btenc 0 0 A4 0 m4) 25)) #[.int .i64 c', .int .i64 q'] 48
    rw [World.size_alloc] at hY
    have hbx := below_two w4 (.cells (btenc 0 0 A4 0 m4) 25) (.cells #[.int .i64 c', .int .i64 q'] 48)
    replace hX3 := hX3.below hbx
    replace hY3 := hY3.below hbx
    replace hbd := hbd.trans (hbx.mono hbd.size)
    obtain ⟨x0, x1, x2⟩ := hX3.c3
    obtain ⟨y0, y1⟩ := hY3.c2
    obtain ⟨u0, u1, u2⟩ := hX.c3
    obtain ⟨v0, v1⟩ := hY.c2
    clear hX3 hY3 hX hY hbx hc0 hc0'
    rcases HCC.out with ⟨s1, s2⟩ | ⟨s1, rfl⟩ | ⟨s1, s2, rfl⟩
    · clear HCC
      go_wp2_with fail
      refine (live25_any _).mono ?_
      rintro e wl ⟨rfl, hbl⟩
      replace hbd := hbd.trans (hbl.mono hbd.size)
      go_wp2
      go_ret
      exact ⟨rfl, hbd⟩
    · clear HCC
      go_wp2_with fail
      refine (live25_any _).mono ?_
      rintro e wl ⟨rfl, hbl⟩
      replace hbd := hbd.trans (hbl.mono hbd.size)
      go_wp2
      go_ret
      exact ⟨rfl, hbd⟩
    · clear HCC
      go_wp2_with fail
      refine (live25_any _).mono ?_
      rintro e wl ⟨rfl, hbl⟩
      replace hbd := hbd.trans (hbl.mono hbd.size)
      go_wp2
      go_ret
      exact ⟨rfl, hbd⟩
set_option maxRecDepth 100000 in
theorem lifted (os : Os) (started : os.Started) (H : Type) (enc : TypeId × Value → H) :
    ReturnsInHanded {} Tryz.checked os 6 .any (Rows.batchOnceSpec.pre6 enc Tryz.prog Tryz.f6 Rows.batchOnceRow.domain false) (Rows.batchOnceSpec.post enc Tryz.prog Tryz.f6 false true false false) := by
  refine returnsInHanded_of_change (C := Tryz.checked) own started (by kernel_rfl) Tryz.func6
    (ChangeSpec.witness6 (enc := enc) (C := Tryz.checked) false ⟨#[], #[.slice none 0 0], []⟩ 8 (by kernel_rfl) (by kernel_rfl) (by kernel_rfl) (by kernel_rfl)) ?_
  intro W base args ds gs before hval0 hW hcnd _
  have hval : ∀ (j : Nat) t v, Tryz.f6.params[j]? = some t → args[j]? = some v → Value.okWide Tryz.prog W .any base t v := hval0
  have hW' := hW
  obtain ⟨p, q, hA0, hV, rfl, hfz, hnd⟩ := hW
  have hA : DataW.TrodAll enc Tryz.prog W 0 (fun _ => true) true Tryz.f6.params.toList args.toList ds p := hA0
  rw [Tryz.params6] at hA hval
  obtain ⟨v0, vs0, d0, ds0, p0, q0, hargs, rfl, rfl, h0, r0⟩ := trodAll_cons hA
  obtain ⟨rfl, rfl, rfl⟩ := trodAll_nil r0
  obtain rfl : args = #[v0] := by cases args; simp_all
  obtain ⟨rfl, rfl⟩ := trodVars_none hV
  have lt0 : ∀ x ∈ p0, x.block < W.heap.size := by obtain ⟨m, hm⟩ := h0; exact DataW.trod_lt m _ _ _ hm
  clear hA0 hval0
  refine (walk enc W base v0 d0 p0 (hval 0 28 v0 rfl rfl) h0).mono fun e W' ⟨he, bel⟩ => ?_
  subst he
  exact ⟨_, rfl, _, _, _, [], _, [], hW', trodAll_mk1 (shut_bool Tryz.underlying4 _), (trodAll_cons_mk (Below.trod laidOut (by kernel_rfl) (of_decide_eq_true (by kernel_rfl)) h0 bel lt0) trodAll_mk0), rfl, bel.frame _, fun h => by cases h⟩
theorem over : Rows.batchOnceRow.holds Tryz.pinned (OpenSpec.ofChange Rows.batchOnceSpec) :=
  OpenClaim.holds_of_wide 6 Tryz.f6 rfl rfl rfl rfl rfl rfl rfl ⟨rfl, rfl, rfl, rfl, rfl⟩ rfl rfl rfl rfl rfl (by kernel_rfl) Tryz.func6 (by kernel_rfl)
    (of_decide_eq_true (by kernel_rfl)) (by unfold Func.isWrapper; first | (rw [if_pos (by decide +kernel)]; kernel_rfl) | (rw [if_neg (by decide +kernel)]; exact ⟨rfl, rfl⟩))
    (fun os started H enc _ => lifted os started H enc)
theorem proved : Rows.BatchOnceSaid := over
#print axioms proved
end Go.Proofs.YtlealkfkddhnnaaGreat.batchOnce
