/- ExpandTokens: called with any tokens and any bound, the law returns true; no condition. -/
import Derived.Test.YtmpbiobbjnhjcaaRows
import Derived.Test.YtmpbiobbjnhjcaaExpF
import Derived.ProofKit
import Derived.OpenShut
import Derived.ShutString
import Derived.ChangeOld
namespace Go.Proofs.Ytmpbiobbjnhjcaa.expandTokens
open Go.ChangeShapes Go.WideShapes Go.ChangeAt Go.RowKit
open Go.ChangeMaps (open_string shut_string)
set_option linter.unusedVariables false

theorem own : ownKnob Try.prog.godebug = none := by kernel_rfl
theorem laidOut : laidOutB Try.prog = true := by kernel_rfl
open Cur Mem



set_option maxRecDepth 100000 in
set_option maxHeartbeats 4000000 in
theorem walk {H : Type} (enc : TypeId × Value → H) (w : World) (base : Nat) (v0 : Value) (d0 : DataW H) (p0 : List MemPlace) (g0 : Value.okWide Try.prog w .any base 22 v0) (h0 : DataW.Trod enc Try.prog w 0 (fun _ => true) true 22 v0 d0 p0) (v1 : Value) (d1 : DataW H) (p1 : List MemPlace) (g1 : Value.okWide Try.prog w .any base 3 v1) (h1 : DataW.Trod enc Try.prog w 0 (fun _ => true) true 3 v1 d1 p1) :
    Calls Try.prog 3 #[v0, v1] w fun e w' => e = .returned (.bool true) ∧ Below w.heap.size w w' := by
  obtain ⟨A, n, m, T, rfl, hnm, hT, hok, hA⟩ := open_tokens g0 h0
  obtain ⟨bo, rfl, bo0, bo1⟩ := open_i64 g1 h1
  clear g0 h0 g1 h1
  have hbd := Below.refl w.heap.size w
  go_enter Try.func3, Try.ntmps3
  go_wp2_with fail
  refine (tlong_any _ _ _ _ _ hT).mono ?_
  rintro e w1 ⟨rfl, rfl⟩
  cases hl : tlong T
  rotate_left
  · clear hl
    go_wp2_with fail
    refine (live12_any _).mono ?_
    rintro e w15 ⟨rfl, hb15⟩
    go_wp2
    go_ret
    exact ⟨rfl, hbd.trans (hb15.mono hbd.size)⟩
  obtain ⟨hl1, hl2⟩ := tlong_no hl
  have hTl := hT.1
  have hn100 : n ≤ 100 := by omega
  have HOK := Lib.hid hok
  have HT := Lib.hid hT
  clear hl hok hA hl2 hl1 hT
  by_cases h5 : 5000 < bo
  · have h2 := fun w' (h : TksL w' A n T) => rtokens_any A n m T (5000) w' h HOK.out (by omega) (by omega)
    have h1 := etokens_any A n m T (5000) w HT.out HOK.out (by omega) (by omega)
    have hnil := xp_nil (own := fun k => (T.getD k tk0).1) (d := 0) (f := id) (T := T) (bound := 5000) (k := n)
    have htot := xp_tot (own := fun k => (T.getD k tk0).1) (d := 0) (f := id) (T := T) (bound := 5000) (fun k => rfl) (k := n)
    obtain ⟨y, c, q, hg⟩ : ∃ y c q, xpb T (5000) n = (y, c, q) := ⟨_, _, _, rfl⟩
    rw [hg] at h1 h2
    rw [show xp (fun k => (T.getD k tk0).1) 0 id T (5000) n = (y, c, q) from hg] at hnil htot
    simp only at h1 h2 hnil htot
    have HTOT := Lib.hid htot
    have HNIL := Lib.hid hnil
    have HH2 := Lib.hid h2
    have hlm : (y.length : Int) ≤ max (5000) 0 := by
      by_cases hc : c = 0
      · exact (HTOT.out hc).2
      · rw [HNIL.out hc]; simp; omega
    clear hnil htot hg h2
    skip
    go_wp2_with fail
    refine h1.mono ?_
    rintro e w1 ⟨v1, rfl, ho1, hb1⟩
    obtain ⟨A1, c1, rfl⟩ := ho1.slice
    have hbs1 := ho1.bs.2
    have hX1 := Blk.new w1 #[.int .i64 c, .int .i64 q] 28
    have hbX := below_one w1 (.cells #[.int .i64 c, .int .i64 q] 28)
    replace hbs1 := hbs1.below hbX
    replace hbd := hb1.trans (hbX.mono hb1.size)
    have h2 := HH2.out _ (HT.out.below hbd)
    clear hb1 hbX ho1 h1 HH2
    go_wp2_with fail
    refine h2.mono ?_
    rintro e w2 ⟨v2, rfl, ho2, hb2⟩
    obtain ⟨A2, c2, rfl⟩ := ho2.slice
    have hbs2 := ho2.bs.2
    have hX2 := Blk.new w2 #[.int .i64 c, .int .i64 q] 28
    have hbX := below_one w2 (.cells #[.int .i64 c, .int .i64 q] 28)
    replace hX1 := (hX1.below hb2).below hbX
    replace hbs1 := (hbs1.below hb2).below hbX
    replace hbs2 := hbs2.below hbX
    replace hbd := (hbd.trans (hb2.mono hbd.size))
    replace hbd := hbd.trans (hbX.mono hbd.size)
    obtain ⟨x0, x1⟩ := hX1.c2
    obtain ⟨y0, y1⟩ := hX2.c2
    simp only at hbs1 hbs2
    clear hb2 hbX ho2 hX2 h2
    go_wp2_with fail
    refine (same_any _ _ _ _ _ _ _ _ hbs1 hbs2).mono ?_
    rintro e w3 ⟨rfl, rfl⟩
    clear hbs1 hbs2
    have e0 : (c != c) = false := by simp
    have e1 : (q != q) = false := by simp
    have hng : ¬ ((5000 : Int) < (y.length : Int)) := by first | exact trivial | omega
    by_cases hc : c = 0
    · subst hc
      have htt := (HTOT.out rfl).1
      have HTT := Lib.hid htt
      clear htt
      clear HTOT hlm
      have HOLD := Lib.hid hbd
      go_wp2
      generalize w2.alloc (.cells #[.int .i64 0, .int .i64 q] 28) = w4 at *
      go_loopw [9, 10] (fun t i wr => ∃ k : Nat, k ≤ n ∧ i = .int .i64 k ∧ t = .int .i64 (ttot T k) ∧ Below w4.heap.size w4 wr) (fun _ i _ => n - (intOf i).toNat)
      case atStart => exact ⟨0, by omega, rfl, rfl, Below.refl _ _⟩
      case round =>
        obtain ⟨k, hk, rfl, rfl, hb⟩ := hrel
        clear x0 x1 y0 y1 e0 e1 hng
        by_cases hlt : k < n
        · have hbr := HOLD.out.trans (hb.mono HOLD.out.size)
          obtain ⟨b, o, Ar, Lr, Cr, rfl, ⟨c0, c1', c2', hlit⟩, hnl, hle⟩ := (HT.out.below hbr).2 k hlt
          have HNX : Hid (ttot T (k + 1) = ttot T k + tsz Lr (T.getD k tk0).2.1 (T.getD k tk0).2.2) := Lib.hid (by rw [← hlit.1]; rfl)
          have h1 := ttot_bd T k
          have h2 := tsz_bd Lr (T.getD k tk0).2.1 (T.getD k tk0).2.2
          clear hlit hnl
          generalize T.getD k tk0 = t at *
          obtain ⟨sz, hsz⟩ : ∃ sz, sz = tsz Lr t.2.1 t.2.2 := ⟨_, rfl⟩
          rw [← hsz] at h2
          have HSZ := Lib.hid hsz
          have e3 : IntKind.i64.wrap (ttot T k + sz) = ttot T k + sz := IntWalk.i64_in _ (by omega)
          clear hsz
          go_wp2_with fail
          refine (rtlen_any _ _ _ _ _ _).mono ?_
          rintro e w14 ⟨rfl, hb14⟩
          rw [← HSZ.out]
          replace hb := hb.trans (hb14.mono hb.size)
          clear hb14 c0 c1' c2' h1 h2
          go_wp2
          go_roundw
          case rel => exact ⟨k + 1, hlt, by go_num, by rw [HNX.out, HSZ.out], hb⟩
          case measure => simp [intOf]; omega
        · obtain rfl : k = n := by omega
          replace hbd := hbd.trans (hb.mono hbd.size)
          have htt := HTT.out
          have hee := beq_iff_eq.2 htt

          clear hb htt
          go_wp2_with fail
          refine (live12_any _).mono ?_
          rintro e w15 ⟨rfl, hb15⟩
          go_wp2
          go_ret
          exact ⟨rfl, hbd.trans (hb15.mono hbd.size)⟩
    · try (obtain rfl := HNIL.out hc)
      have hcb : (c != 0) = true := by simpa using hc
      clear hc
      go_wp2_with fail
      refine (live12_any _).mono ?_
      rintro e w15 ⟨rfl, hb15⟩
      go_wp2
      go_ret
      exact ⟨rfl, hbd.trans (hb15.mono hbd.size)⟩
  · by_cases hb0 : bo < 0
    · have h2 := fun w' (h : TksL w' A n T) => rtokens_any A n m T (bo) w' h HOK.out (by omega) (by omega)
      have h1 := etokens_any A n m T (bo) w HT.out HOK.out (by omega) (by omega)
      have hnil := xp_nil (own := fun k => (T.getD k tk0).1) (d := 0) (f := id) (T := T) (bound := bo) (k := n)
      have htot := xp_tot (own := fun k => (T.getD k tk0).1) (d := 0) (f := id) (T := T) (bound := bo) (fun k => rfl) (k := n)
      obtain ⟨y, c, q, hg⟩ : ∃ y c q, xpb T (bo) n = (y, c, q) := ⟨_, _, _, rfl⟩
      rw [hg] at h1 h2
      rw [show xp (fun k => (T.getD k tk0).1) 0 id T (bo) n = (y, c, q) from hg] at hnil htot
      simp only at h1 h2 hnil htot
      have HTOT := Lib.hid htot
      have HNIL := Lib.hid hnil
      have HH2 := Lib.hid h2
      have hlm : (y.length : Int) ≤ max (bo) 0 := by
        by_cases hc : c = 0
        · exact (HTOT.out hc).2
        · rw [HNIL.out hc]; simp; omega
      clear hnil htot hg h2
      obtain rfl : y = [] := List.length_eq_zero_iff.1 (by omega)
      go_wp2_with fail
      refine h1.mono ?_
      rintro e w1 ⟨v1, rfl, ho1, hb1⟩
      obtain ⟨A1, c1, rfl⟩ := ho1.slice
      have hbs1 := ho1.bs.2
      have hX1 := Blk.new w1 #[.int .i64 c, .int .i64 q] 28
      have hbX := below_one w1 (.cells #[.int .i64 c, .int .i64 q] 28)
      replace hbs1 := hbs1.below hbX
      replace hbd := hb1.trans (hbX.mono hb1.size)
      have h2 := HH2.out _ (HT.out.below hbd)
      clear hb1 hbX ho1 h1 HH2
      go_wp2_with fail
      refine h2.mono ?_
      rintro e w2 ⟨v2, rfl, ho2, hb2⟩
      obtain ⟨A2, c2, rfl⟩ := ho2.slice
      have hbs2 := ho2.bs.2
      have hX2 := Blk.new w2 #[.int .i64 c, .int .i64 q] 28
      have hbX := below_one w2 (.cells #[.int .i64 c, .int .i64 q] 28)
      replace hX1 := (hX1.below hb2).below hbX
      replace hbs1 := (hbs1.below hb2).below hbX
      replace hbs2 := hbs2.below hbX
      replace hbd := (hbd.trans (hb2.mono hbd.size))
      replace hbd := hbd.trans (hbX.mono hbd.size)
      obtain ⟨x0, x1⟩ := hX1.c2
      obtain ⟨y0, y1⟩ := hX2.c2
      simp only at hbs1 hbs2
      clear hb2 hbX ho2 hX2 h2
      go_wp2_with fail
      refine (same_any _ _ _ _ _ _ _ _ hbs1 hbs2).mono ?_
      rintro e w3 ⟨rfl, rfl⟩
      clear hbs1 hbs2
      have e0 : (c != c) = false := by simp
      have e1 : (q != q) = false := by simp
      have hng : True := by first | exact trivial | omega
      by_cases hc : c = 0
      · subst hc
        have htt := (HTOT.out rfl).1
        have HTT := Lib.hid htt
        clear htt
        clear HTOT hlm
        have HOLD := Lib.hid hbd
        go_wp2
        generalize w2.alloc (.cells #[.int .i64 0, .int .i64 q] 28) = w4 at *
        go_loopw [9, 10] (fun t i wr => ∃ k : Nat, k ≤ n ∧ i = .int .i64 k ∧ t = .int .i64 (ttot T k) ∧ Below w4.heap.size w4 wr) (fun _ i _ => n - (intOf i).toNat)
        case atStart => exact ⟨0, by omega, rfl, rfl, Below.refl _ _⟩
        case round =>
          obtain ⟨k, hk, rfl, rfl, hb⟩ := hrel
          clear x0 x1 y0 y1 e0 e1 hng
          by_cases hlt : k < n
          · have hbr := HOLD.out.trans (hb.mono HOLD.out.size)
            obtain ⟨b, o, Ar, Lr, Cr, rfl, ⟨c0, c1', c2', hlit⟩, hnl, hle⟩ := (HT.out.below hbr).2 k hlt
            have HNX : Hid (ttot T (k + 1) = ttot T k + tsz Lr (T.getD k tk0).2.1 (T.getD k tk0).2.2) := Lib.hid (by rw [← hlit.1]; rfl)
            have h1 := ttot_bd T k
            have h2 := tsz_bd Lr (T.getD k tk0).2.1 (T.getD k tk0).2.2
            clear hlit hnl
            generalize T.getD k tk0 = t at *
            obtain ⟨sz, hsz⟩ : ∃ sz, sz = tsz Lr t.2.1 t.2.2 := ⟨_, rfl⟩
            rw [← hsz] at h2
            have HSZ := Lib.hid hsz
            have e3 : IntKind.i64.wrap (ttot T k + sz) = ttot T k + sz := IntWalk.i64_in _ (by omega)
            clear hsz
            go_wp2_with fail
            refine (rtlen_any _ _ _ _ _ _).mono ?_
            rintro e w14 ⟨rfl, hb14⟩
            rw [← HSZ.out]
            replace hb := hb.trans (hb14.mono hb.size)
            clear hb14 c0 c1' c2' h1 h2
            go_wp2
            go_roundw
            case rel => exact ⟨k + 1, hlt, by go_num, by rw [HNX.out, HSZ.out], hb⟩
            case measure => simp [intOf]; omega
          · obtain rfl : k = n := by omega
            replace hbd := hbd.trans (hb.mono hbd.size)
            have htt := HTT.out
            have hee := beq_iff_eq.2 htt

            clear hb htt
            go_wp2_with fail
            refine (live12_any _).mono ?_
            rintro e w15 ⟨rfl, hb15⟩
            go_wp2
            go_ret
            exact ⟨rfl, hbd.trans (hb15.mono hbd.size)⟩
      · try (obtain rfl := HNIL.out hc)
        have hcb : (c != 0) = true := by simpa using hc
        clear hc
        go_wp2_with fail
        refine (live12_any _).mono ?_
        rintro e w15 ⟨rfl, hb15⟩
        go_wp2
        go_ret
        exact ⟨rfl, hbd.trans (hb15.mono hbd.size)⟩
    · have h2 := fun w' (h : TksL w' A n T) => rtokens_any A n m T (bo) w' h HOK.out (by omega) (by omega)
      have h1 := etokens_any A n m T (bo) w HT.out HOK.out (by omega) (by omega)
      have hnil := xp_nil (own := fun k => (T.getD k tk0).1) (d := 0) (f := id) (T := T) (bound := bo) (k := n)
      have htot := xp_tot (own := fun k => (T.getD k tk0).1) (d := 0) (f := id) (T := T) (bound := bo) (fun k => rfl) (k := n)
      obtain ⟨y, c, q, hg⟩ : ∃ y c q, xpb T (bo) n = (y, c, q) := ⟨_, _, _, rfl⟩
      rw [hg] at h1 h2
      rw [show xp (fun k => (T.getD k tk0).1) 0 id T (bo) n = (y, c, q) from hg] at hnil htot
      simp only at h1 h2 hnil htot
      have HTOT := Lib.hid htot
      have HNIL := Lib.hid hnil
      have HH2 := Lib.hid h2
      have hlm : (y.length : Int) ≤ max (bo) 0 := by
        by_cases hc : c = 0
        · exact (HTOT.out hc).2
        · rw [HNIL.out hc]; simp; omega
      clear hnil htot hg h2
      skip
      go_wp2_with fail
      refine h1.mono ?_
      rintro e w1 ⟨v1, rfl, ho1, hb1⟩
      obtain ⟨A1, c1, rfl⟩ := ho1.slice
      have hbs1 := ho1.bs.2
      have hX1 := Blk.new w1 #[.int .i64 c, .int .i64 q] 28
      have hbX := below_one w1 (.cells #[.int .i64 c, .int .i64 q] 28)
      replace hbs1 := hbs1.below hbX
      replace hbd := hb1.trans (hbX.mono hb1.size)
      have h2 := HH2.out _ (HT.out.below hbd)
      clear hb1 hbX ho1 h1 HH2
      go_wp2_with fail
      refine h2.mono ?_
      rintro e w2 ⟨v2, rfl, ho2, hb2⟩
      obtain ⟨A2, c2, rfl⟩ := ho2.slice
      have hbs2 := ho2.bs.2
      have hX2 := Blk.new w2 #[.int .i64 c, .int .i64 q] 28
      have hbX := below_one w2 (.cells #[.int .i64 c, .int .i64 q] 28)
      replace hX1 := (hX1.below hb2).below hbX
      replace hbs1 := (hbs1.below hb2).below hbX
      replace hbs2 := hbs2.below hbX
      replace hbd := (hbd.trans (hb2.mono hbd.size))
      replace hbd := hbd.trans (hbX.mono hbd.size)
      obtain ⟨x0, x1⟩ := hX1.c2
      obtain ⟨y0, y1⟩ := hX2.c2
      simp only at hbs1 hbs2
      clear hb2 hbX ho2 hX2 h2
      go_wp2_with fail
      refine (same_any _ _ _ _ _ _ _ _ hbs1 hbs2).mono ?_
      rintro e w3 ⟨rfl, rfl⟩
      clear hbs1 hbs2
      have e0 : (c != c) = false := by simp
      have e1 : (q != q) = false := by simp
      have hng : ¬ (bo < (y.length : Int)) := by first | exact trivial | omega
      by_cases hc : c = 0
      · subst hc
        have htt := (HTOT.out rfl).1
        have HTT := Lib.hid htt
        clear htt
        clear HTOT hlm
        have HOLD := Lib.hid hbd
        go_wp2
        generalize w2.alloc (.cells #[.int .i64 0, .int .i64 q] 28) = w4 at *
        go_loopw [9, 10] (fun t i wr => ∃ k : Nat, k ≤ n ∧ i = .int .i64 k ∧ t = .int .i64 (ttot T k) ∧ Below w4.heap.size w4 wr) (fun _ i _ => n - (intOf i).toNat)
        case atStart => exact ⟨0, by omega, rfl, rfl, Below.refl _ _⟩
        case round =>
          obtain ⟨k, hk, rfl, rfl, hb⟩ := hrel
          clear x0 x1 y0 y1 e0 e1 hng
          by_cases hlt : k < n
          · have hbr := HOLD.out.trans (hb.mono HOLD.out.size)
            obtain ⟨b, o, Ar, Lr, Cr, rfl, ⟨c0, c1', c2', hlit⟩, hnl, hle⟩ := (HT.out.below hbr).2 k hlt
            have HNX : Hid (ttot T (k + 1) = ttot T k + tsz Lr (T.getD k tk0).2.1 (T.getD k tk0).2.2) := Lib.hid (by rw [← hlit.1]; rfl)
            have h1 := ttot_bd T k
            have h2 := tsz_bd Lr (T.getD k tk0).2.1 (T.getD k tk0).2.2
            clear hlit hnl
            generalize T.getD k tk0 = t at *
            obtain ⟨sz, hsz⟩ : ∃ sz, sz = tsz Lr t.2.1 t.2.2 := ⟨_, rfl⟩
            rw [← hsz] at h2
            have HSZ := Lib.hid hsz
            have e3 : IntKind.i64.wrap (ttot T k + sz) = ttot T k + sz := IntWalk.i64_in _ (by omega)
            clear hsz
            go_wp2_with fail
            refine (rtlen_any _ _ _ _ _ _).mono ?_
            rintro e w14 ⟨rfl, hb14⟩
            rw [← HSZ.out]
            replace hb := hb.trans (hb14.mono hb.size)
            clear hb14 c0 c1' c2' h1 h2
            go_wp2
            go_roundw
            case rel => exact ⟨k + 1, hlt, by go_num, by rw [HNX.out, HSZ.out], hb⟩
            case measure => simp [intOf]; omega
          · obtain rfl : k = n := by omega
            replace hbd := hbd.trans (hb.mono hbd.size)
            have htt := HTT.out
            have hee := beq_iff_eq.2 htt

            clear hb htt
            go_wp2_with fail
            refine (live12_any _).mono ?_
            rintro e w15 ⟨rfl, hb15⟩
            go_wp2
            go_ret
            exact ⟨rfl, hbd.trans (hb15.mono hbd.size)⟩
      · try (obtain rfl := HNIL.out hc)
        have hcb : (c != 0) = true := by simpa using hc
        clear hc
        go_wp2_with fail
        refine (live12_any _).mono ?_
        rintro e w15 ⟨rfl, hb15⟩
        go_wp2
        go_ret
        exact ⟨rfl, hbd.trans (hb15.mono hbd.size)⟩

set_option maxRecDepth 100000 in
theorem lifted (os : Os) (started : os.Started) (H : Type) (enc : TypeId × Value → H) :
    ReturnsInHanded {} Try.checked os 3 .any (Rows.expandTokensSpec.pre6 enc Try.prog Try.f3 Rows.expandTokensRow.domain false) (Rows.expandTokensSpec.post enc Try.prog Try.f3 false true false false) := by
  refine returnsInHanded_of_change (C := Try.checked) own started (by kernel_rfl) Try.func3
    (ChangeSpec.witness6 (enc := enc) (C := Try.checked) false ⟨#[], #[.slice none 0 0, .int .i64 0], []⟩ 8 (by kernel_rfl) (by kernel_rfl) (by kernel_rfl) (by kernel_rfl)) ?_
  intro W base args ds gs before hval0 hW hcnd _
  have hval : ∀ (j : Nat) t v, Try.f3.params[j]? = some t → args[j]? = some v → Value.okWide Try.prog W .any base t v := hval0
  have hW' := hW
  obtain ⟨p, q, hA0, hV, rfl, hfz, hnd⟩ := hW
  have hA : DataW.TrodAll enc Try.prog W 0 (fun _ => true) true Try.f3.params.toList args.toList ds p := hA0
  rw [Try.params3] at hA hval
  obtain ⟨v0, vs0, d0, ds0, p0, q0, hargs, rfl, rfl, h0, r0⟩ := trodAll_cons hA
  obtain ⟨v1, vs1, d1, ds1, p1, q1, rfl, rfl, rfl, h1, r1⟩ := trodAll_cons r0
  obtain ⟨rfl, rfl, rfl⟩ := trodAll_nil r1
  obtain rfl : args = #[v0, v1] := by cases args; simp_all
  obtain ⟨rfl, rfl⟩ := trodVars_none hV
  have lt0 : ∀ x ∈ p0, x.block < W.heap.size := by obtain ⟨m, hm⟩ := h0; exact DataW.trod_lt m _ _ _ hm
  have lt1 : ∀ x ∈ p1, x.block < W.heap.size := by obtain ⟨m, hm⟩ := h1; exact DataW.trod_lt m _ _ _ hm
  clear hA0 hval0
  refine (walk enc W base v0 d0 p0 (hval 0 22 v0 rfl rfl) h0 v1 d1 p1 (hval 1 3 v1 rfl rfl) h1).mono fun e W' ⟨he, bel⟩ => ?_
  subst he
  exact ⟨_, rfl, _, _, _, [], _, [], hW', trodAll_mk1 (shut_bool Try.underlying4 _), (trodAll_cons_mk (Below.trod laidOut (by kernel_rfl) (of_decide_eq_true (by kernel_rfl)) h0 bel lt0) (trodAll_cons_mk (Below.trod laidOut (by kernel_rfl) (of_decide_eq_true (by kernel_rfl)) h1 bel lt1) trodAll_mk0)), rfl, bel.frame _, fun h => by cases h⟩

theorem over : Rows.expandTokensRow.holds Try.pinned (OpenSpec.ofChange Rows.expandTokensSpec) :=
  OpenClaim.holds_of_wide 3 Try.f3 rfl rfl rfl rfl rfl rfl rfl ⟨rfl, rfl, rfl, rfl, rfl⟩ rfl rfl rfl rfl rfl (by kernel_rfl) Try.func3 (by kernel_rfl)
    (of_decide_eq_true (by kernel_rfl)) (by unfold Func.isWrapper; first | (rw [if_pos (by decide +kernel)]; kernel_rfl) | (rw [if_neg (by decide +kernel)]; exact ⟨rfl, rfl⟩))
    (fun os started H enc _ => lifted os started H enc)

/-- THE STATEMENT. -/
theorem proved : Rows.ExpandTokensSaid := over
#print axioms proved
end Go.Proofs.Ytmpbiobbjnhjcaa.expandTokens
