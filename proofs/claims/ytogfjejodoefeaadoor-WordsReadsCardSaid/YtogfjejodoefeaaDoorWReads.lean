/- WordsReads: called with any text and any number, the law returns true; condition: the tables of the library's number texts read as the program's text lays them, to which the card ties them. -/
import Derived.Test.YtogfjejodoefeaaDoorRows
import Derived.Test.YtogfjejodoefeaaDoorWrdL
import Derived.Test.YtogfjejodoefeaaDoorK1
import Derived.Test.YtogfjejodoefeaaDoorWrdT
import Derived.ProofKit
import Derived.OpenShut
import Derived.ShutString
import Derived.ChangeOld
import Derived.Test.YtogfjejodoefeaaDoorCards
import Derived.Test.YtogfjejodoefeaaDoorTie
import Derived.LaidMore
import Derived.Stop.Joined
import Derived.Deep.Slices
import Derived.SevenTiedAt
namespace Go.Proofs.YtogfjejodoefeaaDoor.wordsReads
open Go.ChangeShapes Go.WideShapes Go.ChangeAt Go.RowKit
open Go.ChangeMaps (open_string shut_string)
set_option linter.unusedVariables false

theorem own : ownKnob Tryd.prog.godebug = none := by kernel_rfl
theorem laidOut : laidOutB Tryd.prog = true := by kernel_rfl
open Cur Mem



set_option maxRecDepth 100000 in
set_option maxHeartbeats 8000000 in
theorem walk {H : Type} (enc : TypeId × Value → H) (w : World) (hT : Tbs w) (base : Nat) (v0 : Value) (d0 : DataW H) (p0 : List MemPlace) (g0 : Value.okWide Tryd.prog w .any base 9 v0) (h0 : DataW.Trod enc Tryd.prog w 0 (fun _ => true) true 9 v0 d0 p0) (v1 : Value) (d1 : DataW H) (p1 : List MemPlace) (g1 : Value.okWide Tryd.prog w .any base 3 v1) (h1 : DataW.Trod enc Tryd.prog w 0 (fun _ => true) true 3 v1 d1 p1) :
    Calls Tryd.prog 5 #[v0, v1] w fun e w' => e = .returned (.bool true) ∧ Below w.heap.size w w' := by
  obtain ⟨s, rfl, _, _, ws⟩ := open_string Tryd.underlying9 g0 h0
  obtain ⟨m, rfl, m0, m1⟩ := open_i64 g1 h1
  clear g0 h0 g1 h1
  have HT := Lib.hid hT
  clear hT
  by_cases hn : 1000 < (s.size : Int)
  · have hd := Below.refl w.heap.size w
    have hr := Below.refl w.heap.size w
    go_enter Tryd.func5, Tryd.ntmps5
    have hd9 := hd.trans (hr.mono hd.size)
    go_wp2_with fail
    refine (live10_any _ (HT.out.below hd9)).mono ?_
    rintro e w9 ⟨rfl, hb9⟩
    have hd10 := hd9.trans (hb9.mono hd9.size)
    clear hb9 hd9
    go_wp2
    go_ret
    exact ⟨rfl, hd10⟩
  have hs : s.size ≤ 1000 := by omega
  obtain ⟨X, ab, hv, X0, X1, ht, hf, hi⟩ := rnv_cases s
  obtain ⟨u1, u2, u3⟩ := uhx_once s
  have u4 := uhx_len s
  have C1 : Hid (∀ w', Tbs w' → Calls Tryd.prog 21 #[.string s] w' fun e w'' => e = .returned (.tuple #[.int .u64 X, .bool ab]) ∧ Below w'.heap.size w' w'') := Lib.hid (fun w' h => by
    have := readnum_any s w' h
    rwa [hv] at this)
  have C2 := Lib.hid (fun w' => unhex_any s (by omega) w')
  have C3 := Lib.hid (fun w' h => readlist_any s (by omega) w' h)
  unfold UhPost at C2
  obtain ⟨z, hz⟩ : ∃ z, (uhx s).1 = z := ⟨_, rfl⟩
  obtain ⟨cb, hcb⟩ : ∃ cb, (uhx s).2 = cb := ⟨_, rfl⟩
  rw [hz, hcb] at C2
  rw [hz, hcb] at u1 u2
  rw [hz] at u3 u4
  have HZT := Lib.hid u1
  have HZF := Lib.hid u2
  have HZB := Lib.hid u3
  have HZL : Hid (z.length ≤ 1000) := Lib.hid (by omega)
  have HXT := Lib.hid ht
  have HXF := Lib.hid hf
  have HS := Lib.hid hs
  have C4 : Hid (∀ w', Tbs w' → Calls Tryd.prog 24 #[.string s, .int .i64 m] w' fun e w'' => e = .returned (rniv s m) ∧ Below w'.heap.size w' w'') := Lib.hid (fun w' h => readint_any s m m0 (by omega) w' h)
  have HI := Lib.hid (hi m)
  have hes : (s.toList == s.toList) = true := by simp
  clear hv ht hf hi u1 u2 u3 u4 hz hcb hs ws
  obtain ⟨N, eb, hne, hns⟩ : ∃ N eb, rniv s m = .tuple #[.int .i64 N, .bool eb] ∧ ((ab = true ∧ 0 ≤ m ∧ X ≤ m ∧ N = X ∧ eb = true) ∨ (¬ (ab = true ∧ 0 ≤ m ∧ X ≤ m) ∧ N = 0 ∧ eb = false)) := by
    by_cases h : ab = true ∧ 0 ≤ m ∧ X ≤ m
    · exact ⟨X, true, HI.out.1 h.1 h.2.1 h.2.2, .inl ⟨h.1, h.2.1, h.2.2, rfl, rfl⟩⟩
    · exact ⟨0, false, HI.out.2 h, .inr ⟨h, rfl, rfl⟩⟩
  rw [hne] at C4
  have HNS := Lib.hid hns
  clear hne hns HI
  go_enter Tryd.func5, Tryd.ntmps5
  go_wp2_with fail
  with_reducible refine (C1.out _ HT.out).mono ?_
  rintro e w1 ⟨rfl, hb1⟩
  go_wp2_with fail
  refine (C2.out _).mono ?_
  rintro e w2 ⟨v2, rfl, ho2, hb2⟩
  obtain ⟨A2, k2, rfl⟩ := ho2.slice
  have hd2 := hb1.trans (hb2.mono hb1.size)
  clear hb1 hb2
  go_wp2_with fail
  refine (C3.out _ (HT.out.below hd2)).mono ?_
  rintro e w3 ⟨v3, l, ok, rfl, ho3, hb3, hl, hl1, hl2⟩
  obtain ⟨A3, k3, rfl⟩ := OwnU.slice ho3
  have ho2' : Own w3 _ _ z := own_below ho2 hb3
  have hd3 := hd2.trans (hb3.mono hd2.size)
  have HLB : Hid (∀ x ∈ l, 0 ≤ x ∧ x < 18446744073709551616) := Lib.hid hl
  have HLT := Lib.hid hl1
  have HLF : Hid (ok = false → l = []) := Lib.hid (fun h => (hl2 h).1)
  have HLL : Hid (l.length ≤ 1000) := Lib.hid (by
    cases ok with
    | false => rw [(hl2 rfl).1]; simp
    | true =>
      have h := lword_len l
      rw [hl1 rfl] at h
      have := HS.out
      omega)
  clear hd2 hb3 ho2 hl hl1 hl2
  go_wp2_with fail
  with_reducible refine (C4.out _ (HT.out.below hd3)).mono ?_
  rintro e w4 ⟨rfl, hb4⟩
  have ho2'' : Own w4 _ _ z := own_below ho2' hb4
  have ho3' : OwnU w4 _ _ l := own_below ho3 hb4
  have hd := hd3.trans (hb4.mono hd3.size)
  have hbs := ho2''.bs.2
  obtain ⟨_, _, _, hus⟩ := OwnU.us ho3'
  have hr := Below.refl w4.heap.size w4
  clear hd3 hb4 ho2' ho2'' ho3 ho3' C1 C2 C3 C4
  cases ab
  · obtain rfl := HXF.out rfl
    obtain ⟨rfl, rfl⟩ : N = 0 ∧ eb = false := by
      rcases HNS.out with ⟨h, _⟩ | ⟨_, h1, h2⟩
      · cases h
      · exact ⟨h1, h2⟩
    cases cb
    · obtain rfl := HZF.out rfl
      cases ok
      · obtain rfl := HLF.out rfl
        have hd9 := hd.trans (hr.mono hd.size)
        go_wp2_with fail
        refine (live10_any _ (HT.out.below hd9)).mono ?_
        rintro e w9 ⟨rfl, hb9⟩
        have hd10 := hd9.trans (hb9.mono hd9.size)
        clear hb9 hd9
        go_wp2
        go_ret
        exact ⟨rfl, hd10⟩
      · go_wp2_with fail
        with_reducible refine (rlist_any A3 l.length k3 l _ (hus.below hr) (by have := HLL.out; omega) HLB.out).mono ?_
        rintro e w7 ⟨rfl, hb7⟩
        rw [show lword l = s by first | exact HLT.out rfl | exact HLT.out trivial]
        replace hr := hr.trans (hb7.mono hr.size)
        clear hb7
        have hd9 := hd.trans (hr.mono hd.size)
        go_wp2_with fail
        refine (live10_any _ (HT.out.below hd9)).mono ?_
        rintro e w9 ⟨rfl, hb9⟩
        have hd10 := hd9.trans (hb9.mono hd9.size)
        clear hb9 hd9
        go_wp2
        go_ret
        exact ⟨rfl, hd10⟩
    · go_wp2_with fail
      with_reducible refine (rhex_any A2 z.length k2 z _ (hbs.below hr) (by have := HZL.out; omega) HZB.out).mono ?_
      rintro e w6 ⟨rfl, hb6⟩
      rw [show hxw z = s by first | exact HZT.out rfl | exact HZT.out trivial]
      replace hr := hr.trans (hb6.mono hr.size)
      clear hb6
      cases ok
      · obtain rfl := HLF.out rfl
        have hd9 := hd.trans (hr.mono hd.size)
        go_wp2_with fail
        refine (live10_any _ (HT.out.below hd9)).mono ?_
        rintro e w9 ⟨rfl, hb9⟩
        have hd10 := hd9.trans (hb9.mono hd9.size)
        clear hb9 hd9
        go_wp2
        go_ret
        exact ⟨rfl, hd10⟩
      · go_wp2_with fail
        with_reducible refine (rlist_any A3 l.length k3 l _ (hus.below hr) (by have := HLL.out; omega) HLB.out).mono ?_
        rintro e w7 ⟨rfl, hb7⟩
        rw [show lword l = s by first | exact HLT.out rfl | exact HLT.out trivial]
        replace hr := hr.trans (hb7.mono hr.size)
        clear hb7
        have hd9 := hd.trans (hr.mono hd.size)
        go_wp2_with fail
        refine (live10_any _ (HT.out.below hd9)).mono ?_
        rintro e w9 ⟨rfl, hb9⟩
        have hd10 := hd9.trans (hb9.mono hd9.size)
        clear hb9 hd9
        go_wp2
        go_ret
        exact ⟨rfl, hd10⟩
  · have hxt : su (Lib.decDigits X.toNat) = s := by first | exact HXT.out rfl | exact HXT.out trivial
    have C5 : Hid (∀ w', Calls Tryd.prog 16 #[.int .u64 X] w' fun e w'' => e = .returned (.string s) ∧ Below w'.heap.size w' w'') := Lib.hid (fun w' => by
      have := rnum_any X.toNat w' (by omega)
      rwa [Int.toNat_of_nonneg X0, show (⟨(Lib.decDigits X.toNat).toArray⟩ : ByteArray) = s from hxt] at this)
    have HX0 := Lib.hid X0
    have HX1 := Lib.hid X1
    clear hxt X0 X1
    go_wp2_with fail
    with_reducible refine (C5.out _).mono ?_
    rintro e w5 ⟨rfl, hb5⟩
    replace hr := hr.trans (hb5.mono hr.size)
    clear hb5
    by_cases hm : m < 0
    · obtain ⟨rfl, rfl⟩ : N = 0 ∧ eb = false := by
        rcases HNS.out with ⟨_, h, _⟩ | ⟨_, h1, h2⟩
        · omega
        · exact ⟨h1, h2⟩
      cases cb
      · obtain rfl := HZF.out rfl
        cases ok
        · obtain rfl := HLF.out rfl
          have hd9 := hd.trans (hr.mono hd.size)
          go_wp2_with fail
          refine (live10_any _ (HT.out.below hd9)).mono ?_
          rintro e w9 ⟨rfl, hb9⟩
          have hd10 := hd9.trans (hb9.mono hd9.size)
          clear hb9 hd9
          go_wp2
          go_ret
          exact ⟨rfl, hd10⟩
        · go_wp2_with fail
          with_reducible refine (rlist_any A3 l.length k3 l _ (hus.below hr) (by have := HLL.out; omega) HLB.out).mono ?_
          rintro e w7 ⟨rfl, hb7⟩
          rw [show lword l = s by first | exact HLT.out rfl | exact HLT.out trivial]
          replace hr := hr.trans (hb7.mono hr.size)
          clear hb7
          have hd9 := hd.trans (hr.mono hd.size)
          go_wp2_with fail
          refine (live10_any _ (HT.out.below hd9)).mono ?_
          rintro e w9 ⟨rfl, hb9⟩
          have hd10 := hd9.trans (hb9.mono hd9.size)
          clear hb9 hd9
          go_wp2
          go_ret
          exact ⟨rfl, hd10⟩
      · go_wp2_with fail
        with_reducible refine (rhex_any A2 z.length k2 z _ (hbs.below hr) (by have := HZL.out; omega) HZB.out).mono ?_
        rintro e w6 ⟨rfl, hb6⟩
        rw [show hxw z = s by first | exact HZT.out rfl | exact HZT.out trivial]
        replace hr := hr.trans (hb6.mono hr.size)
        clear hb6
        cases ok
        · obtain rfl := HLF.out rfl
          have hd9 := hd.trans (hr.mono hd.size)
          go_wp2_with fail
          refine (live10_any _ (HT.out.below hd9)).mono ?_
          rintro e w9 ⟨rfl, hb9⟩
          have hd10 := hd9.trans (hb9.mono hd9.size)
          clear hb9 hd9
          go_wp2
          go_ret
          exact ⟨rfl, hd10⟩
        · go_wp2_with fail
          with_reducible refine (rlist_any A3 l.length k3 l _ (hus.below hr) (by have := HLL.out; omega) HLB.out).mono ?_
          rintro e w7 ⟨rfl, hb7⟩
          rw [show lword l = s by first | exact HLT.out rfl | exact HLT.out trivial]
          replace hr := hr.trans (hb7.mono hr.size)
          clear hb7
          have hd9 := hd.trans (hr.mono hd.size)
          go_wp2_with fail
          refine (live10_any _ (HT.out.below hd9)).mono ?_
          rintro e w9 ⟨rfl, hb9⟩
          have hd10 := hd9.trans (hb9.mono hd9.size)
          clear hb9 hd9
          go_wp2
          go_ret
          exact ⟨rfl, hd10⟩
    · have e0 : IntKind.u64.wrap m = m := IntWalk.u64_in _ (by omega)
      by_cases hxm : m < X
      · obtain ⟨rfl, rfl⟩ : N = 0 ∧ eb = false := by
          rcases HNS.out with ⟨_, _, h, _⟩ | ⟨_, h1, h2⟩
          · omega
          · exact ⟨h1, h2⟩
        cases cb
        · obtain rfl := HZF.out rfl
          cases ok
          · obtain rfl := HLF.out rfl
            have hd9 := hd.trans (hr.mono hd.size)
            go_wp2_with fail
            refine (live10_any _ (HT.out.below hd9)).mono ?_
            rintro e w9 ⟨rfl, hb9⟩
            have hd10 := hd9.trans (hb9.mono hd9.size)
            clear hb9 hd9
            go_wp2
            go_ret
            exact ⟨rfl, hd10⟩
          · go_wp2_with fail
            with_reducible refine (rlist_any A3 l.length k3 l _ (hus.below hr) (by have := HLL.out; omega) HLB.out).mono ?_
            rintro e w7 ⟨rfl, hb7⟩
            rw [show lword l = s by first | exact HLT.out rfl | exact HLT.out trivial]
            replace hr := hr.trans (hb7.mono hr.size)
            clear hb7
            have hd9 := hd.trans (hr.mono hd.size)
            go_wp2_with fail
            refine (live10_any _ (HT.out.below hd9)).mono ?_
            rintro e w9 ⟨rfl, hb9⟩
            have hd10 := hd9.trans (hb9.mono hd9.size)
            clear hb9 hd9
            go_wp2
            go_ret
            exact ⟨rfl, hd10⟩
        · go_wp2_with fail
          with_reducible refine (rhex_any A2 z.length k2 z _ (hbs.below hr) (by have := HZL.out; omega) HZB.out).mono ?_
          rintro e w6 ⟨rfl, hb6⟩
          rw [show hxw z = s by first | exact HZT.out rfl | exact HZT.out trivial]
          replace hr := hr.trans (hb6.mono hr.size)
          clear hb6
          cases ok
          · obtain rfl := HLF.out rfl
            have hd9 := hd.trans (hr.mono hd.size)
            go_wp2_with fail
            refine (live10_any _ (HT.out.below hd9)).mono ?_
            rintro e w9 ⟨rfl, hb9⟩
            have hd10 := hd9.trans (hb9.mono hd9.size)
            clear hb9 hd9
            go_wp2
            go_ret
            exact ⟨rfl, hd10⟩
          · go_wp2_with fail
            with_reducible refine (rlist_any A3 l.length k3 l _ (hus.below hr) (by have := HLL.out; omega) HLB.out).mono ?_
            rintro e w7 ⟨rfl, hb7⟩
            rw [show lword l = s by first | exact HLT.out rfl | exact HLT.out trivial]
            replace hr := hr.trans (hb7.mono hr.size)
            clear hb7
            have hd9 := hd.trans (hr.mono hd.size)
            go_wp2_with fail
            refine (live10_any _ (HT.out.below hd9)).mono ?_
            rintro e w9 ⟨rfl, hb9⟩
            have hd10 := hd9.trans (hb9.mono hd9.size)
            clear hb9 hd9
            go_wp2
            go_ret
            exact ⟨rfl, hd10⟩
      · have e1 : IntKind.u64.wrap X = X := IntWalk.u64_in _ (by have := HX1.out; have := HX0.out; omega)
        have e2 : (X == X) = true := by simp
        obtain ⟨rfl, rfl⟩ : N = X ∧ eb = true := by
          rcases HNS.out with ⟨_, _, _, h1, h2⟩ | ⟨h, _⟩
          · exact ⟨h1, h2⟩
          · exact absurd (by first | exact ⟨rfl, by omega, by omega⟩ | exact ⟨trivial, by omega, by omega⟩) h
        cases cb
        · obtain rfl := HZF.out rfl
          cases ok
          · obtain rfl := HLF.out rfl
            have hd9 := hd.trans (hr.mono hd.size)
            go_wp2_with fail
            refine (live10_any _ (HT.out.below hd9)).mono ?_
            rintro e w9 ⟨rfl, hb9⟩
            have hd10 := hd9.trans (hb9.mono hd9.size)
            clear hb9 hd9
            go_wp2
            go_ret
            exact ⟨rfl, hd10⟩
          · go_wp2_with fail
            with_reducible refine (rlist_any A3 l.length k3 l _ (hus.below hr) (by have := HLL.out; omega) HLB.out).mono ?_
            rintro e w7 ⟨rfl, hb7⟩
            rw [show lword l = s by first | exact HLT.out rfl | exact HLT.out trivial]
            replace hr := hr.trans (hb7.mono hr.size)
            clear hb7
            have hd9 := hd.trans (hr.mono hd.size)
            go_wp2_with fail
            refine (live10_any _ (HT.out.below hd9)).mono ?_
            rintro e w9 ⟨rfl, hb9⟩
            have hd10 := hd9.trans (hb9.mono hd9.size)
            clear hb9 hd9
            go_wp2
            go_ret
            exact ⟨rfl, hd10⟩
        · go_wp2_with fail
          with_reducible refine (rhex_any A2 z.length k2 z _ (hbs.below hr) (by have := HZL.out; omega) HZB.out).mono ?_
          rintro e w6 ⟨rfl, hb6⟩
          rw [show hxw z = s by first | exact HZT.out rfl | exact HZT.out trivial]
          replace hr := hr.trans (hb6.mono hr.size)
          clear hb6
          cases ok
          · obtain rfl := HLF.out rfl
            have hd9 := hd.trans (hr.mono hd.size)
            go_wp2_with fail
            refine (live10_any _ (HT.out.below hd9)).mono ?_
            rintro e w9 ⟨rfl, hb9⟩
            have hd10 := hd9.trans (hb9.mono hd9.size)
            clear hb9 hd9
            go_wp2
            go_ret
            exact ⟨rfl, hd10⟩
          · go_wp2_with fail
            with_reducible refine (rlist_any A3 l.length k3 l _ (hus.below hr) (by have := HLL.out; omega) HLB.out).mono ?_
            rintro e w7 ⟨rfl, hb7⟩
            rw [show lword l = s by first | exact HLT.out rfl | exact HLT.out trivial]
            replace hr := hr.trans (hb7.mono hr.size)
            clear hb7
            have hd9 := hd.trans (hr.mono hd.size)
            go_wp2_with fail
            refine (live10_any _ (HT.out.below hd9)).mono ?_
            rintro e w9 ⟨rfl, hb9⟩
            have hd10 := hd9.trans (hb9.mono hd9.size)
            clear hb9 hd9
            go_wp2
            go_ret
            exact ⟨rfl, hd10⟩

theorem tabs_of {W : World} (h : laidMetH Tryd.prog Rows.wordsReadsRow.laid W) : Tbs W := by
  rw [MakeChecks.laidMetH_plain _ _ _ (by kernel_rfl)] at h
  exact tbs_of_laid h
theorem door_met (os : Os) (args : Array Value) : laidMetH Tryd.prog Rows.wordsReadsRow.laid ((World.doorLaid Tryd.prog 4000 os).forCall (fun _ _ => 0) ⟨#[], args, []⟩).memory :=
  laidMetH_of_parts3 (fuel := 8) (laidMet_of_run' 8 (by kernel_rfl) (by kernel_rfl)) (by kernel_rfl) (by kernel_rfl)
set_option maxRecDepth 100000 in
theorem lifted (os : Os) (started : os.Started) (H : Type) (enc : TypeId × Value → H) :
    ReturnsInHanded {} Tryd.checked os 5 .any (fun w args => (Rows.wordsReadsSpec.pre enc Tryd.prog Tryd.f5 [] false w args ∧ laidMetH Tryd.prog Rows.wordsReadsRow.laid w) ∧ sizedMet enc Tryd.prog Tryd.f5 (OpenSpec.ofChange Rows.wordsReadsSpec) false w args)
      (Rows.wordsReadsSpec.post enc Tryd.prog Tryd.f5 false true false false) := by
  refine returnsInHanded_of_change_and (C := Tryd.checked) (X := fun w _ => laidMetH Tryd.prog Rows.wordsReadsRow.laid w) (fun _ _ _ hh h => h.of_heap hh) own started (by kernel_rfl) Tryd.func5
    (ChangeSpec.witness_shaped (enc := enc) (C := Tryd.checked) (os := os) (X := fun w _ => laidMetH Tryd.prog Rows.wordsReadsRow.laid w) false (World.doorLaid Tryd.prog 4000 os) #[.string ⟨#[]⟩, .int .i64 0] 8 rfl (World.shaped_of_RefB (by kernel_rfl) (by kernel_rfl)) (by kernel_rfl) (by kernel_rfl) (by kernel_rfl) (door_met os _)) ?_
  intro W base args ds gs before hval0 hW _ _ hL _
  have hval : ∀ (j : Nat) t v, Tryd.f5.params[j]? = some t → args[j]? = some v → Value.okWide Tryd.prog W .any base t v := hval0
  have hW' := hW
  obtain ⟨p, q, hA0, hV, rfl, hfz, hnd⟩ := hW
  have hA : DataW.TrodAll enc Tryd.prog W 0 (fun _ => true) true Tryd.f5.params.toList args.toList ds p := hA0
  rw [Tryd.params5] at hA hval
  obtain ⟨v0, vs0, d0, ds0, p0, q0, hargs, rfl, rfl, h0, r0⟩ := trodAll_cons hA
  obtain ⟨v1, vs1, d1, ds1, p1, q1, rfl, rfl, rfl, h1, r1⟩ := trodAll_cons r0
  obtain ⟨rfl, rfl, rfl⟩ := trodAll_nil r1
  obtain rfl : args = #[v0, v1] := by cases args; simp_all
  obtain ⟨rfl, rfl⟩ := trodVars_none hV
  have lt0 : ∀ x ∈ p0, x.block < W.heap.size := by obtain ⟨m, hm⟩ := h0; exact DataW.trod_lt m _ _ _ hm
  have lt1 : ∀ x ∈ p1, x.block < W.heap.size := by obtain ⟨m, hm⟩ := h1; exact DataW.trod_lt m _ _ _ hm
  clear hA0 hval0
  refine (walk enc W (tabs_of hL) base v0 d0 p0 (hval 0 9 v0 rfl rfl) h0 v1 d1 p1 (hval 1 3 v1 rfl rfl) h1).mono fun e W' ⟨he, bel⟩ => ?_
  subst he
  exact ⟨_, rfl, _, _, _, [], _, [], hW', trodAll_mk1 (shut_bool Tryd.underlying4 _), (trodAll_cons_mk (Below.trod laidOut (by kernel_rfl) (of_decide_eq_true (by kernel_rfl)) h0 bel lt0) (trodAll_cons_mk (Below.trod laidOut (by kernel_rfl) (of_decide_eq_true (by kernel_rfl)) h1 bel lt1) trodAll_mk0)), rfl, bel.frame _, fun h => by cases h⟩

theorem over : Rows.WordsReadsSaid :=
  OpenClaim.holds_of_wide 5 Tryd.f5 rfl rfl rfl rfl rfl rfl rfl ⟨rfl, rfl, rfl, rfl, rfl⟩ rfl rfl rfl rfl rfl (by kernel_rfl) Tryd.func5 (by kernel_rfl)
    (of_decide_eq_true (by kernel_rfl)) (by unfold Func.isWrapper; first | (rw [if_pos (by decide +kernel)]; kernel_rfl) | (rw [if_neg (by decide +kernel)]; exact ⟨rfl, rfl⟩))
    (fun os started H enc _ => lifted os started H enc)

/-- THE TIED CARD. -/
theorem proved : Rows.WordsReadsCardSaid :=
  Claim7.holds_tied_plain_at .later [] [.data, .data, .data] true Rows.wordsReadsCard.stood.harness Rows.wordsReadsCard.stood.looks
    over (fun _ h => by cases h) (by kernel_rfl) (fun _ h => by cases h) wordsReads_row_tie rfl ⟨rfl, rfl⟩ (by kernel_rfl) rfl
    (fun f fn hf hfn => by
      obtain rfl : f = 5 := Option.some.inj ((show Tryd.prog.funcNamed "tholepin/tholepinlaw10.WordsReads" = some 5 by kernel_rfl).symm.trans hf) |>.symm
      obtain rfl : fn = Tryd.f5 := (Option.some.inj (Tryd.func5.symm.trans hfn)).symm
      exact ⟨by kernel_rfl, fun j t ht => by
        rw [Tryd.params5] at ht
        have hm : t ∈ [9, 3] := by simpa using Array.mem_of_getElem? ht
        have hall : ([9, 3].all fun u => !Tryd.prog.wantsStandIn u) = true := by kernel_rfl
        exact (show Tryd.prog.wantsStandIn t = false by simpa using List.all_eq_true.1 hall t hm)⟩)
    (by kernel_rfl)
#print axioms proved
end Go.Proofs.YtogfjejodoefeaaDoor.wordsReads
