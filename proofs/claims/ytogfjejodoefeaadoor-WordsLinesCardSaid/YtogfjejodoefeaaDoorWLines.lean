/- WordsLines: called with any text, the law returns true; condition: the tables of the library's number texts read as the program's text lays them, to which the card ties them. -/
import Derived.Test.YtogfjejodoefeaaDoorRows
import Derived.Test.YtogfjejodoefeaaDoorWrdP
import Derived.Test.YtogfjejodoefeaaDoorK1
import Derived.Test.YtogfjejodoefeaaDoorWrdT
import Derived.ProofKit
import Derived.OpenShut
import Derived.ShutString
import Derived.ChangeOld
import Derived.Test.YtogfjejodoefeaaDoorCards
import Derived.Test.YtogfjejodoefeaaDoorTie
import Derived.LaidMore
import Derived.Stop.Joined
import Derived.Deep.Slices
import Derived.SevenTiedAt
namespace Go.Proofs.YtogfjejodoefeaaDoor.wordsLines
open Go.ChangeShapes Go.WideShapes Go.ChangeAt Go.RowKit
open Go.ChangeMaps (open_string shut_string)
set_option linter.unusedVariables false

theorem own : ownKnob Tryd.prog.godebug = none := by kernel_rfl
theorem laidOut : laidOutB Tryd.prog = true := by kernel_rfl
open Cur Mem


theorem lns_len (s : ByteArray) : ∀ (n p f : Nat) (acc : List ByteArray), f ≤ p → p + n ≤ s.size → acc.length ≤ f → (lns s n p f acc).1.length ≤ s.size
  | 0, p, f, acc, h1, h2, h3 => by
    unfold lns
    split
    · exact Nat.zero_le _
    · show acc.length ≤ _
      omega
  | n + 1, p, f, acc, h1, h2, h3 => by
    rw [lns]
    split
    · split
      · exact lns_len s n (p + 1) (p + 1) _ (by omega) (by omega) (by rw [List.length_append]; simp; omega)
      · exact Nat.zero_le _
    · exact lns_len s n (p + 1) f acc (by omega) (by omega) h3
theorem words_len (s : ByteArray) : (wordsOf s).length ≤ s.size + 1 := by
  have h := spl_acc s s.size 0 0 [] (Nat.le_refl _) (by omega) (Nat.le_refl _)
  unfold wordsOf splend
  split
  · omega
  · rw [List.length_append]
    simp
    omega


set_option maxRecDepth 100000 in
set_option maxHeartbeats 8000000 in
theorem walk {H : Type} (enc : TypeId × Value → H) (w : World) (hT : Tbs w) (base : Nat) (v0 : Value) (d0 : DataW H) (p0 : List MemPlace) (g0 : Value.okWide Tryd.prog w .any base 9 v0) (h0 : DataW.Trod enc Tryd.prog w 0 (fun _ => true) true 9 v0 d0 p0) :
    Calls Tryd.prog 3 #[v0] w fun e w' => e = .returned (.bool true) ∧ Below w.heap.size w w' := by
  obtain ⟨s, rfl, _, _, ws⟩ := open_string Tryd.underlying9 g0 h0
  clear g0 h0 ws
  have HT := Lib.hid hT
  clear hT
  by_cases hn : 5000 < (s.size : Int)
  · have hd := Below.refl w.heap.size w
    go_enter Tryd.func3, Tryd.ntmps3
    go_wp2_with fail
    refine (live10_any _ (HT.out.below hd)).mono ?_
    rintro e w9 ⟨rfl, hb9⟩
    have hd10 := hd.trans (hb9.mono hd.size)
    clear hb9 hd
    go_wp2
    go_ret
    exact ⟨rfl, hd10⟩
  have hs : s.size ≤ 5000 := by omega
  have C1 := Lib.hid (fun w' => lines_any s (by omega) w')
  have C2 := Lib.hid (fun w' => rlines_any s (by omega) w')
  have C3 := Lib.hid (fun w' => split_any s (by omega) w')
  have C4 := Lib.hid (fun w' => line_any s (by omega) w')
  have C5 := Lib.hid (fun w' => rsplit_any s (by omega) w')
  have hll := lns_len s s.size 0 0 [] (Nat.le_refl _) (by omega) (Nat.le_refl _)
  have hwl := words_len s
  have hj := words_join s
  unfold LnPost at C1 C2
  unfold SpPost at C3
  change (lnsOf s).1.length ≤ s.size at hll
  generalize (lnsOf s).2.2 = er at *
  generalize (lnsOf s).2.1 = pl at *
  generalize (lnsOf s).1 = L at *
  generalize wordsOf s = W at *
  have HJ := Lib.hid hj
  have HWL : Hid (W.length ≤ 5001) := Lib.hid (by omega)
  have HLL : Hid (L.length ≤ 5000) := Lib.hid (by omega)
  have HS := Lib.hid hs
  have hes : (s.toList == s.toList) = true := by simp
  have hpl : (pl == pl) = true := by simp
  have her : (er == er) = true := by simp
  clear hll hwl hj hs
  go_enter Tryd.func3, Tryd.ntmps3
  go_wp2_with fail
  refine (C1.out _).mono ?_
  rintro e w1 ⟨v1, rfl, ho1, hb1⟩
  obtain ⟨A1, k1, rfl⟩ := OwnS.slice ho1
  go_wp2_with fail
  refine (C2.out _).mono ?_
  rintro e w2 ⟨v2, rfl, ho2, hb2⟩
  obtain ⟨A2, k2, rfl⟩ := OwnS.slice ho2
  have hd2 := hb1.trans (hb2.mono hb1.size)
  obtain ⟨_, _, r1⟩ := OwnS.rw ho1
  obtain ⟨_, _, r2⟩ := OwnS.rw ho2
  have r1 := r1.below hb2
  clear hb1 hb2 ho1 ho2
  go_wp2_with fail
  with_reducible refine (same10_any A1 A2 k1 k2 L _ r1 r2 (by have := HLL.out; omega)).mono ?_
  rintro e w3 ⟨rfl, hb3⟩
  have hd3 := hd2.trans (hb3.mono hd2.size)
  clear r1 r2 hb3 hd2 C1 C2
  go_wp2_with fail
  refine (C3.out _).mono ?_
  rintro e w4 ⟨v4, rfl, ho4, hb4⟩
  have hd := hd3.trans (hb4.mono hd3.size)
  clear hb4 hd3
  cases hl : isLine s
  · simp only [hl, if_false, Bool.false_eq_true] at ho4 C4
    obtain ⟨A4, k4, rfl⟩ := OwnS.slice ho4
    clear hl ho4
    go_wp2_with fail
    with_reducible refine (C4.out _).mono ?_
    rintro e w5 ⟨rfl, rfl⟩
    go_wp2_with fail
    refine (live10_any _ (HT.out.below hd)).mono ?_
    rintro e w9 ⟨rfl, hb9⟩
    have hd10 := hd.trans (hb9.mono hd.size)
    clear hb9 hd
    go_wp2
    go_ret
    exact ⟨rfl, hd10⟩
  · simp only [hl, if_true] at ho4 C4
    obtain ⟨A4, k4, rfl⟩ := OwnS.slice ho4
    obtain ⟨_, hc4, r4⟩ := OwnS.rw ho4
    clear hl ho4
    go_wp2_with fail
    with_reducible refine (C4.out _).mono ?_
    rintro e w5 ⟨rfl, rfl⟩
    go_wp2_with fail
    refine (C5.out _).mono ?_
    rintro e w6 ⟨v6, rfl, ho6, hb6⟩
    obtain ⟨A6, k6, rfl⟩ := OwnS.slice ho6
    obtain ⟨_, _, r6⟩ := OwnS.rw ho6
    have r46 := r4.below hb6
    have hd6 := hd.trans (hb6.mono hd.size)
    clear hd hb6 ho6 r4
    go_wp2_with fail
    with_reducible refine (same10_any A4 A6 k4 k6 W _ r46 r6 (by have := HWL.out; omega)).mono ?_
    rintro e w7 ⟨rfl, hb7⟩
    have r47 := r46.below hb7
    have hd7 := hd6.trans (hb7.mono hd6.size)
    clear hb7 hd6 r46 r6
    go_wp2_with fail
    with_reducible refine (join_any A4 k4 W _ r47 (by have := HWL.out; omega) hc4 s HJ.out (by have := HS.out; omega)).mono ?_
    rintro e w8 ⟨rfl, hb8⟩
    have hd := hd7.trans (hb8.mono hd7.size)
    clear hb8 hd7 r47
    go_wp2_with fail
    refine (live10_any _ (HT.out.below hd)).mono ?_
    rintro e w9 ⟨rfl, hb9⟩
    have hd10 := hd.trans (hb9.mono hd.size)
    clear hb9 hd
    go_wp2
    go_ret
    exact ⟨rfl, hd10⟩

theorem tabs_of {W : World} (h : laidMetH Tryd.prog Rows.wordsLinesRow.laid W) : Tbs W := by
  rw [MakeChecks.laidMetH_plain _ _ _ (by kernel_rfl)] at h
  exact tbs_of_laid h
theorem door_met (os : Os) (args : Array Value) : laidMetH Tryd.prog Rows.wordsLinesRow.laid ((World.doorLaid Tryd.prog 4000 os).forCall (fun _ _ => 0) ⟨#[], args, []⟩).memory :=
  laidMetH_of_parts3 (fuel := 8) (laidMet_of_run' 8 (by kernel_rfl) (by kernel_rfl)) (by kernel_rfl) (by kernel_rfl)
set_option maxRecDepth 100000 in
theorem lifted (os : Os) (started : os.Started) (H : Type) (enc : TypeId × Value → H) :
    ReturnsInHanded {} Tryd.checked os 3 .any (fun w args => (Rows.wordsLinesSpec.pre enc Tryd.prog Tryd.f3 [] false w args ∧ laidMetH Tryd.prog Rows.wordsLinesRow.laid w) ∧ sizedMet enc Tryd.prog Tryd.f3 (OpenSpec.ofChange Rows.wordsLinesSpec) false w args)
      (Rows.wordsLinesSpec.post enc Tryd.prog Tryd.f3 false true false false) := by
  refine returnsInHanded_of_change_and (C := Tryd.checked) (X := fun w _ => laidMetH Tryd.prog Rows.wordsLinesRow.laid w) (fun _ _ _ hh h => h.of_heap hh) own started (by kernel_rfl) Tryd.func3
    (ChangeSpec.witness_shaped (enc := enc) (C := Tryd.checked) (os := os) (X := fun w _ => laidMetH Tryd.prog Rows.wordsLinesRow.laid w) false (World.doorLaid Tryd.prog 4000 os) #[.string ⟨#[]⟩] 8 rfl (World.shaped_of_RefB (by kernel_rfl) (by kernel_rfl)) (by kernel_rfl) (by kernel_rfl) (by kernel_rfl) (door_met os _)) ?_
  intro W base args ds gs before hval0 hW _ _ hL _
  have hval : ∀ (j : Nat) t v, Tryd.f3.params[j]? = some t → args[j]? = some v → Value.okWide Tryd.prog W .any base t v := hval0
  have hW' := hW
  obtain ⟨p, q, hA0, hV, rfl, hfz, hnd⟩ := hW
  have hA : DataW.TrodAll enc Tryd.prog W 0 (fun _ => true) true Tryd.f3.params.toList args.toList ds p := hA0
  rw [Tryd.params3] at hA hval
  obtain ⟨v0, vs0, d0, ds0, p0, q0, hargs, rfl, rfl, h0, r0⟩ := trodAll_cons hA
  obtain ⟨rfl, rfl, rfl⟩ := trodAll_nil r0
  obtain rfl : args = #[v0] := by cases args; simp_all
  obtain ⟨rfl, rfl⟩ := trodVars_none hV
  have lt0 : ∀ x ∈ p0, x.block < W.heap.size := by obtain ⟨m, hm⟩ := h0; exact DataW.trod_lt m _ _ _ hm
  clear hA0 hval0
  refine (walk enc W (tabs_of hL) base v0 d0 p0 (hval 0 9 v0 rfl rfl) h0).mono fun e W' ⟨he, bel⟩ => ?_
  subst he
  exact ⟨_, rfl, _, _, _, [], _, [], hW', trodAll_mk1 (shut_bool Tryd.underlying4 _), (trodAll_cons_mk (Below.trod laidOut (by kernel_rfl) (of_decide_eq_true (by kernel_rfl)) h0 bel lt0) trodAll_mk0), rfl, bel.frame _, fun h => by cases h⟩

theorem over : Rows.WordsLinesSaid :=
  OpenClaim.holds_of_wide 3 Tryd.f3 rfl rfl rfl rfl rfl rfl rfl ⟨rfl, rfl, rfl, rfl, rfl⟩ rfl rfl rfl rfl rfl (by kernel_rfl) Tryd.func3 (by kernel_rfl)
    (of_decide_eq_true (by kernel_rfl)) (by unfold Func.isWrapper; first | (rw [if_pos (by decide +kernel)]; kernel_rfl) | (rw [if_neg (by decide +kernel)]; exact ⟨rfl, rfl⟩))
    (fun os started H enc _ => lifted os started H enc)

/-- THE TIED CARD. -/
theorem proved : Rows.WordsLinesCardSaid :=
  Claim7.holds_tied_plain_at .later [] [.data, .data, .data] true Rows.wordsLinesCard.stood.harness Rows.wordsLinesCard.stood.looks
    over (fun _ h => by cases h) (by kernel_rfl) (fun _ h => by cases h) wordsLines_row_tie rfl ⟨rfl, rfl⟩ (by kernel_rfl) rfl
    (fun f fn hf hfn => by
      obtain rfl : f = 3 := Option.some.inj ((show Tryd.prog.funcNamed "tholepin/tholepinlaw10.WordsLines" = some 3 by kernel_rfl).symm.trans hf) |>.symm
      obtain rfl : fn = Tryd.f3 := (Option.some.inj (Tryd.func3.symm.trans hfn)).symm
      exact ⟨by kernel_rfl, fun j t ht => by
        rw [Tryd.params3] at ht
        have hm : t ∈ [9] := by simpa using Array.mem_of_getElem? ht
        have hall : ([9].all fun u => !Tryd.prog.wantsStandIn u) = true := by kernel_rfl
        exact (show Tryd.prog.wantsStandIn t = false by simpa using List.all_eq_true.1 hall t hm)⟩)
    (by kernel_rfl)
#print axioms proved
end Go.Proofs.YtogfjejodoefeaaDoor.wordsLines
