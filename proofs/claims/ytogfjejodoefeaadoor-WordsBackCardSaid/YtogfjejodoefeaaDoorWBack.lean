/- WordsBack: called with any number, bytes and list of numbers, the law returns true; condition: the tables of the library's number texts read as the program's text lays them, to which the card ties them. -/
import Derived.Test.YtogfjejodoefeaaDoorRows
import Derived.Test.YtogfjejodoefeaaDoorWrdL
import Derived.Test.YtogfjejodoefeaaDoorK1
import Derived.Test.YtogfjejodoefeaaDoorWrdT
import Derived.Test.YtogfjejodoefeaaDoorSamU
import Derived.ProofKit
import Derived.OpenShut
import Derived.ShutString
import Derived.ChangeOld
import Derived.Test.YtogfjejodoefeaaDoorCards
import Derived.Test.YtogfjejodoefeaaDoorTie
import Derived.LaidMore
import Derived.Stop.Joined
import Derived.Deep.Slices
import Derived.SevenTiedAt
namespace Go.Proofs.YtogfjejodoefeaaDoor.wordsBack
open Go.ChangeShapes Go.WideShapes Go.ChangeAt Go.RowKit
open Go.ChangeMaps (open_string shut_string)
set_option linter.unusedVariables false

theorem own : ownKnob Tryd.prog.godebug = none := by kernel_rfl
theorem laidOut : laidOutB Tryd.prog = true := by kernel_rfl
open Cur Mem


set_option maxRecDepth 100000 in
set_option maxHeartbeats 4000000 in
theorem walk {H : Type} (enc : TypeId × Value → H) (w : World) (hT : Tbs w) (base : Nat) (v0 : Value) (d0 : DataW H) (p0 : List MemPlace) (g0 : Value.okWide Tryd.prog w .any base 33 v0) (h0 : DataW.Trod enc Tryd.prog w 0 (fun _ => true) true 33 v0 d0 p0) (v1 : Value) (d1 : DataW H) (p1 : List MemPlace) (g1 : Value.okWide Tryd.prog w .any base 34 v1) (h1 : DataW.Trod enc Tryd.prog w 0 (fun _ => true) true 34 v1 d1 p1) (v2 : Value) (d2 : DataW H) (p2 : List MemPlace) (g2 : Value.okWide Tryd.prog w .any base 35 v2) (h2 : DataW.Trod enc Tryd.prog w 0 (fun _ => true) true 35 v2 d2 p2) :
    Calls Tryd.prog 6 #[v0, v1, v2] w fun e w' => e = .returned (.bool true) ∧ Below w.heap.size w w' := by
  obtain ⟨x, rfl, x0, x1⟩ := open_u64 g0 h0
  obtain ⟨a, nb, mb, z, rfl, hnm, hz, hby, _⟩ := open_bytes g1 h1
  obtain ⟨a2, nl, ml, l, rfl, hnl, hl, hlb, _⟩ := open_u64s g2 h2
  clear g0 h0 g1 h1 g2 h2
  have HT := Lib.hid hT
  have HB := Lib.hid hby
  have HL := Lib.hid hlb
  clear hT hby hlb
  by_cases hn : 300 < (nb : Int)
  · go_enter Tryd.func6, Tryd.ntmps6
    go_wp2_with fail
    refine (live10_any _ HT.out).mono ?_
    rintro e w9 ⟨rfl, hb9⟩
    go_wp2
    go_ret
    exact ⟨rfl, hb9⟩
  by_cases hn2 : 200 < (nl : Int)
  · go_enter Tryd.func6, Tryd.ntmps6
    go_wp2_with fail
    refine (live10_any _ HT.out).mono ?_
    rintro e w9 ⟨rfl, hb9⟩
    go_wp2
    go_ret
    exact ⟨rfl, hb9⟩
  obtain ⟨u, rfl⟩ := Int.eq_ofNat_of_zero_le x0
  have hu : u < 18446744073709551616 := by omega
  have hzl := hz.1
  have hll := hl.1
  have hsz : (hxw z).size ≤ 100000 := by
    unfold hxw
    split
    · show (txt [45]).size ≤ _
      decide
    · unfold txt
      show (List.map b8 (Cur.hz z z.length)).toArray.size ≤ _
      simp [hz_len]
      omega
  have hls : (lword l).size ≤ 100000 := by
    unfold lword
    split
    · show (⟨#[45]⟩ : ByteArray).size ≤ _
      decide
    · have := (lw_len HL.out l.length (Nat.le_refl _)).1
      show (lw l l.length).toArray.size ≤ _
      simp
      omega
  have C1 : Hid (∀ w', Tbs w' → Calls Tryd.prog 15 #[.int .u64 (u : Int)] w' fun e w'' => e = .returned (.string (su (Lib.decDigits u))) ∧ Below w'.heap.size w' w'') := Lib.hid (fun w' h => num_any u w' hu h)
  have C2 : Hid (∀ w', Tbs w' → Calls Tryd.prog 21 #[.string (su (Lib.decDigits u))] w' fun e w'' => e = .returned (.tuple #[.int .u64 (u : Int), .bool true]) ∧ Below w'.heap.size w' w'') := Lib.hid (fun w' h => by
    have := readnum_any (su (Lib.decDigits u)) w' h
    rwa [rnv_dec u hu] at this)
  have C3 : Hid (∀ w', Below w.heap.size w w' → _) := Lib.hid (fun w' h => hex_any a nb mb z w' (hz.below h) (by omega) HB.out)
  have C4 : Hid (∀ w', Calls Tryd.prog 22 #[.string (hxw z)] w' fun e w'' => ∃ v, e = .returned (.tuple #[v, .bool true]) ∧ Own w'' w'.heap.size v z ∧ Below w'.heap.size w' w'') := Lib.hid (fun w' => by
    have := unhex_any (hxw z) hsz w'
    unfold UhPost at this
    rwa [uhx_back HB.out] at this)
  have C5 : Hid (∀ w', Below w.heap.size w w' → _) := Lib.hid (fun w' h => list_any a2 nl ml l w' (hl.below h) (by omega) HL.out (HT.out.below h))
  have C6 : Hid (∀ w', Tbs w' → Calls Tryd.prog 23 #[.string (lword l)] w' fun e w'' => ∃ v, e = .returned (.tuple #[v, .bool true]) ∧ OwnU w'' w'.heap.size v l ∧ Below w'.heap.size w' w'') := Lib.hid (fun w' h => by
    refine (readlist_any (lword l) hls w' h).mono ?_
    rintro e w'' ⟨v, m, ok, rfl, ho, hb, hm, h1, h2⟩
    cases ok with
    | true =>
      obtain rfl := lword_eq hm HL.out (h1 rfl)
      exact ⟨v, rfl, ho, hb⟩
    | false => exact absurd rfl ((h2 rfl).2 l HL.out))
  clear hsz hls hu x0 x1 hzl hll
  have HZ := Lib.hid hz
  have HLL := Lib.hid hl
  clear hz hl
  generalize su (Lib.decDigits u) = S1 at *
  generalize hxw z = S2 at *
  generalize lword l = S3 at *
  go_enter Tryd.func6, Tryd.ntmps6
  go_wp2_with fail
  with_reducible refine (C1.out _ HT.out).mono ?_
  rintro e w1 ⟨rfl, hb1⟩
  go_wp2_with fail
  with_reducible refine (C2.out _ (HT.out.below hb1)).mono ?_
  rintro e w2 ⟨rfl, hb2⟩
  have hd2 := hb1.trans (hb2.mono hb1.size)
  clear hb1 hb2
  go_wp2_with fail
  with_reducible refine (C3.out _ hd2).mono ?_
  rintro e w3 ⟨rfl, hb3⟩
  have hd3 := hd2.trans (hb3.mono hd2.size)
  clear hd2 hb3
  go_wp2_with fail
  with_reducible refine (C4.out _).mono ?_
  rintro e w4 ⟨v4, rfl, ho4, hb4⟩
  have hd4 := hd3.trans (hb4.mono hd3.size)
  clear hd3 hb4
  go_wp2_with fail
  with_reducible refine (C5.out _ hd4).mono ?_
  rintro e w5 ⟨rfl, hb5⟩
  have hd5 := hd4.trans (hb5.mono hd4.size)
  replace ho4 := own_below ho4 hb5
  clear hd4 hb5
  go_wp2_with fail
  with_reducible refine (C6.out _ (HT.out.below hd5)).mono ?_
  rintro e w6 ⟨v6, rfl, ho6, hb6⟩
  have hd6 := hd5.trans (hb6.mono hd5.size)
  replace ho4 : Own w6 _ v4 z := own_below ho4 hb6
  clear hd5 hb6
  obtain ⟨A4, k4, rfl⟩ := ho4.slice
  obtain ⟨A6, k6, rfl⟩ := OwnU.slice ho6
  have hbs := ho4.bs.2
  obtain ⟨_, _, _, hus⟩ := OwnU.us ho6
  have hll := HLL.out.1
  have e1 : ((u : Int) == (u : Int)) = true := by simp
  clear ho4 ho6
  go_wp2_with fail
  with_reducible refine (same_any A4 a z.length nb k4 mb z _ hbs (HZ.out.below hd6)).mono ?_
  rintro e w7 ⟨rfl, rfl⟩
  go_wp2_with fail
  rw [hll] at hus
  with_reducible refine (same5_any A6 a2 nl nl k6 ml l _ hus (HLL.out.below hd6) (by omega) HL.out).mono ?_
  rintro e w8 ⟨rfl, hb8⟩
  have hd8 := hd6.trans (hb8.mono hd6.size)
  clear hb8 hus hbs
  go_wp2_with fail
  refine (live10_any _ (HT.out.below hd8)).mono ?_
  rintro e w9 ⟨rfl, hb9⟩
  have hd9 := hd8.trans (hb9.mono hd8.size)
  clear hb9
  go_wp2
  go_ret
  exact ⟨rfl, hd9⟩

theorem tabs_of {W : World} (h : laidMetH Tryd.prog Rows.wordsBackRow.laid W) : Tbs W := by
  rw [MakeChecks.laidMetH_plain _ _ _ (by kernel_rfl)] at h
  exact tbs_of_laid h
theorem door_met (os : Os) (args : Array Value) : laidMetH Tryd.prog Rows.wordsBackRow.laid ((World.doorLaid Tryd.prog 4000 os).forCall (fun _ _ => 0) ⟨#[], args, []⟩).memory :=
  laidMetH_of_parts3 (fuel := 8) (laidMet_of_run' 8 (by kernel_rfl) (by kernel_rfl)) (by kernel_rfl) (by kernel_rfl)
set_option maxRecDepth 100000 in
theorem lifted (os : Os) (started : os.Started) (H : Type) (enc : TypeId × Value → H) :
    ReturnsInHanded {} Tryd.checked os 6 .any (fun w args => (Rows.wordsBackSpec.pre enc Tryd.prog Tryd.f6 [] false w args ∧ laidMetH Tryd.prog Rows.wordsBackRow.laid w) ∧ sizedMet enc Tryd.prog Tryd.f6 (OpenSpec.ofChange Rows.wordsBackSpec) false w args)
      (Rows.wordsBackSpec.post enc Tryd.prog Tryd.f6 false true false false) := by
  refine returnsInHanded_of_change_and (C := Tryd.checked) (X := fun w _ => laidMetH Tryd.prog Rows.wordsBackRow.laid w) (fun _ _ _ hh h => h.of_heap hh) own started (by kernel_rfl) Tryd.func6
    (ChangeSpec.witness_shaped (enc := enc) (C := Tryd.checked) (os := os) (X := fun w _ => laidMetH Tryd.prog Rows.wordsBackRow.laid w) false (World.doorLaid Tryd.prog 4000 os) #[.int .u64 0, .slice none 0 0, .slice none 0 0] 8 rfl (World.shaped_of_RefB (by kernel_rfl) (by kernel_rfl)) (by kernel_rfl) (by kernel_rfl) (by kernel_rfl) (door_met os _)) ?_
  intro W base args ds gs before hval0 hW _ _ hL _
  have hval : ∀ (j : Nat) t v, Tryd.f6.params[j]? = some t → args[j]? = some v → Value.okWide Tryd.prog W .any base t v := hval0
  have hW' := hW
  obtain ⟨p, q, hA0, hV, rfl, hfz, hnd⟩ := hW
  have hA : DataW.TrodAll enc Tryd.prog W 0 (fun _ => true) true Tryd.f6.params.toList args.toList ds p := hA0
  rw [Tryd.params6] at hA hval
  obtain ⟨v0, vs0, d0, ds0, p0, q0, hargs, rfl, rfl, h0, r0⟩ := trodAll_cons hA
  obtain ⟨v1, vs1, d1, ds1, p1, q1, rfl, rfl, rfl, h1, r1⟩ := trodAll_cons r0
  obtain ⟨v2, vs2, d2, ds2, p2, q2, rfl, rfl, rfl, h2, r2⟩ := trodAll_cons r1
  obtain ⟨rfl, rfl, rfl⟩ := trodAll_nil r2
  obtain rfl : args = #[v0, v1, v2] := by cases args; simp_all
  obtain ⟨rfl, rfl⟩ := trodVars_none hV
  have lt0 : ∀ x ∈ p0, x.block < W.heap.size := by obtain ⟨m, hm⟩ := h0; exact DataW.trod_lt m _ _ _ hm
  have lt1 : ∀ x ∈ p1, x.block < W.heap.size := by obtain ⟨m, hm⟩ := h1; exact DataW.trod_lt m _ _ _ hm
  have lt2 : ∀ x ∈ p2, x.block < W.heap.size := by obtain ⟨m, hm⟩ := h2; exact DataW.trod_lt m _ _ _ hm
  clear hA0 hval0
  refine (walk enc W (tabs_of hL) base v0 d0 p0 (hval 0 33 v0 rfl rfl) h0 v1 d1 p1 (hval 1 34 v1 rfl rfl) h1 v2 d2 p2 (hval 2 35 v2 rfl rfl) h2).mono fun e W' ⟨he, bel⟩ => ?_
  subst he
  exact ⟨_, rfl, _, _, _, [], _, [], hW', trodAll_mk1 (shut_bool Tryd.underlying4 _), (trodAll_cons_mk (Below.trod laidOut (by kernel_rfl) (of_decide_eq_true (by kernel_rfl)) h0 bel lt0) (trodAll_cons_mk (Below.trod laidOut (by kernel_rfl) (of_decide_eq_true (by kernel_rfl)) h1 bel lt1) (trodAll_cons_mk (Below.trod laidOut (by kernel_rfl) (of_decide_eq_true (by kernel_rfl)) h2 bel lt2) trodAll_mk0))), rfl, bel.frame _, fun h => by cases h⟩

theorem over : Rows.WordsBackSaid :=
  OpenClaim.holds_of_wide 6 Tryd.f6 rfl rfl rfl rfl rfl rfl rfl ⟨rfl, rfl, rfl, rfl, rfl⟩ rfl rfl rfl rfl rfl (by kernel_rfl) Tryd.func6 (by kernel_rfl)
    (of_decide_eq_true (by kernel_rfl)) (by unfold Func.isWrapper; first | (rw [if_pos (by decide +kernel)]; kernel_rfl) | (rw [if_neg (by decide +kernel)]; exact ⟨rfl, rfl⟩))
    (fun os started H enc _ => lifted os started H enc)

/-- THE TIED CARD. -/
theorem proved : Rows.WordsBackCardSaid :=
  Claim7.holds_tied_plain_at .later [] [.data, .data, .data] true Rows.wordsBackCard.stood.harness Rows.wordsBackCard.stood.looks
    over (fun _ h => by cases h) (by kernel_rfl) (fun _ h => by cases h) wordsBack_row_tie rfl ⟨rfl, rfl⟩ (by kernel_rfl) rfl
    (fun f fn hf hfn => by
      obtain rfl : f = 6 := Option.some.inj ((show Tryd.prog.funcNamed "tholepin/tholepinlaw10.WordsBack" = some 6 by kernel_rfl).symm.trans hf) |>.symm
      obtain rfl : fn = Tryd.f6 := (Option.some.inj (Tryd.func6.symm.trans hfn)).symm
      exact ⟨by kernel_rfl, fun j t ht => by
        rw [Tryd.params6] at ht
        have hm : t ∈ [33, 34, 35] := by simpa using Array.mem_of_getElem? ht
        have hall : ([33, 34, 35].all fun u => !Tryd.prog.wantsStandIn u) = true := by kernel_rfl
        exact (show Tryd.prog.wantsStandIn t = false by simpa using List.all_eq_true.1 hall t hm)⟩)
    (by kernel_rfl)
#print axioms proved
end Go.Proofs.YtogfjejodoefeaaDoor.wordsBack
