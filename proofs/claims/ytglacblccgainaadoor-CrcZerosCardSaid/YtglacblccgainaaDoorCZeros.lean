/- CrcZeros: called with any number and any two ints, the law returns true; condition: crc's two tables read as the program's text lays them, to which the card ties them. -/
import Derived.Test.YtglacblccgainaaDoorRows
import Derived.Test.YtglacblccgainaaDoorK7
import Derived.Test.YtglacblccgainaaDoorCrcT
import Derived.Test.YtglacblccgainaaDoorK1
import Derived.ProofKit
import Derived.OpenShut
import Derived.ShutString
import Derived.ChangeOld
import Derived.Test.YtglacblccgainaaDoorCards
import Derived.Test.YtglacblccgainaaDoorTie
import Derived.LaidMore
import Derived.Stop.Joined
import Derived.Deep.Slices
import Derived.SevenTiedAt
namespace Go.Proofs.YtglacblccgainaaDoor.crcZeros
open Go.ChangeShapes Go.WideShapes Go.ChangeAt Go.RowKit
open Go.ChangeMaps (open_string shut_string)
set_option linter.unusedVariables false

theorem own : ownKnob Tryd.prog.godebug = none := by kernel_rfl
theorem laidOut : laidOutB Tryd.prog = true := by kernel_rfl
open Cur Mem CrcM

theorem smalls (A B S : Int) (hA : A ≤ 3000) (hB : B ≤ 3000) (hS : 8 * S.toNat = 8 * A.toNat + 8 * B.toNat) : ∃ FA FB : Nat → Nat,
    (∀ (s : Nat) (w : World), s < 2 ^ 32 → Calls Tryd.prog 20 #[.int .u32 (s : Int), .int .i64 A] w fun e w' => e = .returned (.int .u32 (FA s : Nat)) ∧ Below w.heap.size w w' ∧ FA s < 2 ^ 32) ∧
    (∀ (s : Nat) (w : World), s < 2 ^ 32 → Calls Tryd.prog 21 #[.int .u32 (s : Int), .int .i64 A] w fun e w' => e = .returned (.int .u32 (FA s : Nat)) ∧ w = w') ∧
    (∀ (s : Nat) (w : World), s < 2 ^ 32 → Calls Tryd.prog 20 #[.int .u32 (s : Int), .int .i64 B] w fun e w' => e = .returned (.int .u32 (FB s : Nat)) ∧ Below w.heap.size w w') ∧
    (∀ (s : Nat) (w : World), s < 2 ^ 32 → Calls Tryd.prog 20 #[.int .u32 (s : Int), .int .i64 S] w fun e w' => e = .returned (.int .u32 (FB (FA s) : Nat)) ∧ Below w.heap.size w w') := by
  refine ⟨csn (8 * A.toNat), csn (8 * B.toNat), fun s w hs => (zeros_any s A w hs (by omega)).mono fun e w' h => ⟨h.1, h.2, csn_lt0 _ hs⟩, fun s w hs => rzeros_any s A w hs (by omega), fun s w hs => zeros_any s B w hs (by omega), fun s w hs => ?_⟩
  have := zeros_any s S w hs (by omega)
  rw [hS, csn_add] at this
  exact this
theorem zeros_great (n : Int) (hn : n ≤ 9223372036854775807) : ∃ F : Nat → Nat, (∀ (s : Nat) (w : World), s < 2 ^ 32 → Calls Tryd.prog 20 #[.int .u32 (s : Int), .int .i64 n] w fun e w' => e = .returned (.int .u32 (F s : Nat)) ∧ Below w.heap.size w w' ∧ F s < 2 ^ 32) ∧ F = csn (8 * n.toNat) :=
  ⟨csn (8 * n.toNat), fun s w hs => (zeros_any s n w hs hn).mono fun e w' h => ⟨h.1, h.2, csn_lt0 _ hs⟩, rfl⟩
theorem greats : ∃ F : Nat → Nat, (∀ (s : Nat) (w : World), s < 2 ^ 32 → Calls Tryd.prog 20 #[.int .u32 (s : Int), .int .i64 1099511627776] w fun e w' => e = .returned (.int .u32 (F s : Nat)) ∧ Below w.heap.size w w' ∧ F s < 2 ^ 32) ∧
    (∀ (s : Nat) (w : World), s < 2 ^ 32 → Calls Tryd.prog 20 #[.int .u32 (s : Int), .int .i64 2199023255552] w fun e w' => e = .returned (.int .u32 (F (F s) : Nat)) ∧ Below w.heap.size w w') := by
  obtain ⟨F, hF, eF⟩ := zeros_great 1099511627776 (by decide)
  obtain ⟨G, hG, eG⟩ := zeros_great 2199023255552 (by decide)
  refine ⟨F, hF, fun s w hs => (hG s w hs).mono fun e w' h => ⟨?_, h.2.1⟩⟩
  have e1 : F (F s) = G s := by
    rw [eF, eG, ← csn_add]
    congr 1
  rw [e1]; exact h.1

set_option maxRecDepth 100000 in
set_option maxHeartbeats 8000000 in
theorem walk {H : Type} (enc : TypeId × Value → H) (w : World) (hT : Tbs w) (base : Nat) (v0 : Value) (d0 : DataW H) (p0 : List MemPlace) (g0 : Value.okWide Tryd.prog w .any base 22 v0) (h0 : DataW.Trod enc Tryd.prog w 0 (fun _ => true) true 22 v0 d0 p0) (v1 : Value) (d1 : DataW H) (p1 : List MemPlace) (g1 : Value.okWide Tryd.prog w .any base 3 v1) (h1 : DataW.Trod enc Tryd.prog w 0 (fun _ => true) true 3 v1 d1 p1) (v2 : Value) (d2 : DataW H) (p2 : List MemPlace) (g2 : Value.okWide Tryd.prog w .any base 3 v2) (h2 : DataW.Trod enc Tryd.prog w 0 (fun _ => true) true 3 v2 d2 p2) :
    Calls Tryd.prog 5 #[v0, v1, v2] w fun e w' => e = .returned (.bool true) ∧ Below w.heap.size w w' := by
  obtain ⟨s, rfl, s0, s1⟩ := open_u32 g0 h0
  obtain ⟨n, rfl, n0, n1⟩ := open_i64 g1 h1
  obtain ⟨m, rfl, m0, m1⟩ := open_i64 g2 h2
  clear g0 h0 g1 h1 g2 h2
  obtain ⟨s, rfl⟩ := Int.eq_ofNat_of_zero_le s0
  have HT := Lib.hid hT
  clear hT
  have hs : s < 2 ^ 32 := by omega
  obtain ⟨F, hF, hG⟩ := greats
  have HF := Lib.hid hF
  have HG := Lib.hid hG
  clear hF hG s0 s1
  rcases Int.lt_or_le 3000 n with hn | hn
  · clear n0 n1
    rcases Int.lt_or_le 3000 m with hm | hm
    · clear m0 m1
      obtain ⟨FA, FB, h1, h2, h3, h4⟩ := smalls (3000) (3000) (6000) (by omega) (by omega) (by omega)
      have H1 := Lib.hid h1
      have H2 := Lib.hid h2
      have H3 := Lib.hid h3
      have H4 := Lib.hid h4
      clear h1 h2 h3 h4
      go_enter Tryd.func5, Tryd.ntmps5
      go_wp2_with fail
      refine (H1.out s _ hs).mono ?_
      rintro e w1 ⟨rfl, hb1, hl⟩
      go_wp2_with fail
      refine (H2.out s _ hs).mono ?_
      rintro e w2 ⟨rfl, rfl⟩
      go_wp2_with fail
      refine (H1.out s _ hs).mono ?_
      rintro e w2 ⟨rfl, hb2, _⟩
      replace hb1 := hb1.trans (hb2.mono hb1.size)
      clear hb2
      go_wp2_with fail
      refine (H3.out _ _ hl).mono ?_
      rintro e w2 ⟨rfl, hb2⟩
      replace hb1 := hb1.trans (hb2.mono hb1.size)
      clear hb2 hl
      go_wp2_with fail
      refine (H4.out s _ hs).mono ?_
      rintro e w2 ⟨rfl, hb2⟩
      replace hb1 := hb1.trans (hb2.mono hb1.size)
      clear hb2
      go_wp2_with fail
      refine (HF.out s _ hs).mono ?_
      rintro e w2 ⟨rfl, hb2, hl⟩
      replace hb1 := hb1.trans (hb2.mono hb1.size)
      clear hb2
      go_wp2_with fail
      refine (HF.out _ _ hl).mono ?_
      rintro e w2 ⟨rfl, hb2, _⟩
      replace hb1 := hb1.trans (hb2.mono hb1.size)
      clear hb2
      go_wp2_with fail
      refine (HG.out s _ hs).mono ?_
      rintro e w2 ⟨rfl, hb2⟩
      replace hb1 := hb1.trans (hb2.mono hb1.size)
      clear hb2
      go_wp2_with fail
      refine (live7_any _ (HT.out.below hb1)).mono ?_
      rintro e w4 ⟨rfl, hb4⟩
      go_wp2
      go_ret
      exact ⟨rfl, hb1.trans (hb4.mono hb1.size)⟩
    · rcases Int.lt_or_le m 0 with hm0 | hm0
      · clear m0 m1
        obtain ⟨FA, FB, h1, h2, h3, h4⟩ := smalls (3000) (m) (3000) (by omega) (by omega) (by omega)
        have H1 := Lib.hid h1
        have H2 := Lib.hid h2
        have H3 := Lib.hid h3
        have H4 := Lib.hid h4
        clear h1 h2 h3 h4
        go_enter Tryd.func5, Tryd.ntmps5
        go_wp2_with fail
        refine (H1.out s _ hs).mono ?_
        rintro e w1 ⟨rfl, hb1, hl⟩
        go_wp2_with fail
        refine (H2.out s _ hs).mono ?_
        rintro e w2 ⟨rfl, rfl⟩
        go_wp2_with fail
        refine (H1.out s _ hs).mono ?_
        rintro e w2 ⟨rfl, hb2, _⟩
        replace hb1 := hb1.trans (hb2.mono hb1.size)
        clear hb2
        go_wp2_with fail
        refine (H3.out _ _ hl).mono ?_
        rintro e w2 ⟨rfl, hb2⟩
        replace hb1 := hb1.trans (hb2.mono hb1.size)
        clear hb2 hl
        go_wp2_with fail
        refine (H4.out s _ hs).mono ?_
        rintro e w2 ⟨rfl, hb2⟩
        replace hb1 := hb1.trans (hb2.mono hb1.size)
        clear hb2
        go_wp2_with fail
        refine (HF.out s _ hs).mono ?_
        rintro e w2 ⟨rfl, hb2, hl⟩
        replace hb1 := hb1.trans (hb2.mono hb1.size)
        clear hb2
        go_wp2_with fail
        refine (HF.out _ _ hl).mono ?_
        rintro e w2 ⟨rfl, hb2, _⟩
        replace hb1 := hb1.trans (hb2.mono hb1.size)
        clear hb2
        go_wp2_with fail
        refine (HG.out s _ hs).mono ?_
        rintro e w2 ⟨rfl, hb2⟩
        replace hb1 := hb1.trans (hb2.mono hb1.size)
        clear hb2
        go_wp2_with fail
        refine (live7_any _ (HT.out.below hb1)).mono ?_
        rintro e w4 ⟨rfl, hb4⟩
        go_wp2
        go_ret
        exact ⟨rfl, hb1.trans (hb4.mono hb1.size)⟩
      · clear m0 m1
        obtain ⟨FA, FB, h1, h2, h3, h4⟩ := smalls (3000) (m) (3000 + m) (by omega) (by omega) (by omega)
        have H1 := Lib.hid h1
        have H2 := Lib.hid h2
        have H3 := Lib.hid h3
        have H4 := Lib.hid h4
        clear h1 h2 h3 h4
        go_enter Tryd.func5, Tryd.ntmps5
        go_wp2_with fail
        refine (H1.out s _ hs).mono ?_
        rintro e w1 ⟨rfl, hb1, hl⟩
        go_wp2_with fail
        refine (H2.out s _ hs).mono ?_
        rintro e w2 ⟨rfl, rfl⟩
        go_wp2_with fail
        refine (H1.out s _ hs).mono ?_
        rintro e w2 ⟨rfl, hb2, _⟩
        replace hb1 := hb1.trans (hb2.mono hb1.size)
        clear hb2
        go_wp2_with fail
        refine (H3.out _ _ hl).mono ?_
        rintro e w2 ⟨rfl, hb2⟩
        replace hb1 := hb1.trans (hb2.mono hb1.size)
        clear hb2 hl
        go_wp2_with fail
        refine (H4.out s _ hs).mono ?_
        rintro e w2 ⟨rfl, hb2⟩
        replace hb1 := hb1.trans (hb2.mono hb1.size)
        clear hb2
        go_wp2_with fail
        refine (HF.out s _ hs).mono ?_
        rintro e w2 ⟨rfl, hb2, hl⟩
        replace hb1 := hb1.trans (hb2.mono hb1.size)
        clear hb2
        go_wp2_with fail
        refine (HF.out _ _ hl).mono ?_
        rintro e w2 ⟨rfl, hb2, _⟩
        replace hb1 := hb1.trans (hb2.mono hb1.size)
        clear hb2
        go_wp2_with fail
        refine (HG.out s _ hs).mono ?_
        rintro e w2 ⟨rfl, hb2⟩
        replace hb1 := hb1.trans (hb2.mono hb1.size)
        clear hb2
        go_wp2_with fail
        refine (live7_any _ (HT.out.below hb1)).mono ?_
        rintro e w4 ⟨rfl, hb4⟩
        go_wp2
        go_ret
        exact ⟨rfl, hb1.trans (hb4.mono hb1.size)⟩
  · rcases Int.lt_or_le n 0 with hn0 | hn0
    · clear n0 n1
      rcases Int.lt_or_le 3000 m with hm | hm
      · clear m0 m1
        obtain ⟨FA, FB, h1, h2, h3, h4⟩ := smalls (n) (3000) (3000) (by omega) (by omega) (by omega)
        have H1 := Lib.hid h1
        have H2 := Lib.hid h2
        have H3 := Lib.hid h3
        have H4 := Lib.hid h4
        clear h1 h2 h3 h4
        go_enter Tryd.func5, Tryd.ntmps5
        go_wp2_with fail
        refine (H1.out s _ hs).mono ?_
        rintro e w1 ⟨rfl, hb1, hl⟩
        go_wp2_with fail
        refine (H2.out s _ hs).mono ?_
        rintro e w2 ⟨rfl, rfl⟩
        go_wp2_with fail
        refine (H1.out s _ hs).mono ?_
        rintro e w2 ⟨rfl, hb2, _⟩
        replace hb1 := hb1.trans (hb2.mono hb1.size)
        clear hb2
        go_wp2_with fail
        refine (H3.out _ _ hl).mono ?_
        rintro e w2 ⟨rfl, hb2⟩
        replace hb1 := hb1.trans (hb2.mono hb1.size)
        clear hb2 hl
        go_wp2_with fail
        refine (H4.out s _ hs).mono ?_
        rintro e w2 ⟨rfl, hb2⟩
        replace hb1 := hb1.trans (hb2.mono hb1.size)
        clear hb2
        go_wp2_with fail
        refine (HF.out s _ hs).mono ?_
        rintro e w2 ⟨rfl, hb2, hl⟩
        replace hb1 := hb1.trans (hb2.mono hb1.size)
        clear hb2
        go_wp2_with fail
        refine (HF.out _ _ hl).mono ?_
        rintro e w2 ⟨rfl, hb2, _⟩
        replace hb1 := hb1.trans (hb2.mono hb1.size)
        clear hb2
        go_wp2_with fail
        refine (HG.out s _ hs).mono ?_
        rintro e w2 ⟨rfl, hb2⟩
        replace hb1 := hb1.trans (hb2.mono hb1.size)
        clear hb2
        go_wp2_with fail
        refine (live7_any _ (HT.out.below hb1)).mono ?_
        rintro e w4 ⟨rfl, hb4⟩
        go_wp2
        go_ret
        exact ⟨rfl, hb1.trans (hb4.mono hb1.size)⟩
      · rcases Int.lt_or_le m 0 with hm0 | hm0
        · clear m0 m1
          obtain ⟨FA, FB, h1, h2, h3, h4⟩ := smalls (n) (m) (0) (by omega) (by omega) (by omega)
          have H1 := Lib.hid h1
          have H2 := Lib.hid h2
          have H3 := Lib.hid h3
          have H4 := Lib.hid h4
          clear h1 h2 h3 h4
          go_enter Tryd.func5, Tryd.ntmps5
          go_wp2_with fail
          refine (H1.out s _ hs).mono ?_
          rintro e w1 ⟨rfl, hb1, hl⟩
          go_wp2_with fail
          refine (H2.out s _ hs).mono ?_
          rintro e w2 ⟨rfl, rfl⟩
          go_wp2_with fail
          refine (H1.out s _ hs).mono ?_
          rintro e w2 ⟨rfl, hb2, _⟩
          replace hb1 := hb1.trans (hb2.mono hb1.size)
          clear hb2
          go_wp2_with fail
          refine (H3.out _ _ hl).mono ?_
          rintro e w2 ⟨rfl, hb2⟩
          replace hb1 := hb1.trans (hb2.mono hb1.size)
          clear hb2 hl
          go_wp2_with fail
          refine (H4.out s _ hs).mono ?_
          rintro e w2 ⟨rfl, hb2⟩
          replace hb1 := hb1.trans (hb2.mono hb1.size)
          clear hb2
          go_wp2_with fail
          refine (HF.out s _ hs).mono ?_
          rintro e w2 ⟨rfl, hb2, hl⟩
          replace hb1 := hb1.trans (hb2.mono hb1.size)
          clear hb2
          go_wp2_with fail
          refine (HF.out _ _ hl).mono ?_
          rintro e w2 ⟨rfl, hb2, _⟩
          replace hb1 := hb1.trans (hb2.mono hb1.size)
          clear hb2
          go_wp2_with fail
          refine (HG.out s _ hs).mono ?_
          rintro e w2 ⟨rfl, hb2⟩
          replace hb1 := hb1.trans (hb2.mono hb1.size)
          clear hb2
          go_wp2_with fail
          refine (live7_any _ (HT.out.below hb1)).mono ?_
          rintro e w4 ⟨rfl, hb4⟩
          go_wp2
          go_ret
          exact ⟨rfl, hb1.trans (hb4.mono hb1.size)⟩
        · clear m0 m1
          obtain ⟨FA, FB, h1, h2, h3, h4⟩ := smalls (n) (m) (m) (by omega) (by omega) (by omega)
          have H1 := Lib.hid h1
          have H2 := Lib.hid h2
          have H3 := Lib.hid h3
          have H4 := Lib.hid h4
          clear h1 h2 h3 h4
          go_enter Tryd.func5, Tryd.ntmps5
          go_wp2_with fail
          refine (H1.out s _ hs).mono ?_
          rintro e w1 ⟨rfl, hb1, hl⟩
          go_wp2_with fail
          refine (H2.out s _ hs).mono ?_
          rintro e w2 ⟨rfl, rfl⟩
          go_wp2_with fail
          refine (H1.out s _ hs).mono ?_
          rintro e w2 ⟨rfl, hb2, _⟩
          replace hb1 := hb1.trans (hb2.mono hb1.size)
          clear hb2
          go_wp2_with fail
          refine (H3.out _ _ hl).mono ?_
          rintro e w2 ⟨rfl, hb2⟩
          replace hb1 := hb1.trans (hb2.mono hb1.size)
          clear hb2 hl
          go_wp2_with fail
          refine (H4.out s _ hs).mono ?_
          rintro e w2 ⟨rfl, hb2⟩
          replace hb1 := hb1.trans (hb2.mono hb1.size)
          clear hb2
          go_wp2_with fail
          refine (HF.out s _ hs).mono ?_
          rintro e w2 ⟨rfl, hb2, hl⟩
          replace hb1 := hb1.trans (hb2.mono hb1.size)
          clear hb2
          go_wp2_with fail
          refine (HF.out _ _ hl).mono ?_
          rintro e w2 ⟨rfl, hb2, _⟩
          replace hb1 := hb1.trans (hb2.mono hb1.size)
          clear hb2
          go_wp2_with fail
          refine (HG.out s _ hs).mono ?_
          rintro e w2 ⟨rfl, hb2⟩
          replace hb1 := hb1.trans (hb2.mono hb1.size)
          clear hb2
          go_wp2_with fail
          refine (live7_any _ (HT.out.below hb1)).mono ?_
          rintro e w4 ⟨rfl, hb4⟩
          go_wp2
          go_ret
          exact ⟨rfl, hb1.trans (hb4.mono hb1.size)⟩
    · clear n0 n1
      rcases Int.lt_or_le 3000 m with hm | hm
      · clear m0 m1
        obtain ⟨FA, FB, h1, h2, h3, h4⟩ := smalls (n) (3000) (n + 3000) (by omega) (by omega) (by omega)
        have H1 := Lib.hid h1
        have H2 := Lib.hid h2
        have H3 := Lib.hid h3
        have H4 := Lib.hid h4
        clear h1 h2 h3 h4
        go_enter Tryd.func5, Tryd.ntmps5
        go_wp2_with fail
        refine (H1.out s _ hs).mono ?_
        rintro e w1 ⟨rfl, hb1, hl⟩
        go_wp2_with fail
        refine (H2.out s _ hs).mono ?_
        rintro e w2 ⟨rfl, rfl⟩
        go_wp2_with fail
        refine (H1.out s _ hs).mono ?_
        rintro e w2 ⟨rfl, hb2, _⟩
        replace hb1 := hb1.trans (hb2.mono hb1.size)
        clear hb2
        go_wp2_with fail
        refine (H3.out _ _ hl).mono ?_
        rintro e w2 ⟨rfl, hb2⟩
        replace hb1 := hb1.trans (hb2.mono hb1.size)
        clear hb2 hl
        go_wp2_with fail
        refine (H4.out s _ hs).mono ?_
        rintro e w2 ⟨rfl, hb2⟩
        replace hb1 := hb1.trans (hb2.mono hb1.size)
        clear hb2
        go_wp2_with fail
        refine (HF.out s _ hs).mono ?_
        rintro e w2 ⟨rfl, hb2, hl⟩
        replace hb1 := hb1.trans (hb2.mono hb1.size)
        clear hb2
        go_wp2_with fail
        refine (HF.out _ _ hl).mono ?_
        rintro e w2 ⟨rfl, hb2, _⟩
        replace hb1 := hb1.trans (hb2.mono hb1.size)
        clear hb2
        go_wp2_with fail
        refine (HG.out s _ hs).mono ?_
        rintro e w2 ⟨rfl, hb2⟩
        replace hb1 := hb1.trans (hb2.mono hb1.size)
        clear hb2
        go_wp2_with fail
        refine (live7_any _ (HT.out.below hb1)).mono ?_
        rintro e w4 ⟨rfl, hb4⟩
        go_wp2
        go_ret
        exact ⟨rfl, hb1.trans (hb4.mono hb1.size)⟩
      · rcases Int.lt_or_le m 0 with hm0 | hm0
        · clear m0 m1
          obtain ⟨FA, FB, h1, h2, h3, h4⟩ := smalls (n) (m) (n) (by omega) (by omega) (by omega)
          have H1 := Lib.hid h1
          have H2 := Lib.hid h2
          have H3 := Lib.hid h3
          have H4 := Lib.hid h4
          clear h1 h2 h3 h4
          go_enter Tryd.func5, Tryd.ntmps5
          go_wp2_with fail
          refine (H1.out s _ hs).mono ?_
          rintro e w1 ⟨rfl, hb1, hl⟩
          go_wp2_with fail
          refine (H2.out s _ hs).mono ?_
          rintro e w2 ⟨rfl, rfl⟩
          go_wp2_with fail
          refine (H1.out s _ hs).mono ?_
          rintro e w2 ⟨rfl, hb2, _⟩
          replace hb1 := hb1.trans (hb2.mono hb1.size)
          clear hb2
          go_wp2_with fail
          refine (H3.out _ _ hl).mono ?_
          rintro e w2 ⟨rfl, hb2⟩
          replace hb1 := hb1.trans (hb2.mono hb1.size)
          clear hb2 hl
          go_wp2_with fail
          refine (H4.out s _ hs).mono ?_
          rintro e w2 ⟨rfl, hb2⟩
          replace hb1 := hb1.trans (hb2.mono hb1.size)
          clear hb2
          go_wp2_with fail
          refine (HF.out s _ hs).mono ?_
          rintro e w2 ⟨rfl, hb2, hl⟩
          replace hb1 := hb1.trans (hb2.mono hb1.size)
          clear hb2
          go_wp2_with fail
          refine (HF.out _ _ hl).mono ?_
          rintro e w2 ⟨rfl, hb2, _⟩
          replace hb1 := hb1.trans (hb2.mono hb1.size)
          clear hb2
          go_wp2_with fail
          refine (HG.out s _ hs).mono ?_
          rintro e w2 ⟨rfl, hb2⟩
          replace hb1 := hb1.trans (hb2.mono hb1.size)
          clear hb2
          go_wp2_with fail
          refine (live7_any _ (HT.out.below hb1)).mono ?_
          rintro e w4 ⟨rfl, hb4⟩
          go_wp2
          go_ret
          exact ⟨rfl, hb1.trans (hb4.mono hb1.size)⟩
        · clear m0 m1
          obtain ⟨FA, FB, h1, h2, h3, h4⟩ := smalls (n) (m) (n + m) (by omega) (by omega) (by omega)
          have H1 := Lib.hid h1
          have H2 := Lib.hid h2
          have H3 := Lib.hid h3
          have H4 := Lib.hid h4
          clear h1 h2 h3 h4
          go_enter Tryd.func5, Tryd.ntmps5
          go_wp2_with fail
          refine (H1.out s _ hs).mono ?_
          rintro e w1 ⟨rfl, hb1, hl⟩
          go_wp2_with fail
          refine (H2.out s _ hs).mono ?_
          rintro e w2 ⟨rfl, rfl⟩
          go_wp2_with fail
          refine (H1.out s _ hs).mono ?_
          rintro e w2 ⟨rfl, hb2, _⟩
          replace hb1 := hb1.trans (hb2.mono hb1.size)
          clear hb2
          go_wp2_with fail
          refine (H3.out _ _ hl).mono ?_
          rintro e w2 ⟨rfl, hb2⟩
          replace hb1 := hb1.trans (hb2.mono hb1.size)
          clear hb2 hl
          go_wp2_with fail
          refine (H4.out s _ hs).mono ?_
          rintro e w2 ⟨rfl, hb2⟩
          replace hb1 := hb1.trans (hb2.mono hb1.size)
          clear hb2
          go_wp2_with fail
          refine (HF.out s _ hs).mono ?_
          rintro e w2 ⟨rfl, hb2, hl⟩
          replace hb1 := hb1.trans (hb2.mono hb1.size)
          clear hb2
          go_wp2_with fail
          refine (HF.out _ _ hl).mono ?_
          rintro e w2 ⟨rfl, hb2, _⟩
          replace hb1 := hb1.trans (hb2.mono hb1.size)
          clear hb2
          go_wp2_with fail
          refine (HG.out s _ hs).mono ?_
          rintro e w2 ⟨rfl, hb2⟩
          replace hb1 := hb1.trans (hb2.mono hb1.size)
          clear hb2
          go_wp2_with fail
          refine (live7_any _ (HT.out.below hb1)).mono ?_
          rintro e w4 ⟨rfl, hb4⟩
          go_wp2
          go_ret
          exact ⟨rfl, hb1.trans (hb4.mono hb1.size)⟩

theorem tabs_of {W : World} (h : laidMetH Tryd.prog Rows.crcZerosRow.laid W) : Tbs W := by
  rw [MakeChecks.laidMetH_plain _ _ _ (by kernel_rfl)] at h
  exact tbs_of_laid h
theorem door_met (os : Os) (args : Array Value) : laidMetH Tryd.prog Rows.crcZerosRow.laid ((World.doorLaid Tryd.prog 4000 os).forCall (fun _ _ => 0) ⟨#[], args, []⟩).memory :=
  laidMetH_of_parts3 (fuel := 8) (laidMet_of_run' 8 (by kernel_rfl) (by kernel_rfl)) (by kernel_rfl) (by kernel_rfl)
set_option maxRecDepth 100000 in
theorem lifted (os : Os) (started : os.Started) (H : Type) (enc : TypeId × Value → H) :
    ReturnsInHanded {} Tryd.checked os 5 .any (fun w args => (Rows.crcZerosSpec.pre enc Tryd.prog Tryd.f5 [] false w args ∧ laidMetH Tryd.prog Rows.crcZerosRow.laid w) ∧ sizedMet enc Tryd.prog Tryd.f5 (OpenSpec.ofChange Rows.crcZerosSpec) false w args)
      (Rows.crcZerosSpec.post enc Tryd.prog Tryd.f5 false true false false) := by
  refine returnsInHanded_of_change_and (C := Tryd.checked) (X := fun w _ => laidMetH Tryd.prog Rows.crcZerosRow.laid w) (fun _ _ _ hh h => h.of_heap hh) own started (by kernel_rfl) Tryd.func5
    (ChangeSpec.witness_shaped (enc := enc) (C := Tryd.checked) (os := os) (X := fun w _ => laidMetH Tryd.prog Rows.crcZerosRow.laid w) false (World.doorLaid Tryd.prog 4000 os) #[.int .u32 0, .int .i64 0, .int .i64 0] 8 rfl (World.shaped_of_RefB (by kernel_rfl) (by kernel_rfl)) (by kernel_rfl) (by kernel_rfl) (by kernel_rfl) (door_met os _)) ?_
  intro W base args ds gs before hval0 hW _ _ hL _
  have hval : ∀ (j : Nat) t v, Tryd.f5.params[j]? = some t → args[j]? = some v → Value.okWide Tryd.prog W .any base t v := hval0
  have hW' := hW
  obtain ⟨p, q, hA0, hV, rfl, hfz, hnd⟩ := hW
  have hA : DataW.TrodAll enc Tryd.prog W 0 (fun _ => true) true Tryd.f5.params.toList args.toList ds p := hA0
  rw [Tryd.params5] at hA hval
  obtain ⟨v0, vs0, d0, ds0, p0, q0, hargs, rfl, rfl, h0, r0⟩ := trodAll_cons hA
  obtain ⟨v1, vs1, d1, ds1, p1, q1, rfl, rfl, rfl, h1, r1⟩ := trodAll_cons r0
  obtain ⟨v2, vs2, d2, ds2, p2, q2, rfl, rfl, rfl, h2, r2⟩ := trodAll_cons r1
  obtain ⟨rfl, rfl, rfl⟩ := trodAll_nil r2
  obtain rfl : args = #[v0, v1, v2] := by cases args; simp_all
  obtain ⟨rfl, rfl⟩ := trodVars_none hV
  have lt0 : ∀ x ∈ p0, x.block < W.heap.size := by obtain ⟨m, hm⟩ := h0; exact DataW.trod_lt m _ _ _ hm
  have lt1 : ∀ x ∈ p1, x.block < W.heap.size := by obtain ⟨m, hm⟩ := h1; exact DataW.trod_lt m _ _ _ hm
  have lt2 : ∀ x ∈ p2, x.block < W.heap.size := by obtain ⟨m, hm⟩ := h2; exact DataW.trod_lt m _ _ _ hm
  clear hA0 hval0
  refine (walk enc W (tabs_of hL) base v0 d0 p0 (hval 0 22 v0 rfl rfl) h0 v1 d1 p1 (hval 1 3 v1 rfl rfl) h1 v2 d2 p2 (hval 2 3 v2 rfl rfl) h2).mono fun e W' ⟨he, bel⟩ => ?_
  subst he
  exact ⟨_, rfl, _, _, _, [], _, [], hW', trodAll_mk1 (shut_bool Tryd.underlying4 _), (trodAll_cons_mk (Below.trod laidOut (by kernel_rfl) (of_decide_eq_true (by kernel_rfl)) h0 bel lt0) (trodAll_cons_mk (Below.trod laidOut (by kernel_rfl) (of_decide_eq_true (by kernel_rfl)) h1 bel lt1) (trodAll_cons_mk (Below.trod laidOut (by kernel_rfl) (of_decide_eq_true (by kernel_rfl)) h2 bel lt2) trodAll_mk0))), rfl, bel.frame _, fun h => by cases h⟩

theorem over : Rows.CrcZerosSaid :=
  OpenClaim.holds_of_wide 5 Tryd.f5 rfl rfl rfl rfl rfl rfl rfl ⟨rfl, rfl, rfl, rfl, rfl⟩ rfl rfl rfl rfl rfl (by kernel_rfl) Tryd.func5 (by kernel_rfl)
    (of_decide_eq_true (by kernel_rfl)) (by unfold Func.isWrapper; first | (rw [if_pos (by decide +kernel)]; kernel_rfl) | (rw [if_neg (by decide +kernel)]; exact ⟨rfl, rfl⟩))
    (fun os started H enc _ => lifted os started H enc)

/-- THE TIED CARD. -/
theorem proved : Rows.CrcZerosCardSaid :=
  Claim7.holds_tied_plain_at .later [] [.data, .data] true Rows.crcZerosCard.stood.harness Rows.crcZerosCard.stood.looks
    over (fun _ h => by cases h) (by kernel_rfl) (fun _ h => by cases h) crcZeros_row_tie rfl ⟨rfl, rfl⟩ (by kernel_rfl) rfl
    (fun f fn hf hfn => by
      obtain rfl : f = 5 := Option.some.inj ((show Tryd.prog.funcNamed "tholepin/tholepinlaw07.CrcZeros" = some 5 by kernel_rfl).symm.trans hf) |>.symm
      obtain rfl : fn = Tryd.f5 := (Option.some.inj (Tryd.func5.symm.trans hfn)).symm
      exact ⟨by kernel_rfl, fun j t ht => by
        rw [Tryd.params5] at ht
        have hm : t ∈ [22, 3, 3] := by simpa using Array.mem_of_getElem? ht
        have hall : ([22, 3, 3].all fun u => !Tryd.prog.wantsStandIn u) = true := by kernel_rfl
        exact (show Tryd.prog.wantsStandIn t = false by simpa using List.all_eq_true.1 hall t hm)⟩)
    (by kernel_rfl)
#print axioms proved
end Go.Proofs.YtglacblccgainaaDoor.crcZeros
