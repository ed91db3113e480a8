/- EpochWrites: called with any number, the law returns true; no condition. -/
import Derived.Test.YtpilpkhgoonfaaaRows
import Derived.Test.YtpilpkhgoonfaaaEpoC
import Derived.Test.YtpilpkhgoonfaaaK1
import Derived.ProofKit
import Derived.OpenShut
import Derived.ShutString
import Derived.ChangeOld
namespace Go.Proofs.Ytpilpkhgoonfaaa.epochWrites
open Go.ChangeShapes Go.WideShapes Go.ChangeAt Go.RowKit
open Go.ChangeMaps (open_string shut_string)
set_option linter.unusedVariables false

theorem own : ownKnob Try.prog.godebug = none := by kernel_rfl
theorem laidOut : laidOutB Try.prog = true := by kernel_rfl
open Cur Mem

set_option maxRecDepth 100000 in
set_option maxHeartbeats 4000000 in
theorem walk {H : Type} (enc : TypeId × Value → H) (w : World) (base : Nat) (v0 : Value) (d0 : DataW H) (p0 : List MemPlace) (g0 : Value.okWide Try.prog w .any base 22 v0) (h0 : DataW.Trod enc Try.prog w 0 (fun _ => true) true 22 v0 d0 p0) :
    Calls Try.prog 3 #[v0] w fun e w' => e = .returned (.bool true) ∧ Below w.heap.size w w' := by
  obtain ⟨x, rfl, x0, x1⟩ := open_u64 g0 h0
  clear g0 h0
  have HVL := Lib.hid (vz_length x)
  have hx10 := vsz_le x
  have HP : Hid (putZ [] (vz x) 20 0 = vz x ∧ putC [] (vz x) 20 0 = 0) := Lib.hid (by
    have h := putZ_fits (z := []) (y := vz x) (M := 20) (by rw [vz_length]; simp; omega)
    exact h)
  go_enter Try.func3, Try.ntmps3
  go_wp2_with fail
  refine (eright_any _ _).mono ?_
  rintro e w1 ⟨rfl, rfl⟩
  go_wp2_with fail
  refine (rright17_any _ x0 _).mono ?_
  rintro e w1 ⟨rfl, rfl⟩
  go_wp2_with fail
  refine (epos_any _ _).mono ?_
  rintro e w1 ⟨rfl, rfl⟩
  go_wp2_with fail
  refine (rpos17_any _ _).mono ?_
  rintro e w1 ⟨rfl, rfl⟩
  go_wp2_with fail
  refine (wnew_any 20 _ (by omega)).mono ?_
  rintro e w1 ⟨b1, rfl, hg1, hb1, hw1⟩
  rw [if_neg (by omega)] at hw1
  go_wp2_with fail
  refine (wnew_any 20 _ (by omega)).mono ?_
  rintro e w2 ⟨b2, rfl, hg2, hb2, hw2⟩
  rw [if_neg (by omega)] at hw2
  have hlt1 := hw1.lt
  replace hw1 := hw1.below hb2
  have hbd := hb1.trans (hb2.mono hb1.size)
  have hsz1 := hb1.size
  clear hb1 hb2
  go_wp2_with fail
  refine (eput_any x hw1 x0 x1 (by simp) hbd.size).mono ?_
  rintro e w3 (⟨hE, r1, rfl, hk, hgr, hw3⟩ | ⟨hE, rfl, hk, hw3⟩)
  · have HE := Lib.hid hE
    clear hE
    rw [HP.out.1, HP.out.2] at hw3
    have hw2' := hw2.ks hk (by
      rintro i (rfl | h)
      · exact fun hs => by have := WS.ge hw2 _ hs; omega
      · cases h)
    replace hbd := hw1.belowOf hbd (Nat.le_refl _) hk (Nat.le_refl _)
    have hoff : ∀ i, WS b2 none i → ¬ WS b1 r1 i := by
      have := hw2.lt
      rintro i (rfl | h)
      · rintro (h | h)
        · omega
        · rcases hgr with rfl | ⟨g, rfl, hg⟩
          · cases h
          · cases h; omega
      · cases h
    clear hw1 hw2 hk hgr
    have hB2 : w1.heap.size ≤ w3.heap.size := by have := hw2'.lt; omega
    go_wp2_with fail
    refine (eputpos_any x hw2' x0 x1 (by simp) hB2).mono ?_
    rintro e w4 (⟨hF, r2, rfl, hk, _, hw4⟩ | ⟨hF, rfl, hk, hw4⟩)
    · have HF := Lib.hid hF
      clear hF
      rw [HP.out.1, HP.out.2] at hw4
      have hw5 := hw3.ks hk hoff
      replace hbd := hw2'.belowOf hbd (Nat.le_refl _) hk hsz1
      clear hw2' hw3 hoff hk
      go_wp2_with fail
      refine (wbytes_good hw5 (by rw [HVL.out]; omega)).mono ?_
      rintro e w5 ⟨g5, rfl, hg5, hb5, hblk5⟩
      have hs5 := Bs.of_block hblk5
      rw [HVL.out] at hs5 ⊢
      replace hbd := hbd.trans (hb5.mono hbd.size)
      replace hw4 := hw4.below hb5
      clear hblk5 hb5 hw5
      go_wp2_with fail
      refine (wbytes_good hw4 (by rw [HVL.out]; omega)).mono ?_
      rintro e w6 ⟨g6, rfl, hg6, hb6, hblk6⟩
      have hs6 := Bs.of_block hblk6
      rw [HVL.out] at hs6 ⊢
      replace hs5 := hs5.below hb6
      replace hbd := hbd.trans (hb6.mono hbd.size)
      clear hblk6 hb6 hw4
      go_wp2_with fail
      refine (rright17_any _ x0 _).mono ?_
      rintro e w7 ⟨rfl, rfl⟩
      rw [HE.out]
      go_wp2_with fail
      refine (rpos17_any _ _).mono ?_
      rintro e w7 ⟨rfl, rfl⟩
      rw [HF.out]
      go_wp2_with fail
      refine (rbytes_any 10 _ _ (vsz_le _) x0 x1).mono ?_
      rintro e w9 ⟨A9, m9, rfl, hb9, hbs9, _, _⟩
      rw [HVL.out] at hbs9 ⊢
      have hs9 := (hs5).below hb9
      replace hbd := hbd.trans (hb9.mono hbd.size)
      go_wp2_with fail
      refine (same_any _ _ _ _ _ _ (vz x) _ hs9 hbs9).mono ?_
      rintro e w10 ⟨rfl, rfl⟩
      replace hs6 := hs6.below hb9
      clear hb9 hbs9 hs9 hs5
      go_wp2_with fail
      refine (rbytes_any 10 _ _ (vsz_le _) x0 x1).mono ?_
      rintro e w9 ⟨A9, m9, rfl, hb9, hbs9, _, _⟩
      rw [HVL.out] at hbs9 ⊢
      have hs9 := (hs6).below hb9
      replace hbd := hbd.trans (hb9.mono hbd.size)
      go_wp2_with fail
      refine (same_any _ _ _ _ _ _ (vz x) _ hs9 hbs9).mono ?_
      rintro e w10 ⟨rfl, rfl⟩
      go_wp2_with fail
      refine (live17_any _).mono ?_
      rintro e w12 ⟨rfl, rfl⟩
      go_wp2
      go_ret
      exact ⟨rfl, hbd⟩
    · exfalso
      have he := epk_bd HE.out
      have : psk x = true := decide_eq_true he.2
      rw [this] at hF; cases hF
  · have HE := Lib.hid hE
    clear hE
    rw [if_pos rfl] at hw3
    have hw2' := hw2.ks hk (by
      rintro i (rfl | h)
      · exact fun hs => by have := WS.ge hw2 _ hs; omega
      · cases h)
    replace hbd := hw1.belowOf hbd (Nat.le_refl _) hk (Nat.le_refl _)
    have hoff : ∀ i, WS b2 none i → ¬ WS b1 none i := by
      have := hw2.lt
      rintro i (rfl | h)
      · rintro (h | h)
        · omega
        · cases h
      · cases h
    clear hw1 hw2 hk
    have hB2 : w1.heap.size ≤ w3.heap.size := by have := hw2'.lt; omega
    go_wp2_with fail
    refine (eputpos_any x hw2' x0 x1 (by simp) hB2).mono ?_
    rintro e w4 (⟨hF, r2, rfl, hk, _, hw4⟩ | ⟨hF, rfl, hk, hw4⟩)
    · have HF := Lib.hid hF
      clear hF
      rw [HP.out.1, HP.out.2] at hw4
      have hw5 := hw3.ks hk hoff
      replace hbd := hw2'.belowOf hbd (Nat.le_refl _) hk hsz1
      clear hw2' hw3 hoff hk
      go_wp2_with fail
      refine (wbytes_bad hw5 (by decide)).mono ?_
      rintro e w5 ⟨rfl, rfl⟩
      go_wp2_with fail
      refine (wbytes_good hw4 (by rw [HVL.out]; omega)).mono ?_
      rintro e w6 ⟨g6, rfl, hg6, hb6, hblk6⟩
      have hs6 := Bs.of_block hblk6
      rw [HVL.out] at hs6 ⊢
      replace hbd := hbd.trans (hb6.mono hbd.size)
      clear hblk6 hb6 hw4
      go_wp2_with fail
      refine (rright17_any _ x0 _).mono ?_
      rintro e w7 ⟨rfl, rfl⟩
      rw [HE.out]
      go_wp2_with fail
      refine (rpos17_any _ _).mono ?_
      rintro e w7 ⟨rfl, rfl⟩
      rw [HF.out]
      go_wp2_with fail
      refine (rbytes_any 10 _ _ (vsz_le _) x0 x1).mono ?_
      rintro e w9 ⟨A9, m9, rfl, hb9, hbs9, _, _⟩
      rw [HVL.out] at hbs9 ⊢
      have hs9 := (hs6).below hb9
      replace hbd := hbd.trans (hb9.mono hbd.size)
      go_wp2_with fail
      refine (same_any _ _ _ _ _ _ (vz x) _ hs9 hbs9).mono ?_
      rintro e w10 ⟨rfl, rfl⟩
      go_wp2_with fail
      refine (live17_any _).mono ?_
      rintro e w12 ⟨rfl, rfl⟩
      go_wp2
      go_ret
      exact ⟨rfl, hbd⟩
    · have HF := Lib.hid hF
      clear hF
      rw [if_pos rfl] at hw4
      have hw5 := hw3.ks hk hoff
      replace hbd := hw2'.belowOf hbd (Nat.le_refl _) hk hsz1
      clear hw2' hw3 hoff hk
      go_wp2_with fail
      refine (wbytes_bad hw5 (by decide)).mono ?_
      rintro e w5 ⟨rfl, rfl⟩
      go_wp2_with fail
      refine (wbytes_bad hw4 (by decide)).mono ?_
      rintro e w6 ⟨rfl, rfl⟩
      go_wp2_with fail
      refine (rright17_any _ x0 _).mono ?_
      rintro e w7 ⟨rfl, rfl⟩
      rw [HE.out]
      go_wp2_with fail
      refine (rpos17_any _ _).mono ?_
      rintro e w7 ⟨rfl, rfl⟩
      rw [HF.out]
      go_wp2_with fail
      refine (live17_any _).mono ?_
      rintro e w12 ⟨rfl, rfl⟩
      go_wp2
      go_ret
      exact ⟨rfl, hbd⟩

set_option maxRecDepth 100000 in
theorem lifted (os : Os) (started : os.Started) (H : Type) (enc : TypeId × Value → H) :
    ReturnsInHanded {} Try.checked os 3 .any (Rows.epochWritesSpec.pre6 enc Try.prog Try.f3 Rows.epochWritesRow.domain false) (Rows.epochWritesSpec.post enc Try.prog Try.f3 false true false false) := by
  refine returnsInHanded_of_change (C := Try.checked) own started (by kernel_rfl) Try.func3
    (ChangeSpec.witness6 (enc := enc) (C := Try.checked) false ⟨#[], #[.int .u64 0], []⟩ 8 (by kernel_rfl) (by kernel_rfl) (by kernel_rfl) (by kernel_rfl)) ?_
  intro W base args ds gs before hval0 hW hcnd _
  have hval : ∀ (j : Nat) t v, Try.f3.params[j]? = some t → args[j]? = some v → Value.okWide Try.prog W .any base t v := hval0
  have hW' := hW
  obtain ⟨p, q, hA0, hV, rfl, hfz, hnd⟩ := hW
  have hA : DataW.TrodAll enc Try.prog W 0 (fun _ => true) true Try.f3.params.toList args.toList ds p := hA0
  rw [Try.params3] at hA hval
  obtain ⟨v0, vs0, d0, ds0, p0, q0, hargs, rfl, rfl, h0, r0⟩ := trodAll_cons hA
  obtain ⟨rfl, rfl, rfl⟩ := trodAll_nil r0
  obtain rfl : args = #[v0] := by cases args; simp_all
  obtain ⟨rfl, rfl⟩ := trodVars_none hV
  have lt0 : ∀ x ∈ p0, x.block < W.heap.size := by obtain ⟨m, hm⟩ := h0; exact DataW.trod_lt m _ _ _ hm
  clear hA0 hval0
  refine (walk enc W base v0 d0 p0 (hval 0 22 v0 rfl rfl) h0).mono fun e W' ⟨he, bel⟩ => ?_
  subst he
  exact ⟨_, rfl, _, _, _, [], _, [], hW', trodAll_mk1 (shut_bool Try.underlying4 _), (trodAll_cons_mk (Below.trod laidOut (by kernel_rfl) (of_decide_eq_true (by kernel_rfl)) h0 bel lt0) trodAll_mk0), rfl, bel.frame _, fun h => by cases h⟩

theorem over : Rows.epochWritesRow.holds Try.pinned (OpenSpec.ofChange Rows.epochWritesSpec) :=
  OpenClaim.holds_of_wide 3 Try.f3 rfl rfl rfl rfl rfl rfl rfl ⟨rfl, rfl, rfl, rfl, rfl⟩ rfl rfl rfl rfl rfl (by kernel_rfl) Try.func3 (by kernel_rfl)
    (of_decide_eq_true (by kernel_rfl)) (by unfold Func.isWrapper; first | (rw [if_pos (by decide +kernel)]; kernel_rfl) | (rw [if_neg (by decide +kernel)]; exact ⟨rfl, rfl⟩))
    (fun os started H enc _ => lifted os started H enc)

/-- THE STATEMENT. -/
theorem proved : Rows.EpochWritesSaid := over
#print axioms proved
end Go.Proofs.Ytpilpkhgoonfaaa.epochWrites
