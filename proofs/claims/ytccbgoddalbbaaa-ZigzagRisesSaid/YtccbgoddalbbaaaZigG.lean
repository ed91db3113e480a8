/- The document's reader of a rising list; PutRising. -/
import Derived.Test.YtccbgoddalbbaaaZigF
namespace Go.Proofs.Ytccbgoddalbbaaa.Cur
open Go.RowKit Mem
set_option linter.unusedVariables false

def RRRgPost (s : Value) (n : Nat) (z : List Int) (p c q : Int) (N : Nat) (w : World) (e : Ending) (w' : World) : Prop :=
  ∃ v l p' c' q', e = .returned (.tuple #[cv s p' c' q', v]) ∧ OwnU w' w.heap.size v l ∧ Below w.heap.size w w' ∧ RgSt n z p c q N l p' c' q' ∧ ∀ x ∈ l, 0 ≤ x ∧ x < 18446744073709551616

def PRPost (B b : Nat) (r : Option Nat) (y : List Int) (M : Int) (w : World) (e : Ending) (w' : World) : Prop :=
  ∃ r', e = .returned (.tuple #[]) ∧ Ks (WS b r) w w' ∧ Gr r r' w ∧ Wr w' B b r' y M 0
theorem putZ_fits {z y : List Int} {M : Int} (h : (z.length : Int) + y.length ≤ M) : putZ z y M 0 = z ++ y ∧ putC z y M 0 = 0 := by
  unfold putZ putC fitsC
  rw [if_pos ⟨rfl, by omega⟩, if_neg (by omega)]
  exact ⟨rfl, rfl⟩
theorem rzk_mono (z : List Int) {i j : Nat} (h : i ≤ j) : (rzk z i).length ≤ (rzk z j).length := by
  induction j with
  | zero => obtain rfl : i = 0 := by omega
            exact Nat.le_refl _
  | succ j ih =>
    rcases Nat.lt_or_ge j i with h' | h'
    · obtain rfl : i = j + 1 := by omega
      exact Nat.le_refl _
    · have := ih h'; rw [rzk_succ_len]; omega

set_option maxHeartbeats 1000000 in
theorem putrising_yes {w : World} {B b : Nat} {r : Option Nat} {y : List Int} {M : Int} (A : Option Addr) (n m : Nat) (z : List Int) (h : Wr w B b r y M 0) (hz : Us w A n z) (hA : 0 < n → ∀ a, A = some a → ¬ WS b r a.block) (hn : n ≤ 1000) (hby : ∀ x ∈ z, 0 ≤ x ∧ x < 18446744073709551616) (hr : risesB z = true)
    (hM : (y.length : Int) + (rz z).length ≤ M) (hy : y.length ≤ 100000) (hBw : B ≤ w.heap.size) :
    Calls Try.prog 21 #[.pointer (some ⟨b, 0, none⟩), .slice A n m] w (PRPost B b r (y ++ rz z) M w) := by
  have HB := Lib.hid hby
  have HR := Lib.hid hr
  have HZ := Lib.hid hz.1
  have HM := Lib.hid hM
  clear hby hr hM
  go_enter Try.func21, Try.ntmps21
  go_wp2_with fail
  refine (rises_any _ _ _ _ _ hz (by omega) HB.out).mono ?_
  rintro e w1 ⟨rfl, hb1⟩
  rw [HR.out]
  have h1 := h.below hb1
  have hz1 := hz.below hb1
  have hBw1 : B ≤ w1.heap.size := Nat.le_trans hBw hb1.size
  have hk0 : Ks (WS b r) w w1 := Ks.of_below hb1
  have HA : Hid (0 < n → ∀ a, A = some a → a.block < w.heap.size ∧ ¬ WS b r a.block) := Lib.hid fun h0 a ha => ⟨hz.2.lt (by rw [List.length_map, hz.1]; exact h0) a ha, hA h0 a ha⟩
  clear hz h hb1 hA
  go_wp2
  go_loopw [12] (fun i wr => ∃ (k : Nat) (r' : Option Nat), k ≤ n ∧ i = .int .i64 k ∧ Ks (WS b r) w wr ∧ Gr r r' w ∧ Wr wr B b r' (y ++ rzk z k) M 0 ∧ Us wr A n z) (fun i _ => n - (intOf i).toNat)
  case atStart => exact ⟨0, r, by omega, rfl, hk0, Gr.refl _ _, by rw [rzk, List.append_nil]; exact h1, hz1⟩
  case round =>
    obtain ⟨k, r', hk, rfl, hks, hgr, hw, hus⟩ := hrel
    by_cases hlt : k < n
    · obtain ⟨s0, s1⟩ := stp_bd HZ.out hlt HB.out HR.out
      have hl := rzk_len z k
      have HFIT : Hid (((y ++ rzk z k).length : Int) + (vz (stp z k)).length ≤ M) := Lib.hid (by
        have h1 := rzk_mono z (show k + 1 ≤ n by omega)
        have h2 := HM.out
        unfold rz at h2
        rw [HZ.out] at h2
        rw [rzk_succ_len] at h1
        rw [List.length_append, vz_length]
        omega)
      have HN : Hid (rzk z (k + 1) = rzk z k ++ vz (stp z k)) := Lib.hid rfl
      go_wp2_with fail
      refine (step_any _ n m k z _ hus hlt (by omega) HB.out HR.out).mono ?_
      rintro e w2 ⟨rfl, hb2⟩
      have hks2 := hks.trans (Ks.of_below hb2)
      have hw2 := hw.below hb2
      have hus2 := hus.below hb2
      clear hks hw hus hb2
      generalize stp z k = x at *
      go_wp2_with fail
      refine (vput_any _ hw2 s0 s1 (by rw [List.length_append]; omega) (by have := hks2.size; omega)).mono ?_
      rintro e w3 ⟨r2, rfl, hk3, hg3, hw3⟩
      have hfit := putZ_fits HFIT.out
      rw [hfit.1, hfit.2, List.append_assoc, ← HN.out] at hw3
      clear hfit
      have hus3 := hus2.ks hk3 (fun h0 a ha hws => by
        obtain ⟨h1, h2⟩ := HA.out h0 a ha
        rcases hws with e | e
        · exact h2 (.inl e)
        · rcases hgr with rfl | ⟨g, rfl, hg⟩
          · exact h2 (.inr e)
          · injection e with e; omega)
      have hks3 := Ks.wr hks2 hgr hk3
      have hgr3 : Gr r r2 w := hgr.trans hg3 hks2.size
      clear hks2 hk3 hw2 hus2 hg3 hgr
      go_wp2
      go_roundw
      case rel => exact ⟨k + 1, r2, hlt, by go_num, hks3, hgr3, hw3, hus3⟩
      case measure => simp [intOf]; omega
    · obtain rfl : k = n := by omega
      have hrz : rzk z k = rz z := by unfold rz; rw [HZ.out]
      rw [hrz] at hw
      go_wp2
      go_end0
      exact ⟨r', rfl, hks, hgr, hw⟩

set_option maxHeartbeats 400000 in
theorem putrising_no {w : World} {B b : Nat} {r : Option Nat} {y : List Int} {M c : Int} (A : Option Addr) (n m : Nat) (z : List Int) (h : Wr w B b r y M c) (hz : Us w A n z) (hn : n ≤ 1000) (hby : ∀ x ∈ z, 0 ≤ x ∧ x < 18446744073709551616) (hr : risesB z = false) :
    Calls Try.prog 21 #[.pointer (some ⟨b, 0, none⟩), .slice A n m] w (WFailPost B b r y M c 3 w) := by
  have HR := Lib.hid hr
  clear hr
  go_enter Try.func21, Try.ntmps21
  go_wp2_with fail
  refine (rises_any _ _ _ _ _ hz (by omega) hby).mono ?_
  rintro e w1 ⟨rfl, hb1⟩
  rw [HR.out]
  have h1 := h.below hb1
  go_wp2_with fail
  refine (wfail_any 3 h1).mono ?_
  rintro e w2 ⟨rfl, hk, hw⟩
  go_wp2
  go_end0
  exact ⟨rfl, (Ks.of_below hb1).trans hk, hw⟩
end Go.Proofs.Ytccbgoddalbbaaa.Cur
