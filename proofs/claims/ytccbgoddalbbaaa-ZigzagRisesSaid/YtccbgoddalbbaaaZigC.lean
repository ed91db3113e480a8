/- Rising lists: a step, the size; the document's bytes; two lists of numbers are the same or not. -/
import Derived.Test.YtccbgoddalbbaaaZigB
import Derived.Test.YtccbgoddalbbaaaSeq
namespace Go.Proofs.Ytccbgoddalbbaaa.Cur
open Go.RowKit Mem
set_option linter.unusedVariables false


/-- The integer by which number k of a rising list is written. -/
def stp (z : List Int) (k : Nat) : Int := if k = 0 then z.getD 0 0 else z.getD k 0 - z.getD (k - 1) 0 - 1
def rzk (z : List Int) : Nat → List Int
  | 0 => []
  | k + 1 => rzk z k ++ vz (stp z k)
def rz (z : List Int) : List Int := rzk z z.length
theorem rzk_len (z : List Int) (k : Nat) : (rzk z k).length ≤ 10 * k := by
  induction k with
  | zero => simp [rzk]
  | succ k ih => rw [rzk, List.length_append, vz_length]; have := vsz_le (stp z k); omega
theorem rzk_succ_len (z : List Int) (k : Nat) : (rzk z (k + 1)).length = (rzk z k).length + vsz (stp z k) := by rw [rzk, List.length_append, vz_length]
theorem stp_bd {z : List Int} {n k : Nat} (hz : z.length = n) (hk : k < n) (hby : ∀ x ∈ z, 0 ≤ x ∧ x < 18446744073709551616) (hr : risesB z = true) : 0 ≤ stp z k ∧ stp z k < 18446744073709551616 := by
  have h1 := hby _ (getD_mem (z := z) (k := k) (by omega))
  unfold stp
  split
  · subst k; exact h1
  · have h2 := hby _ (getD_mem (z := z) (k := k - 1) (by omega))
    have h3 := (risesB_iff z).1 hr (k - 1) (by omega)
    rw [show k - 1 + 1 = k by omega] at h3
    omega

set_option maxHeartbeats 1000000 in
theorem step_any (A : Option Addr) (n m k : Nat) (z : List Int) (w : World) (hz : Us w A n z) (hk : k < n) (hn : n ≤ 1000000) (hby : ∀ x ∈ z, 0 ≤ x ∧ x < 18446744073709551616) (hr : risesB z = true) :
    Calls Try.prog 38 #[.slice A n m, .int .i64 k] w (BPost (.int .u64 (stp z k)) w) := by
  unfold BPost
  have b0 := hby _ (getD_mem (z := z) (k := k) (by rw [hz.1]; exact hk))
  obtain ⟨g, o, rfl, hg, hc⟩ := hz.cells (by omega)
  have c0 := hc w (Below.refl _ _) k hk
  by_cases h0 : k = 0
  · subst h0
    have HS := Lib.hid (show stp z 0 = z.getD 0 0 by unfold stp; rw [if_pos rfl])
    clear hc hz hby hr
    have e0 : (0 : Nat) < n := hk
    rw [show ((0 : Nat) : Int) = 0 from rfl]
    rw [Nat.add_zero] at c0
    generalize z.getD 0 0 = x at *
    go_enter Try.func38, Try.ntmps38
    go_wp2
    go_ret
    exact ⟨by rw [HS.out]; rfl, Below.refl _ _⟩
  · have b1 := hby _ (getD_mem (z := z) (k := k - 1) (by rw [hz.1]; omega))
    have c1 := hc w (Below.refl _ _) (k - 1) (by omega)
    have h3 := (risesB_iff z).1 hr (k - 1) (by rw [hz.1]; omega)
    rw [show k - 1 + 1 = k by omega] at h3
    have HS := Lib.hid (show stp z k = z.getD k 0 - z.getD (k - 1) 0 - 1 by unfold stp; rw [if_neg h0])
    clear hc hz hby hr
    generalize z.getD k 0 = x at *
    generalize z.getD (k - 1) 0 = y at *
    obtain ⟨j, rfl⟩ : ∃ j, k = j + 1 := ⟨k - 1, by omega⟩
    rw [Nat.add_sub_cancel] at c1
    have e1 : ((j + 1 : Nat) : Int) = (j : Int) + 1 := by omega
    rw [e1]
    clear e1 h0
    have e2 : (j : Int) + 1 < n := by omega
    have e3 : (0 : Int) ≤ j := by omega
    have e4 : IntKind.i64.wrap ((j : Int) + 1 - 1) = (j : Int) := by rw [show (j : Int) + 1 - 1 = j by omega]; exact IntWalk.i64_in _ (by omega)
    have e5 : (j : Int) < n := by omega
    have e6 : ((j : Int) + 1).toNat = j + 1 := by omega
    have e7 : ((j : Int) + 1 == 0) = false := by simp; omega
    go_enter Try.func38, Try.ntmps38
    go_wp2
    go_quiet (fail)
    go_wp2
    go_ret
    exact ⟨by rw [HS.out]; rfl, below_drewN (Below.refl _ _) _⟩

set_option maxHeartbeats 1000000 in
theorem rsize_any (A : Option Addr) (n m : Nat) (z : List Int) (w : World) (hz : Us w A n z) (hn : n ≤ 1000) (hby : ∀ x ∈ z, 0 ≤ x ∧ x < 18446744073709551616) :
    Calls Try.prog 24 #[.slice A n m] w (BPost (.int .i64 (if risesB z = true then ((rz z).length : Int) else 0)) w) := by
  unfold BPost
  cases hr : risesB z with
  | false =>
    rw [if_neg (by simp)]
    have H := Lib.hid hr
    clear hr
    go_enter Try.func24, Try.ntmps24
    go_wp2_with fail
    refine (rises_any _ _ _ _ _ hz (by omega) hby).mono ?_
    rintro e w1 ⟨rfl, hb⟩
    rw [H.out]
    go_wp2
    go_ret
    exact ⟨rfl, hb⟩
  | true =>
    rw [if_pos rfl]
    have H := Lib.hid hr
    clear hr
    have HB := Lib.hid hby
    clear hby
    go_enter Try.func24, Try.ntmps24
    go_wp2_with fail
    refine (rises_any _ _ _ _ _ hz (by omega) HB.out).mono ?_
    rintro e w1 ⟨rfl, hb⟩
    rw [H.out]
    go_wp2
    go_loopw [3, 10] (fun s i wr => ∃ k : Nat, k ≤ n ∧ i = .int .i64 k ∧ s = .int .i64 (rzk z k).length ∧ Below w.heap.size w wr) (fun _ i _ => n - (intOf i).toNat)
    case atStart => exact ⟨0, by omega, rfl, rfl, hb⟩
    case round =>
      obtain ⟨k, hk, rfl, rfl, hb⟩ := hrel
      by_cases hlt : k < n
      · have hl := rzk_len z k
        have hs := rzk_succ_len z k
        have hv := vsz_le (stp z k)
        obtain ⟨s0, s1⟩ := stp_bd hz.1 hlt HB.out H.out
        have HS := Lib.hid hs
        clear hs
        go_wp2_with fail
        refine (step_any _ n m k z _ (hz.below hb) hlt (by omega) HB.out H.out).mono ?_
        rintro e w2 ⟨rfl, hb2⟩
        have hb3 := hb.trans (hb2.mono hb.size)
        clear hb2
        generalize hx : stp z k = x at *
        have HX := Lib.hid hx
        clear hx
        go_wp2_with fail
        refine (vsize_any _ _ s0 s1).mono ?_
        rintro e w3 ⟨rfl, rfl⟩
        go_wp2
        go_roundw
        case rel => exact ⟨k + 1, hlt, by go_num, by rw [HS.out]; push_cast; rfl, hb3⟩
        case measure => simp [intOf]; omega
      · obtain rfl : k = n := by omega
        have HZ := Lib.hid hz.1
        go_wp2
        go_ret
        exact ⟨by unfold rz; rw [HZ.out]; rfl, hb⟩
end Go.Proofs.Ytccbgoddalbbaaa.Cur
