/- As the seat's text, without what nothing here names. -/
import Derived.Test.YtoemmppoejaapaaPekFf
import Derived.Test.YtoemmppoejaapaaK30f
namespace Go.Proofs.Ytoemmppoejaapaa.Cur
open Go.RowKit Mem
set_option linter.unusedVariables false
set_option maxRecDepth 100000
theorem collectu_any (Bm b nn : Nat) (D0 : DataW Value) (w : World) (hBm : Bm < w.heap.size) (hm : w.cell? ⟨Bm, 0, none⟩ = some (.map (some b))) (hown : MapV w b nn D0) (hsz : Maps.size D0 ≤ 100000) :
    Calls Try.prog 76 #[.func (.func 77) #[] #[.pointer (some ⟨Bm, 0, none⟩)]] w (ApPost (UKeys D0) w) := by
  have hA := appseq_any Bm b nn D0 w hBm hm hown hsz
  unfold ApPost at hA ⊢
  clear hBm hm hown hsz
  go_enter Try.func76, Try.ntmps76
  go_wp2_with fail
  refine hA.mono ?_
  rintro e w1 ⟨v, ss, rfl, hS, hO, hb⟩
  go_wp2
  go_ret
  exact ⟨v, ss, rfl, hS, hO, hb⟩
set_option maxHeartbeats 1000000 in
theorem sinsert_none (w : World) : Calls Try.prog 63 #[.slice none 0 0, .int .i64 0, .int .i64 0] w fun e w' => e = .returned (.tuple #[]) ∧ w' = w := by
  go_enter Try.func63, Try.ntmps63
  go_wp2
  go_loopw [6] (fun v wr => v = .int .i64 1 ∧ wr = w) (fun _ _ => 0)
  case atStart => exact ⟨rfl, rfl⟩
  case round =>
    obtain ⟨rfl, rfl⟩ := hrel
    go_wp2
    go_end0
    exact ⟨rfl, rfl⟩
set_option maxHeartbeats 1000000 in
theorem spdq_none (l : Int) (w : World) : Calls Try.prog 49 #[.slice none 0 0, .int .i64 0, .int .i64 0, .int .i64 l] w fun e w' => e = .returned (.tuple #[]) ∧ w' = w := by
  go_enter Try.func49, Try.ntmps49
  go_wp2
  go_loopw [1, 2] (fun v u wr => v = .int .i64 0 ∧ u = .int .i64 0 ∧ wr = w) (fun _ _ _ => 0)
  case atStart => exact ⟨rfl, rfl, rfl⟩
  case round =>
    obtain ⟨rfl, rfl, rfl⟩ := hrel
    go_wp2_with fail
    refine (sinsert_none _).mono ?_
    rintro e w1 ⟨rfl, rfl⟩
    go_wp2
    exact bodyPost_ret (v := .tuple #[]) (by simp [results, Try.results49, go_sem]) rfl ⟨rfl, rfl⟩
theorem ssort_none (w : World) : Calls Try.prog 28 #[.slice none 0 0] w fun e w' => e = .returned (.tuple #[]) ∧ w' = w := by
  have hL := slen_any 0 (by decide)
  have e1 : IntKind.u64.wrap 0 = 0 := rfl
  go_enter Try.func28, Try.ntmps28
  go_wp2_with fail
  refine (hL _).mono ?_
  rintro e w1 ⟨rfl, rfl⟩
  go_wp2_with fail
  refine (spdq_none _ _).mono ?_
  rintro e w1 ⟨rfl, rfl⟩
  go_wp2
  go_end0
  exact ⟨rfl, rfl⟩
theorem sorted_strict {l : List Int} (h : l.Nodup) : (l.mergeSort (fun x y => decide (x ≤ y))).Pairwise (· < ·) := by
  have h2 : (l.mergeSort fun x y => decide (x ≤ y)).Pairwise (fun x y => decide (x ≤ y) = true) := List.pairwise_mergeSort (fun a b c h1 h2 => by simp at *; omega) (fun a b => by simp; omega) _
  have h3 : (l.mergeSort fun x y => decide (x ≤ y)).Nodup := (List.mergeSort_perm l _).nodup_iff.2 h
  exact (h2.and h3).imp fun {a b} hab => by
    have h4 := hab.1
    have h5 := hab.2
    simp only [decide_eq_true_eq] at h4
    omega
def SKeys (D : DataW Value) (ss : List Int) : Prop := ss.Pairwise (· < ·) ∧ (∀ x ∈ ss, 0 ≤ x ∧ x < 18446744073709551616) ∧ ∀ x, x ∈ ss ↔ Maps.has D (.int .u64 x) = true
theorem UKeys.sort {D : DataW Value} {ss : List Int} (h : UKeys D ss) : SKeys D (ss.mergeSort (fun x y => decide (x ≤ y))) :=
  ⟨sorted_strict h.1, fun x hx => h.2.1 x ((List.mergeSort_perm ss _).mem_iff.1 hx), fun x => by rw [(List.mergeSort_perm ss _).mem_iff, h.2.2 x]⟩
set_option maxHeartbeats 1000000 in
theorem sortedu_any (Bm b nn : Nat) (D0 : DataW Value) (w : World) (hBm : Bm < w.heap.size) (hm : w.cell? ⟨Bm, 0, none⟩ = some (.map (some b))) (hown : MapV w b nn D0) (hsz : Maps.size D0 ≤ 5000) (hcnt : ∀ ss, UKeys D0 ss → ss.length ≤ 5000) :
    Calls Try.prog 55 #[.func (.func 77) #[] #[.pointer (some ⟨Bm, 0, none⟩)]] w (ApPost (SKeys D0) w) := by
  have hA := collectu_any Bm b nn D0 w hBm hm hown (by omega)
  unfold ApPost at hA ⊢
  have HCN := Lib.hid hcnt
  clear hBm hm hown hsz hcnt
  go_enter Try.func55, Try.ntmps55
  go_wp2_with fail
  refine hA.mono ?_
  rintro e w1 ⟨v, ss, rfl, hS, hO, hb⟩
  clear hA
  have hlen := HCN.out ss hS
  have HS := Lib.hid hS.sort
  have HB := Lib.hid hb
  by_cases h0 : ss.length = 0
  · have hss : ss = [] := List.eq_nil_of_length_eq_zero h0
    subst hss
    rcases hO.2 with ⟨rfl, _⟩ | ⟨g, cap, cur, rfl, hbase, hgb, r1, r2, r3, r4⟩
    · have HO := Lib.hid hO
      clear hS hO hb h0 hlen
      go_wp2_with fail
      refine (ssort_none _).mono ?_
      rintro e w2 ⟨rfl, rfl⟩
      go_wp2
      go_ret
      exact ⟨_, [], rfl, by simpa using HS.out, HO.out, HB.out⟩
    · have hA : OwnA w1 w.heap.size g 0 cap #[] := ⟨rfl, hO⟩
      have hso := ssort_any w.heap.size g 0 cap #[] w1 hA (by omega)
      clear hS hO hb h0 hlen hA
      go_wp2_with fail
      with_reducible refine hso.mono ?_
      rintro e w2 ⟨rfl, ⟨d, h1, h2⟩, hk⟩
      have HF := Lib.hid (show w2.ownsRow w.heap.size 22 1 (.slice (some ⟨g, 0, none⟩) 0 cap) 0 (uvv []) from by
        have h3 := h1.2
        rw [h2] at h3
        simpa using h3)
      have HB2 := Lib.hid (Ks.below HB.out (Nat.le_refl _) hk (fun k hk => by rw [hk]; exact hbase))
      clear hso h1 h2 hk
      go_wp2
      go_ret
      exact ⟨_, [], rfl, by simpa using HS.out, HF.out, HB2.out⟩
  · have hO' : OwnU w1 w.heap.size v ss := hO
    obtain ⟨g, cap, rfl, hbase, hA⟩ := own_arr hO' (by omega)
    have hso := ssort_any w.heap.size g ss.length cap ss.toArray w1 hA hlen
    clear hS hO hO' hb h0 hA
    go_wp2_with fail
    with_reducible refine hso.mono ?_
    rintro e w2 ⟨rfl, ⟨d, h1, h2⟩, hk⟩
    have HF := Lib.hid (show w2.ownsRow w.heap.size 22 1 (.slice (some ⟨g, 0, none⟩) ss.length cap) (ss.mergeSort (fun x y => decide (x ≤ y))).length (uvv (ss.mergeSort (fun x y => decide (x ≤ y)))) from by
      have h3 := h1.2
      rw [h2] at h3
      rw [List.length_mergeSort]
      exact h3)
    have HB2 := Lib.hid (Ks.below HB.out (Nat.le_refl _) hk (fun k hk => by rw [hk]; exact hbase))
    clear hso h1 h2 hk
    go_wp2
    go_ret
    exact ⟨_, _, rfl, HS.out, HF.out, HB2.out⟩
end Go.Proofs.Ytoemmppoejaapaa.Cur
