/- K30: SrtL SrtM SrtO SrtP SrtQ SrtR -/
import Derived.Test.YthpgandifeiejaaK29
import Derived.Sort.Walk13
import Derived.Deep.Cut
import Derived.Deep.CutRange
import Derived.Deep.CutBlock
import Derived.Deep.LoopGhost
import Derived.Sort.AssemblyPlain
import Derived.Lib.AppendZerosOnto
import Derived.Test.YthpgandifeiejaaK25
/- slices.Sort at numbers of 64 digits: the sort that calls itself. -/
/- slices.Sort at numbers of 64 digits: the whole. -/
/- slices.Grow at numbers of 64 digits: an empty row with room. -/
/- slices.Concat at numbers of 64 digits. -/
/- stripe.Nodes of a valid stripe. -/
/- StripeShares: what is said of the nodes and the shares without a program. -/
namespace Go.Proofs.Ythpgandifeiejaa.Cur
open Go.RowKit Mem Go.Sort
set_option linter.unusedVariables false
set_option maxRecDepth 100000


theorem hintv_two {h : Hint} (e : hintv h = 2) : h = .decreasing := by cases h <;> simp [hintv] at e ⊢
end Go.Proofs.Ythpgandifeiejaa.Cur

namespace Go.Proofs.Ythpgandifeiejaa.Cur
open Go.RowKit Mem Go.Sort
set_option linter.unusedVariables false
set_option maxRecDepth 100000

theorem plain13_any : Plain13 where
  swo := swo_ltInt
  ins := insertionSort_holds
  par := partialInsertionSort_holds
  prt := partition_holds _
  peq := partitionEqual_holds _
  pdq := pdq_sorts _
/-- What the sort leaves: the numbers in their order. -/
def SoP (B g n cap : Nat) (l : List Int) (w : World) (e : Ending) (w' : World) : Prop := e = .returned (.tuple #[]) ∧ (∃ d : Array Int, OwnA w' B g n cap d ∧ d.toList = l.mergeSort (fun x y => decide (x ≤ y))) ∧ Ks (fun x => x = g) w w'
end Go.Proofs.Ythpgandifeiejaa.Cur

namespace Go.Proofs.Ythpgandifeiejaa.Cur
open Go.RowKit Mem
set_option linter.unusedVariables false
set_option maxRecDepth 100000

end Go.Proofs.Ythpgandifeiejaa.Cur

namespace Go.Proofs.Ythpgandifeiejaa.Cur
open Go.RowKit Mem
set_option linter.unusedVariables false
set_option maxRecDepth 100000

theorem ftk (S : List (List Int)) {k : Nat} (h : k < S.length) : (S.take (k + 1)).flatten = (S.take k).flatten ++ S.getD k [] := by
  rw [List.take_add_one, List.getElem?_eq_getElem h, List.getD_eq_getElem?_getD, List.getElem?_eq_getElem h, List.flatten_append]
  simp
theorem ownu_base {w : World} {B B' : Nat} {v : Value} {z : List Int} (h : OwnU w B v z) (hB : B' ≤ B) : OwnU w B' v z := ⟨h.1, h.2.imp id fun ⟨g, cap, cur, e, hg, r⟩ => ⟨g, cap, cur, e, Nat.le_trans hB hg, r⟩⟩
theorem ftk_le (S : List (List Int)) (k : Nat) : (S.take k).flatten.length ≤ S.flatten.length := by
  have h : S.flatten = (S.take k).flatten ++ (S.drop k).flatten := by rw [← List.flatten_append, List.take_append_drop]
  rw [h, List.length_append]; omega
end Go.Proofs.Ythpgandifeiejaa.Cur

namespace Go.Proofs.Ythpgandifeiejaa.Cur
open Go.RowKit Mem
set_option linter.unusedVariables false
set_option maxRecDepth 100000

theorem flen_le {S : List (List Int)} (h : ∀ l ∈ S, l.length ≤ 8) : S.flatten.length ≤ 8 * S.length := by
  induction S with
  | nil => simp
  | cons l S ih =>
    rw [List.flatten_cons, List.length_append, List.length_cons]
    have h1 := h l (by simp)
    have h2 := ih fun x hx => h x (by simp [hx])
    omega
/-- The nodes of a stripe in their order. -/
def nds (S : List (List Int)) : List Int := S.flatten.mergeSort fun x y => decide (x ≤ y)
theorem nds_len (S : List (List Int)) : (nds S).length = S.flatten.length := List.length_mergeSort _
theorem own_arr {w : World} {B : Nat} {v : Value} {z : List Int} (h : OwnU w B v z) (h1 : 1 ≤ z.length) : ∃ g cap, v = .slice (some ⟨g, 0, none⟩) z.length cap ∧ B ≤ g ∧ OwnA w B g z.length cap z.toArray := by
  rcases h.2 with ⟨e, h0⟩ | ⟨g, cap, cur, e, hg, r⟩
  · omega
  · subst e; exact ⟨g, cap, rfl, hg, by simp, h⟩
end Go.Proofs.Ythpgandifeiejaa.Cur

namespace Go.Proofs.Ythpgandifeiejaa.Cur
open Go.RowKit Mem
set_option linter.unusedVariables false
set_option maxRecDepth 100000

theorem hli_cases : ∀ (S : List (List Int)) (x : Int), (hli S x = -1 ∧ ∀ l ∈ S, l.contains x = false) ∨ ∃ k : Nat, k < S.length ∧ hli S x = k ∧ (S.getD k []).contains x = true
  | [], x => .inl ⟨rfl, fun l h => by simp at h⟩
  | l :: S, x => by
    by_cases h : l.contains x = true
    · right
      exact ⟨0, by simp, by unfold hli; rw [if_pos h]; rfl, h⟩
    · have hf : l.contains x = false := by simpa using h
      rcases hli_cases S x with ⟨h1, h2⟩ | ⟨k, h1, h2, h3⟩
      · left
        refine ⟨by unfold hli; rw [if_neg h, h1]; rfl, fun r hr => ?_⟩
        rcases List.mem_cons.1 hr with rfl | hr
        · exact hf
        · exact h2 r hr
      · right
        refine ⟨k + 1, by simp; omega, by unfold hli; rw [if_neg h, h2, if_neg (by omega)]; omega, by simpa using h3⟩
/-- No node stands in two sets. -/
theorem sok_apart : ∀ {S A : List (List Int)}, sok A S = true → ∀ {x : Int} {k : Nat}, k < S.length → (S.getD k []).contains x = true → (∀ l ∈ A, l.contains x = false) ∧ ∀ j, j < S.length → j ≠ k → (S.getD j []).contains x = false
  | [], _, _, _, _, hk, _ => absurd hk (by simp)
  | l :: S, A, h, x, k, hk, hc => by
    unfold sok at h
    rw [Bool.and_eq_true] at h
    obtain ⟨h1, h2⟩ := h
    have htw : ∀ s ∈ A, ∀ y ∈ l, s.contains y = false := by
      unfold seok at h1
      simp only [Bool.and_eq_true, Bool.not_eq_true'] at h1
      have h3 := h1.2
      unfold tw at h3
      rw [List.any_eq_false] at h3
      intro s hs y hy
      have h4 := h3 s hs
      simp only [List.any_eq_true, not_exists, not_and] at h4
      simpa using h4 y hy
    rcases k with _ | k
    · have hx : x ∈ l := by
        have : l.contains x = true := by simpa using hc
        rwa [List.contains_eq_mem, decide_eq_true_eq] at this
      refine ⟨fun s hs => htw s hs x hx, fun j hj hjk => ?_⟩
      rcases j with _ | j
      · exact absurd rfl hjk
      · have hj' : j < S.length := by simpa using hj
        by_cases hc2 : (S.getD j []).contains x = true
        · have := (sok_apart h2 hj' hc2).1 l (by simp)
          rw [List.contains_eq_mem, decide_eq_false_iff_not] at this
          exact absurd hx this
        · simpa using hc2
    · have hk' : k < S.length := by simpa using hk
      have hc' : (S.getD k []).contains x = true := by simpa using hc
      obtain ⟨i1, i2⟩ := sok_apart h2 hk' hc'
      refine ⟨fun s hs => i1 s (by simp [hs]), fun j hj hjk => ?_⟩
      rcases j with _ | j
      · have := i1 l (by simp)
        simpa using this
      · have := i2 j (by simpa using hj) (by omega)
        simpa using this

theorem rises_pw : ∀ (l : List Int), risesB l = true → l.Pairwise (· < ·)
  | [], _ => List.Pairwise.nil
  | [a], _ => List.pairwise_singleton _ _
  | a :: b :: l, h => by
    unfold risesB at h
    rw [Bool.and_eq_true, decide_eq_true_eq] at h
    have ih := rises_pw (b :: l) h.2
    refine List.pairwise_cons.2 ⟨fun x hx => ?_, ih⟩
    rcases List.mem_cons.1 hx with rfl | hx
    · exact h.1
    · have := (List.pairwise_cons.1 ih).1 x hx
      omega
theorem pw_rises : ∀ (l : List Int), l.Pairwise (· < ·) → risesB l = true
  | [], _ => rfl
  | [a], _ => rfl
  | a :: b :: l, h => by
    unfold risesB
    obtain ⟨h1, h2⟩ := List.pairwise_cons.1 h
    rw [Bool.and_eq_true, decide_eq_true_eq]
    exact ⟨h1 b (by simp), pw_rises (b :: l) h2⟩
theorem sok_nodup : ∀ (S A : List (List Int)), sok A S = true → S.flatten.Nodup
  | [], _, _ => by simp
  | l :: S, A, h => by
    unfold sok at h
    rw [Bool.and_eq_true] at h
    obtain ⟨h1, h2⟩ := h
    rw [List.flatten_cons, List.nodup_append]
    refine ⟨?_, sok_nodup S _ h2, fun a ha b hb e => ?_⟩
    · have h3 : risesB l = true := by
        unfold seok at h1
        simp only [Bool.and_eq_true] at h1
        exact h1.1.1.2
      exact (rises_pw l h3).imp fun {a b} h => by omega
    · subst e
      obtain ⟨s, hs, hb⟩ := List.mem_flatten.1 hb
      obtain ⟨k, hk, e⟩ := List.mem_iff_getElem.1 hs
      have hd : S.getD k [] = s := by rw [List.getD_eq_getElem?_getD, List.getElem?_eq_getElem hk]; exact e
      have h4 := (sok_apart h2 hk (x := a) (by rw [hd, List.contains_eq_mem, decide_eq_true_eq]; exact hb)).1 l (by simp)
      rw [List.contains_eq_mem, decide_eq_false_iff_not] at h4
      exact h4 ha
theorem nds_mem (S : List (List Int)) (x : Int) : x ∈ nds S ↔ x ∈ S.flatten := (List.mergeSort_perm _ _).mem_iff
theorem nds_rises {S : List (List Int)} (h : sok [] S = true) : risesB (nds S) = true := by
  refine pw_rises _ ?_
  have h1 : (nds S).Pairwise (fun x y => decide (x ≤ y) = true) := List.pairwise_mergeSort (fun a b c h1 h2 => by simp at *; omega) (fun a b => by simp; omega) _
  have h2 : (nds S).Nodup := (List.mergeSort_perm _ _).nodup_iff.2 (sok_nodup S [] h)
  exact (h1.and h2).imp fun {a b} h => by
    have h3 : a ≤ b := by simpa using h.1
    have h4 : a ≠ b := h.2
    omega
/-- Which set has it, as far as it is looked: the last one that has it. -/
def lastw (S : List (List Int)) (x : Int) : Nat → Nat × Bool
  | 0 => (0, false)
  | k + 1 => if (S.getD k []).contains x = true then (k, true) else lastw S x k
theorem lastw_hlv {S : List (List Int)} {x : Int} (h : sok [] S = true) : hlv S x = .tuple #[.int .i64 ((lastw S x S.length).1 : Nat), .bool (lastw S x S.length).2] := by
  rcases hli_cases S x with ⟨h1, h2⟩ | ⟨k, h1, h2, h3⟩
  · rw [hlv_no h1]
    have : ∀ k, k ≤ S.length → lastw S x k = (0, false) := by
      intro k
      induction k with
      | zero => intro _; rfl
      | succ k ih =>
        intro hk
        unfold lastw
        have e : S.getD k [] = S[k] := by rw [List.getD_eq_getElem?_getD, List.getElem?_eq_getElem (by omega)]; rfl
        rw [if_neg (by rw [e, h2 _ (List.getElem_mem _)]; decide)]
        exact ih (by omega)
    rw [this _ (Nat.le_refl _)]; rfl
  · rw [hlv_yes h2]
    have hap := (sok_apart h h1 h3).2
    have : ∀ j, k < j → j ≤ S.length → lastw S x j = (k, true) := by
      intro j
      induction j with
      | zero => intro h _; omega
      | succ j ih =>
        intro hk hj
        unfold lastw
        by_cases e : j = k
        · subst e; rw [if_pos h3]
        · rw [if_neg (by rw [hap j (by omega) e]; decide)]
          exact ih (by omega) (by omega)
    rw [this _ h1 (Nat.le_refl _)]
end Go.Proofs.Ythpgandifeiejaa.Cur
