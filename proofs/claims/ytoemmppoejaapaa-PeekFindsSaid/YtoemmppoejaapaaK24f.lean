/- As the seat's text, without what nothing here names. -/
import Derived.Test.YtoemmppoejaapaaK23f
import Derived.Test.YtoemmppoejaapaaK5f
import Derived.Test.YtoemmppoejaapaaK6f
import Derived.Test.YtoemmppoejaapaaK3f
import Derived.Test.YtoemmppoejaapaaK4f
namespace Go.Proofs.Ytoemmppoejaapaa.Cur
open Go.RowKit Mem
set_option linter.unusedVariables false
set_option maxRecDepth 100000
end Go.Proofs.Ytoemmppoejaapaa.Cur
namespace Go.Proofs.Ytoemmppoejaapaa.Cur
open Go.RowKit Mem
set_option linter.unusedVariables false
set_option maxRecDepth 100000
end Go.Proofs.Ytoemmppoejaapaa.Cur
namespace Go.Proofs.Ytoemmppoejaapaa.Cur
open Go.RowKit Mem
set_option linter.unusedVariables false
set_option maxRecDepth 100000
def OwnSts (w : World) (B : Nat) (v : Value) (S : List (List Int)) : Prop := OwnQ (SlE U64E) 34 w B (fun k => B ≤ k ∧ v.ownBlock ≠ some k) v S
theorem OwnSts.nil (w : World) (B : Nat) : OwnSts w B (.slice none 0 0) [] := OwnQ.nil _ _ _ _ _
theorem OwnSts.ge {w : World} {B : Nat} {v : Value} {S : List (List Int)} (h : OwnSts w B v S) : ∀ g, v.ownBlock = some g → B ≤ g := by
  obtain ⟨cs, h1, h2, h3⟩ := h
  exact own_ge h2
theorem OwnSts.lt {w : World} {B : Nat} {v : Value} {S : List (List Int)} (h : OwnSts w B v S) : ∀ g, v.ownBlock = some g → g < w.heap.size := by
  obtain ⟨cs, h1, h2, h3⟩ := h
  exact fun g hg => (World.ownsRow.lt h2 g hg).2
theorem OwnSts.keep {w w' : World} {B : Nat} {v : Value} {S : List (List Int)} (h : OwnSts w B v S) (hk : ∀ b, B ≤ b → b < w.heap.size → w'.heap[b]? = w.heap[b]?) : OwnSts w' B v S := by
  have hge := h.ge
  have hlt := h.lt
  obtain ⟨cs, h1, h2, h3⟩ := h
  exact ⟨cs, h1.keep fun b hb hlt => hk b hb.1 hlt, own_block h2 fun k hk' => hk k (hge k hk') (hlt k hk'), h3⟩
theorem OwnSts.below {w w' : World} {B : Nat} {v : Value} {S : List (List Int)} (h : OwnSts w B v S) (hb : Below w.heap.size w w') : OwnSts w' B v S := h.keep fun b _ hlt => hb.block b hlt
theorem OwnSts.ks {S0 : Nat → Prop} {w w' : World} {B : Nat} {v : Value} {S : List (List Int)} (h : OwnSts w B v S) (k : Ks S0 w w') (h0 : ∀ g, S0 g → g < B) : OwnSts w' B v S := h.keep fun b hb hlt => k.block b hlt fun hs => by have := h0 b hs; omega
theorem OwnSts.snoc {w w' : World} {B : Nat} {v v' : Value} {S : List (List Int)} {cs : List (List Value)} {c : List Value} {x : List Int}
    (h1 : Ch (SlE U64E) w (fun k => B ≤ k ∧ v.ownBlock ≠ some k) cs S) (h3 : ∀ g, v.ownBlock = some g → ¬ (fun k => B ≤ k ∧ v.ownBlock ≠ some k) g)
    (hx : (SlE U64E).R w (fun k => B ≤ k ∧ v.ownBlock ≠ some k) c x) (ho : w'.ownsRow B 34 1 v' (S.length + 1) (cs.flatten ++ c)) (hg : w.grownBy w' v.ownBlock) (hgr : Gr v.ownBlock v'.ownBlock w) : OwnSts w' B v' (S ++ [x]) := by
  have h := OwnQ.snoc (E := SlE U64E) (e := 34) h1 h3 hx ho hg hgr
  refine h.mono (fun b hb _ => ⟨hb.1.1, fun e => ?_⟩) (fun g hg2 hh => hh.2 hg2)
  rcases hgr with e2 | ⟨g', e2, hg'⟩
  · exact hb.1.2 (by rw [← e2]; exact e)
  · rw [e2] at e
    injection e with e
    have := hb.2
    omega
end Go.Proofs.Ytoemmppoejaapaa.Cur
namespace Go.Proofs.Ytoemmppoejaapaa.Cur
open Go.RowKit Mem
set_option linter.unusedVariables false
set_option maxRecDepth 100000
theorem apB_iff (S : List (List Int)) : apB S = true ↔ ∀ i, i < S.length → tw (S.take i) (S.getD i []) = false := by
  constructor
  · intro h i hi
    cases e : tw (S.take i) (S.getD i []) with
    | false => rfl
    | true => rw [apB_no hi e] at h; cases h
  · exact apB_yes
theorem apB_snoc (S : List (List Int)) (l : List Int) : apB (S ++ [l]) = (apB S && !tw S l) := by
  rw [Bool.eq_iff_iff, Bool.and_eq_true, apB_iff, apB_iff, List.length_append, List.length_singleton]
  constructor
  · intro h
    refine ⟨fun i hi => ?_, ?_⟩
    · have := h i (by omega)
      rwa [List.take_append_of_le_length (by omega), List.getD_eq_getElem?_getD, List.getElem?_append_left hi, ← List.getD_eq_getElem?_getD] at this
    · have := h S.length (by omega)
      rw [List.take_append_of_le_length (Nat.le_refl _), List.take_length, List.getD_eq_getElem?_getD, List.getElem?_append_right (Nat.le_refl _), Nat.sub_self] at this
      have h2 : tw S l = false := this
      rw [h2]; rfl
  · rintro ⟨h1, h2⟩ i hi
    rcases Nat.lt_or_ge i S.length with h3 | h3
    · rw [List.take_append_of_le_length (by omega), List.getD_eq_getElem?_getD, List.getElem?_append_left h3, ← List.getD_eq_getElem?_getD]
      exact h1 i h3
    · obtain rfl : i = S.length := by omega
      rw [List.take_append_of_le_length (Nat.le_refl _), List.take_length, List.getD_eq_getElem?_getD, List.getElem?_append_right (Nat.le_refl _), Nat.sub_self]
      show tw S l = false
      simpa using h2
end Go.Proofs.Ytoemmppoejaapaa.Cur
namespace Go.Proofs.Ytoemmppoejaapaa.Cur
open Go.RowKit Mem
set_option linter.unusedVariables false
set_option maxRecDepth 100000
theorem Kp.ks {b : Nat} {S : Nat → Prop} {w w1 w2 : World} (h : Kp b w w1) (k : Ks S w1 w2) (hS : ∀ g, S g → g = b ∨ w.heap.size ≤ g) : Kp b w w2 :=
  ⟨k.os.trans h.os, k.tape.trans h.tape, k.output.trans h.output, Nat.le_trans h.size k.size, fun g hg hne => (k.block g (Nat.lt_of_lt_of_le hg h.size) fun hs => by
    rcases hS g hs with e | e
    · exact hne e
    · omega).trans (h.block g hg hne)⟩
def SsSt (n : Nat) (z : List Int) (N : Nat) (p2 c2 q2 : Int) (k : Nat) (S : List (List Int)) (pk ck qk : Int) : Prop :=
  (ck = 0 ∧ c2 = 0 ∧ qk = q2 ∧ ssg z N p2 [] = ssg z (N - k) pk S ∧ apB S = true) ∨ (ck ≠ 0 ∧ St [] n (ssg z N p2 []) p2 c2 q2 [] pk ck qk)
theorem SsSt.start {n : Nat} {z : List Int} {N : Nat} {p2 c2 q2 : Int} (h0 : 0 ≤ p2) (h1 : p2 ≤ n) : SsSt n z N p2 c2 q2 0 [] p2 c2 q2 := by
  by_cases hc : c2 = 0
  · exact .inl ⟨hc, hc, rfl, rfl, rfl⟩
  · exact .inr ⟨hc, St.stay h0 h1 hc⟩
theorem SsSt.next {n : Nat} {z : List Int} {N : Nat} {p2 c2 q2 : Int} {k : Nat} {S : List (List Int)} {pk ck qk : Int} (h : SsSt n z N p2 c2 q2 k S pk ck qk) (hk : k < N) {l : List Int} {p' c' q' : Int} (hs : St [] n (stl z S pk) pk ck qk (if c' = 0 then l else []) p' c' q') (hap : c' = 0 → tw S l = false) :
    SsSt n z N p2 c2 q2 (k + 1) (S ++ [l]) p' c' q' := by
  obtain ⟨s0, s1⟩ := hs.place
  rcases h with ⟨rfl, rfl, rfl, e, ha⟩ | ⟨hc, h⟩
  · have e2 : ssg z (N - k) pk S = (stl z S pk).bind [] fun l p' => ssg z (N - (k + 1)) p' (S ++ [l]) := by
      rw [show N - k = N - (k + 1) + 1 by omega]; rfl
    by_cases hc : c' = 0
    · subst hc
      rw [if_pos rfl] at hs
      obtain ⟨_, g0, gl, gp, gq⟩ := hs.good
      refine .inl ⟨rfl, rfl, gq, ?_, by rw [apB_snoc, ha, hap rfl]; rfl⟩
      rw [e, e2]
      unfold Rs.bind
      rw [if_neg (by simp [g0]), ← gl, ← gp]
    · rw [if_neg hc] at hs
      refine .inr ⟨hc, ?_⟩
      rw [e, e2]
      have := hs.bind (f := fun l p' => ssg z (N - (k + 1)) p' (S ++ [l])) (St.stay (d := []) s0 s1 hc)
      obtain ⟨a0, a1, a2⟩ := this
      refine ⟨a0, a1, ?_⟩
      rcases a2 with ⟨h, _⟩ | ⟨_, _, _, _, h, _⟩ | a2
      · exact absurd rfl h
      · exact absurd h hc
      · exact .inr (.inr a2)
  · have hb := hs.bad hc
    obtain ⟨_, rfl, rfl⟩ := hb
    refine .inr ⟨hc, ?_⟩
    obtain ⟨_, _, a2⟩ := h
    refine ⟨s0, s1, ?_⟩
    rcases a2 with a2 | ⟨_, _, _, _, h, _⟩ | a2
    · exact .inl a2
    · exact absurd h hc
    · exact .inr (.inr a2)
end Go.Proofs.Ytoemmppoejaapaa.Cur
namespace Go.Proofs.Ytoemmppoejaapaa.Cur
open Go.RowKit Mem
set_option linter.unusedVariables false
set_option maxRecDepth 100000
def RStPost (s : Value) (n : Nat) (z : List Int) (f p c q : Int) (w : World) (e : Ending) (w' : World) : Prop :=
  ∃ (f' t : Int) (A : Option Addr) (N m : Nat) (S : List (List Int)) (p' c' q' : Int), e = .returned (.tuple #[cv s p' c' q', stagg f' t A N m]) ∧ Below w.heap.size w w' ∧ Sts w' (fun k => w.heap.size ≤ k) A N S ∧ N ≤ m ∧ (A = none → m = 0) ∧
    (0 ≤ f' ∧ f' < 18446744073709551616) ∧ (0 ≤ t ∧ t < 18446744073709551616) ∧ sbds S ∧ (∀ l ∈ S, l.length ≤ 8) ∧ N ≤ 8 ∧ St stp0 n (str z f p) p c q (f', t, S) p' c' q'
theorem RStPost.zero {s : Value} {n : Nat} {z : List Int} {f p c q : Int} {w w' : World} {p' c' q' : Int} (hb : Below w.heap.size w w') (h : St stp0 n (str z f p) p c q stp0 p' c' q') : RStPost s n z f p c q w (.returned (.tuple #[cv s p' c' q', stagg 0 0 none 0 0])) w' :=
  ⟨0, 0, none, 0, 0, [], p', c', q', rfl, hb, ⟨rfl, Sq.nil _ _ _ _⟩, by omega, fun _ => rfl, by omega, by omega, fun l h => by simp at h, fun l h => by simp at h, by omega, h⟩
end Go.Proofs.Ytoemmppoejaapaa.Cur
namespace Go.Proofs.Ytoemmppoejaapaa.Cur
open Go.RowKit Mem
set_option linter.unusedVariables false
set_option maxRecDepth 100000
end Go.Proofs.Ytoemmppoejaapaa.Cur
namespace Go.Proofs.Ytoemmppoejaapaa.Cur
open Go.RowKit Mem
set_option linter.unusedVariables false
set_option maxRecDepth 100000
end Go.Proofs.Ytoemmppoejaapaa.Cur
