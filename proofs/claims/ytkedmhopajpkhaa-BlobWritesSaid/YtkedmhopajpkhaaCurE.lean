/- Two rows of bytes that are the same are told the same; the document's example is as it says (live). -/
import Derived.Test.YtkedmhopajpkhaaCurD
import Derived.Test.YtkedmhopajpkhaaSame
import Derived.Laws.BytesArg
namespace Go.Proofs.Ytkedmhopajpkhaa.Cur
open Go.RowKit
set_option linter.unusedVariables false

def NewPost (a : Option Addr) (n : Nat) (w : World) (e : Ending) (w' : World) : Prop :=
  ∃ b, e = .returned (.pointer (some ⟨b, 0, none⟩)) ∧ w.heap.size ≤ b ∧ Below w.heap.size w w' ∧ IsRd w' b (.slice a n n) 0 0 0
theorem new_some (a : Option Addr) (n m : Nat) (w : World) (hm : n ≤ m) : Calls Try.prog 17 #[.slice a n m] w (NewPost a n w) :=
  (new_any a n m w hm).mono fun _ _ ⟨he, hb, _, hr⟩ => ⟨_, he, Nat.le_refl _, hb, hr⟩

theorem skip_yes {n : Nat} {p q x : Int} {ok : Bool} {p' c' q' : Int} (h : SkipSt n p 0 q x ok p' c' q') (h0 : 0 ≤ x) (h1 : x ≤ n - p) : ok = true ∧ p' = p + x ∧ c' = 0 ∧ q' = q := by
  rcases h with ⟨h, _⟩ | ⟨_, h, _⟩ | ⟨_, h, _⟩ | ⟨_, _, _, a, b, c, d⟩
  · exact absurd rfl h
  · omega
  · omega
  · exact ⟨a, b, c, d⟩
theorem skip_over {n : Nat} {p q x : Int} {ok : Bool} {p' c' q' : Int} (h : SkipSt n p 0 q x ok p' c' q') (h0 : 0 ≤ x) (h1 : (n : Int) - p < x) : ok = false ∧ p' = p ∧ c' = 1 ∧ q' = n := by
  rcases h with ⟨h, _⟩ | ⟨_, h, _⟩ | ⟨_, _, a, b, c, d⟩ | ⟨_, _, h, _⟩
  · exact absurd rfl h
  · omega
  · exact ⟨a, b, c, d⟩
  · omega

end Go.Proofs.Ytkedmhopajpkhaa.Cur
