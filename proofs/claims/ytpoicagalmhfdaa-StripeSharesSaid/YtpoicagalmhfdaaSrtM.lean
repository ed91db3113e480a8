/- slices.Sort at numbers of 64 digits: the whole. -/
import Derived.Test.YtpoicagalmhfdaaSrtL
import Derived.Sort.AssemblyPlain
namespace Go.Proofs.Ytpoicagalmhfdaa.Cur
open Go.RowKit Mem Go.Sort
set_option linter.unusedVariables false
set_option maxRecDepth 100000

theorem plain13_any : Plain13 where
  swo := swo_ltInt
  ins := insertionSort_holds
  par := partialInsertionSort_holds
  prt := partition_holds _
  peq := partitionEqual_holds _
  pdq := pdq_sorts _
/-- What the sort leaves: the numbers in their order. -/
def SoP (B g n cap : Nat) (l : List Int) (w : World) (e : Ending) (w' : World) : Prop := e = .returned (.tuple #[]) ∧ (∃ d : Array Int, OwnA w' B g n cap d ∧ d.toList = l.mergeSort (fun x y => decide (x ≤ y))) ∧ Ks (fun x => x = g) w w'
theorem ssort_any (B g n cap : Nat) (d : Array Int) (w : World) (h : OwnA w B g n cap d) (hn : n ≤ 1000) :
    Calls Try.prog 57 #[.slice (some ⟨g, 0, none⟩) n cap] w (SoP B g n cap d.toList w) := by
  have hk : bitsLen n ≤ 62 := (bitsLen_le_iff n 62).2 (by omega)
  have hL := slen_any n hn
  have hp := spdq_any B g n cap hn plain13_any (n + 1) 0 n (bitsLen n) d w (by omega) h (Nat.zero_le _) (Nat.le_refl _) (by omega) (Or.inl rfl)
  rw [show ((0 : Nat) : Int) = 0 from rfl] at hp
  have HS : Hid (∀ w', OwnA w' B g n cap (pdq ltInt d 0 n (bitsLen n) true true) → ∃ d2 : Array Int, OwnA w' B g n cap d2 ∧ d2.toList = d.toList.mergeSort (fun x y => decide (x ≤ y))) := Lib.hid (fun w' h' => ⟨_, h', by
    have e := sortInt d.toList
    unfold Go.Sort.sort at e
    rw [show d.toList.toArray = d from rfl, h.1] at e
    exact e⟩)
  have e1 : IntKind.u64.wrap (n : Int) = (n : Int) := by rw [IntKind.wrap_u64]; omega
  clear h
  go_enter Try.func57, Try.ntmps57
  go_wp2_with fail
  with_reducible refine (hL _).mono ?_
  rintro e w1 ⟨rfl, rfl⟩
  go_wp2_with fail
  with_reducible refine hp.mono ?_
  rintro e w1 ⟨rfl, c1, c2⟩
  have HE := Lib.hid (And.intro (HS.out _ c1) c2)
  clear c1 c2 hp hL
  go_wp2
  go_end0
  exact ⟨rfl, HE.out.1, HE.out.2⟩
end Go.Proofs.Ytpoicagalmhfdaa.Cur
