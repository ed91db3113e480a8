/- The least tokens: Least, LeastSize, Gain. -/
import Derived.Test.YtmflnnfgkcmlhaaLstF
import Derived.Test.YtmflnnfgkcmlhaaK16
namespace Go.Proofs.Ytmflnnfgkcmlhaa.Cur
open Go.RowKit Go.Shelf Mem
attribute [local go_sem] Oper.semAt_some
set_option linter.unusedVariables false
set_option maxRecDepth 100000

/-- The least tokens. -/
def ltk (z : List Int) : List Tk := stk z (cst z z.length).1 z.length 0
theorem leastsize_any {w : World} {A : Option Addr} {n m : Nat} {z : List Int} (hz : Bs w A n z) (hby : ∀ x ∈ z, 0 ≤ x ∧ x < 256) (hm : n ≤ m) (hn : n ≤ 60) :
    Calls Try.prog 29 #[.slice A n m] w fun e w' => e = .returned (.int .i64 ((cst z n).1 0)) ∧ Below w.heap.size w w' := by
  have hS := searched_any hz hby hm hn
  have hn1 : ¬ (1024 : Int) < (n : Int) := by omega
  clear hz hby
  obtain ⟨K, hK⟩ : ∃ K, K = n + 1 := ⟨_, rfl⟩
  rw [← hK] at hS
  have hK0 : 0 < K := by omega
  obtain ⟨x, hx⟩ : ∃ x, x = (cst z n).1 0 := ⟨_, rfl⟩
  rw [← hx]
  have HX := Lib.hid hx
  clear hx hK
  go_enter Try.func29, Try.ntmps29
  go_wp2_with fail
  refine hS.mono ?_
  rintro e w1 ⟨sb, gs, gc, rfl, hI, hbd⟩
  obtain ⟨p0, p1, p2⟩ := hI.1.c3
  have v0 := tb_cell hI.2.1 (i := 0) (by omega)
  rw [← HX.out] at v0
  have HBD := Lib.hid hbd
  clear hI hbd hS
  go_wp2
  go_ret
  exact ⟨rfl, HBD.out⟩
theorem pleast_any {w : World} {A : Option Addr} {n m : Nat} {z : List Int} (hz : Bs w A n z) (hby : ∀ x ∈ z, 0 ≤ x ∧ x < 256) (hm : n ≤ m) (hn : n ≤ 60)
    (hgo : ∀ a, a < n → 1 ≤ (cst z n).1 (a * 3 + 2) ∧ (a : Int) + (cst z n).1 (a * 3 + 2) ≤ n) :
    Calls Try.prog 28 #[.slice A n m] w fun e w' => ∃ v, e = .returned (.tuple #[v, .int .i64 0]) ∧ TkOwn w' w.heap.size v (ltk z) ∧ (ltk z).length ≤ n ∧ Below w.heap.size w w' := by
  have hS := searched_any hz hby hm hn
  have hn1 : ¬ (1024 : Int) < (n : Int) := by omega
  have HZ := Lib.hid hz
  have HL : Hid (ltk z = stk z (cst z n).1 n 0) := Lib.hid (by unfold ltk; rw [hz.1])
  have HGO := Lib.hid hgo
  clear hz hby hgo
  go_enter Try.func28, Try.ntmps28
  go_wp2_with fail
  refine hS.mono ?_
  rintro e w1 ⟨sb, gs, gc, rfl, hI, hbd⟩
  have hT := ltokens_any hI (HZ.out.below hbd) hm rfl hn HGO.out
  rw [← HL.out] at hT
  have HBD := Lib.hid hbd
  clear hI hbd hS
  go_wp2_with fail
  refine hT.mono ?_
  rintro e w2 ⟨v, rfl, ho, hl, hb2⟩
  have HO := Lib.hid (ho.base (fun g hg => Nat.le_trans HBD.out.size (ho.ge g hg)))
  have HB2 := Lib.hid (HBD.out.trans (hb2.mono HBD.out.size))
  obtain ⟨Av, cv, rfl⟩ := ho.slice
  have HLL := Lib.hid hl
  clear hT ho hb2 hl
  go_wp2
  go_ret2
  exact ⟨_, rfl, HO.out, HLL.out, HB2.out⟩
end Go.Proofs.Ytmflnnfgkcmlhaa.Cur
