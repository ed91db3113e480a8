/- The least tokens: Gain; the calls with the document's numbers. -/
import Derived.Test.YtmflnnfgkcmlhaaLstP
namespace Go.Proofs.Ytmflnnfgkcmlhaa.Cur
open Go.RowKit Go.Shelf Mem
attribute [local go_sem] Oper.semAt_some
set_option linter.unusedVariables false
set_option maxRecDepth 100000

theorem gain_any {w : World} {A : Option Addr} {n m : Nat} {z : List Int} (hz : Bs w A n z) (hby : ∀ x ∈ z, 0 ≤ x ∧ x < 256) (hm : n ≤ m) (hn : n ≤ 60) :
    Calls Try.prog 30 #[.slice A n m] w fun e w' => e = .returned (.int .i64 (((cps z).length : Int) - fre z 0)) ∧ Below w.heap.size w w' := by
  have hzl := hz.1
  have hB := pbytes_any (m := m) hz hby hm (by omega)
  unfold PBytesPost at hB
  obtain ⟨_, _, _, _, hs, hg, _, hf0⟩ := ltk_all (z := z) (by omega) hby
  rw [hzl] at hs
  have hcl := cps_len (z := z) (by omega) hby
  have hS := fun W (h : Below w.heap.size w W) => leastsize_any (w := W) (m := m) (hz.below h) hby hm hn
  rw [hs] at hS
  obtain ⟨F, hF⟩ : ∃ F, F = fre z 0 := ⟨_, rfl⟩
  rw [← hF] at hS hg hf0 ⊢
  obtain ⟨cl, hcl2⟩ : ∃ cl, cl = (cps z).length := ⟨_, rfl⟩
  rw [← hcl2] at hg hcl ⊢
  have HCL := Lib.hid hcl2
  have HS := Lib.hid hS
  have hn1 : ¬ (1024 : Int) < (n : Int) := by omega
  have ew : IntKind.i64.wrap ((cl : Int) - F) = (cl : Int) - F := IntWalk.i64_in _ (by omega)
  clear hz hby hs hF hcl2 hS
  go_enter Try.func30, Try.ntmps30
  go_wp2_with fail
  refine hB.mono ?_
  rintro e w1 ⟨A1, n1, m1, rfl, hbd, hbs, _⟩
  have e1 : n1 = cl := by rw [HCL.out]; exact hbs.1.symm
  subst e1
  have hS := HS.out _ hbd
  have HBD := Lib.hid hbd
  clear hB hbs hbd HS
  go_wp2_with fail
  refine hS.mono ?_
  rintro e w2 ⟨rfl, hb2⟩
  have HB2 := Lib.hid (HBD.out.trans (hb2.mono HBD.out.size))
  clear hS hb2
  go_wp2
  go_ret
  exact ⟨rfl, HB2.out⟩
end Go.Proofs.Ytmflnnfgkcmlhaa.Cur
