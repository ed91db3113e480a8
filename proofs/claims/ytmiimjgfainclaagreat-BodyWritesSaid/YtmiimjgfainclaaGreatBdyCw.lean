/- As the seat's text, without what nothing here names. -/
import Derived.Test.YtmiimjgfainclaaGreatBdyAw
import Derived.Laws.EntriesVeiled
namespace Go.Proofs.YtmiimjgfainclaaGreat.Cur
open Go.RowKit Mem
set_option linter.unusedVariables false
set_option maxRecDepth 100000
theorem pw2_bnd : ∀ i, 0 ≤ pw2 i ∧ pw2 i < 9223372036854775808
  | 0 | 1 | 2 | 3 | 4 | 5 | 6 => by decide
  | n + 7 => by show (0 : Int) ≤ 128 ∧ (128 : Int) < 9223372036854775808; decide
def Ent (f : FuncId) : Prop := ∀ args w, (callFunc f args).run Tryz.prog w = .ok (.enter f args) w
theorem ent_of {f : FuncId} {fn : Func} {c : Code} (hf : Tryz.prog.funcs[f]? = some fn) (hname : (fn.name == "runtime.NumGoroutine") = false) (hb : fn.body = some c) : Ent f := fun args w => by
  have h1 : fn.name ≠ "runtime.NumGoroutine" := by simpa using hname
  simp [callFunc, hf, h1, hb]
set_option maxHeartbeats 2000000 in
theorem visit28_any (k : Int) (g : Nat) (fn : Nat → FuncId) (caps : Array Value) (I : Nat → World → Prop) (w : World) (hent : ∀ i, i < 8 → Ent (fn i))
    (hcell : ∀ i w', i < 8 → I i w' → w'.cell? ⟨g, i * 2, none⟩ = some (.int .i64 (pw2 i)) ∧ w'.cell? ⟨g, i * 2 + 1, none⟩ = some (.func (.func (fn i)) #[] caps)) (hI : ∀ i w1 w2, I i w1 → Below w1.heap.size w1 w2 → I i w2)
    (hstep : ∀ i wr, i < 8 → kh k (pw2 i) = true → I i wr → Calls Tryz.prog (fn i) caps wr fun e w' => e = .returned (.tuple #[]) ∧ I (i + 1) w') (hskip : ∀ i wr, i < 8 → kh k (pw2 i) = false → I i wr → I (i + 1) wr) (h0 : I 0 w) :
    Calls Tryz.prog 32 #[.int .i64 k, .slice (some ⟨g, 0, none⟩) 8 8] w fun e w' => e = .returned (.tuple #[]) ∧ I 8 w' := by
  have H0 := Lib.hid h0
  have HC := Lib.hid hcell
  have HI := Lib.hid hI
  have HS := Lib.hid hstep
  have HK := Lib.hid hskip
  have HE := Lib.hid hent
  clear hent h0 hcell hI hstep hskip
  go_enter Tryz.func32, Tryz.ntmps32
  go_wp2
  go_loopw [8] (fun i wr => ∃ j : Nat, j ≤ 8 ∧ i = .int .i64 j ∧ Hid (I j wr)) (fun i _ => 8 - (intOf i).toNat)
  case atStart => exact ⟨0, by omega, rfl, H0⟩
  case round =>
    obtain ⟨j, hj, rfl, HR⟩ := hrel
    by_cases hj8 : j < 8
    · have ej : (j : Int) < 8 := by omega
      have e3 : IntKind.i64.wrap ((j : Int) + 1) = ((j + 1 : Nat) : Int) := IntWalk.i64_in _ (by omega)
      obtain ⟨c0, c1⟩ := HC.out j wr hj8 HR.out
      have hpb := pw2_bnd j
      obtain ⟨part, hpart⟩ : ∃ part, part = pw2 j := ⟨_, rfl⟩
      rw [← hpart] at c0 hpb
      have HPT := Lib.hid hpart
      obtain ⟨f, hf⟩ : ∃ f, f = fn j := ⟨_, rfl⟩
      rw [← hf] at c1
      have HF := Lib.hid hf
      have hbA := below_one wr (.cells #[.int .i64 part, .func (.func f) #[] caps] 71)
      have HNB := Lib.hid (Blk.new wr #[.int .i64 part, .func (.func f) #[] caps] 71)
      have HIA := Lib.hid (HI.out j _ _ HR.out hbA)
      obtain ⟨b0, b1⟩ := HNB.out.c2
      have hhas := khas_any k part (wr.alloc (.cells #[.int .i64 part, .func (.func f) #[] caps] 71)) (by omega) hpb.2
      unfold BPost at hhas
      clear hpart hf hbA
      go_upto_region 3 with (fail)
      generalize wr.alloc (.cells #[.int .i64 part, .func (.func f) #[] caps] 71) = wb at *
      generalize wr.heap.size = bb at *
      clear c0 c1
      go_wp2_with fail
      refine hhas.mono ?_
      rintro en w5 ⟨rfl, hb5⟩
      have HI5 := Lib.hid (HI.out j _ _ HIA.out hb5)
      obtain ⟨b0', b1'⟩ := (HNB.out.below hb5).c2
      clear hhas hb5 b0 b1
      cases hkh : kh k part
      · have HNX := Lib.hid (HK.out j w5 hj8 (by rw [← HPT.out]; exact hkh) HI5.out)
        clear hkh
        go_wp2
        go_roundw
        case rel => exact ⟨j + 1, by omega, by go_num, HNX⟩
        case measure => simp [intOf]; omega
      · have hc5 := HS.out j w5 hj8 (by rw [← HPT.out]; exact hkh) HI5.out
        have hen := HE.out j hj8
        rw [← HF.out] at hc5 hen
        unfold Ent at hen
        clear hkh
        go_wp2_with fail
        refine hc5.mono ?_
        rintro en w6 ⟨rfl, h6⟩
        have HNX := Lib.hid h6
        clear hc5 h6
        go_wp2
        go_roundw
        case rel => exact ⟨j + 1, by omega, by go_num, HNX⟩
        case measure => simp [intOf]; omega
    · have hj9 : j = 8 := by omega
      subst hj9
      have hj8' : ¬ ((8 : Int) < 8) := by omega
      clear hj8
      go_wp2
      go_end0
      exact ⟨rfl, HR.out⟩
end Go.Proofs.YtmiimjgfainclaaGreat.Cur
