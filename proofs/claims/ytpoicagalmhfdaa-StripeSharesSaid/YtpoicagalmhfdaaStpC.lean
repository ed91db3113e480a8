/- Stripes: no node in two sets; which are right, by the program. -/
import Derived.Test.YtpoicagalmhfdaaStpB
namespace Go.Proofs.Ytpoicagalmhfdaa.Cur
open Go.RowKit Mem
set_option linter.unusedVariables false
set_option maxRecDepth 100000


/-- Is no node in two sets? -/
def apB (S : List (List Int)) : Bool := (List.range S.length).all fun i => !tw (S.take i) (S.getD i [])
theorem apB_yes {S : List (List Int)} (h : ∀ i, i < S.length → tw (S.take i) (S.getD i []) = false) : apB S = true := by
  unfold apB
  rw [List.all_eq_true]
  intro i hi
  rw [h i (List.mem_range.1 hi)]; rfl
theorem apB_no {S : List (List Int)} {i : Nat} (hi : i < S.length) (h : tw (S.take i) (S.getD i []) = true) : apB S = false := by
  cases e : apB S with
  | false => rfl
  | true =>
    unfold apB at e
    rw [List.all_eq_true] at e
    have := e i (List.mem_range.2 hi)
    rw [h] at this; cases this
theorem tw_no {S : List (List Int)} {l : List Int} (h : ∀ j, j < l.length → (S.any fun s => s.contains (l.getD j 0)) = false) : tw S l = false := by
  unfold tw
  rw [List.any_eq_false]
  intro s hs hh
  rw [List.any_eq_true] at hh
  obtain ⟨x, hx, hsx⟩ := hh
  obtain ⟨j, hj, e⟩ := List.mem_iff_getElem.1 hx
  have := h j hj
  rw [List.any_eq_false] at this
  refine this s hs ?_
  rw [List.getD_eq_getElem?_getD, List.getElem?_eq_getElem hj, Option.getD_some, e]; exact hsx
theorem tw_yes {S : List (List Int)} {l : List Int} {j : Nat} (hj : j < l.length) (h : (S.any fun s => s.contains (l.getD j 0)) = true) : tw S l = true := by
  unfold tw
  rw [List.any_eq_true] at h ⊢
  obtain ⟨s, hs, hx⟩ := h
  refine ⟨s, hs, ?_⟩
  rw [List.any_eq_true]
  exact ⟨_, getD_mem hj, hx⟩
theorem getD_len {S : List (List Int)} {M : Nat} (h : ∀ l ∈ S, l.length ≤ M) (k : Nat) : (S.getD k []).length ≤ M := by
  rw [List.getD_eq_getElem?_getD]
  rcases hk : S[k]? with _ | l
  · simp
  · exact h l (List.mem_of_getElem? hk)

set_option maxHeartbeats 2000000 in
theorem apart_any (P : Nat → Prop) (A : Option Addr) (n m : Nat) (S : List (List Int)) (w : World) (hz : Sts w P A n S) (hm : n ≤ m) (hn : n ≤ 1000000) (hlen : ∀ l ∈ S, l.length ≤ 1000000) :
    Calls Try.prog 64 #[.slice A n m] w (BPost (.bool (apB S)) w) := by
  unfold BPost
  have HL := Lib.hid hz.1
  have HC := Lib.hid (fun h => hz.cells h)
  have HZ := Lib.hid hz
  have HLEN := Lib.hid hlen
  have HYES := Lib.hid (apB_yes (S := S))
  have HNO := Lib.hid (fun i h1 => apB_no (S := S) (i := i) h1)
  have HSL : ∀ (k : Nat), k ≤ n → ∀ w', (Instr.slice 23 (.slice A n m) none (some (.int .i64 (k : Int))) none).run Try.prog w' = .ok (.slice A k m) w' := fun k hk w' => by
    have := run_slice_h (P := Try.prog) (w := w') 23 A n m Try.underlying23 .i64 (k : Int) (by omega) (by omega)
    have hs : ∀ w', (sizeOf 58).run Try.prog w' = .ok 1 w' := fun w' => by kernel_rfl
    have he : Try.prog.elem 23 = 58 := by kernel_rfl
    rw [this, Int.toNat_natCast, he, hs]
    have e0 : ∀ a : Addr, a.add 0 = a := fun a => by unfold Addr.add; simp
    simp [Result.andThen, sliced, e0]
  generalize apB S = r at *
  clear hz hlen
  go_enter Try.func64, Try.ntmps64
  go_wp2
  go_step3
  go_wp2
  go_step3
  go_wp2
  go_loopw [3, 10] (fun t i wr => t = .bool false ∧ ∃ k : Nat, k ≤ n ∧ i = .int .i64 k ∧ Hid (∀ j, j < k → tw (S.take j) (S.getD j []) = false) ∧ Below w.heap.size w wr) (fun _ i _ => n - (intOf i).toNat)
  case atStart => exact ⟨rfl, 0, by omega, rfl, Lib.hid (by intro j hj; omega), Below.refl _ _⟩
  case round =>
    obtain ⟨rfl, k, hk, rfl, hj, hb⟩ := hrel
    by_cases hlt : k < n
    · obtain ⟨g, o, rfl, _, hg, hc⟩ := HC.out (by omega)
      obtain ⟨a, l, mm, hl, hlm, han, hus, _, _, hcell⟩ := hc k hlt
      have c0 := hcell wr hb
      have hll := getD_len HLEN.out k
      rw [hl] at hll
      have HL2 := Lib.hid hl
      have HUC := Lib.hid (fun (h : l ≠ 0) => hus.cells (by omega))
      have hsl := HSL k (by omega)
      have HR1 := Lib.hid (HNO.out k (by rw [HL.out]; exact hlt))
      have HTY := Lib.hid (fun j => tw_yes (S := S.take k) (l := S.getD k []) (j := j))
      have HTN := Lib.hid (tw_no (S := S.take k) (l := S.getD k []))
      have HZK := Lib.hid (HZ.out.take (k := k) (by omega))
      have HLK : Hid (∀ l ∈ S.take k, l.length ≤ 1000000) := Lib.hid fun l hl => HLEN.out l (List.mem_of_mem_take hl)
      have e2 : (k : Int) < n := by omega
      have e3 : IntKind.i64.wrap ((k : Int) + 1) = ((k + 1 : Nat) : Int) := IntWalk.i64_in _ (by omega)
      have HB := Lib.hid hb
      clear hc hus hcell han hl hb HSL
      go_wp2
      clear c0
      go_loopw [3, 17] (fun t i wr => t = .bool false ∧ ∃ j : Nat, j ≤ l ∧ i = .int .i64 j ∧ Hid (∀ i, i < j → ((S.take k).any fun s => s.contains ((S.getD k []).getD i 0)) = false) ∧ Below w.heap.size w wr) (fun _ i _ => l - (intOf i).toNat)
      case atStart => exact ⟨rfl, 0, by omega, rfl, Lib.hid (by intro j hj; omega), HB.out⟩
      case round =>
        obtain ⟨rfl, j, hjl, rfl, hjj, hb⟩ := hrel
        by_cases hjt : j < l
        · obtain ⟨g2, o2, rfl, hg2, hc2⟩ := HUC.out (by omega)
          have c0 := hc2 _ hb j hjt
          have f2 : (j : Int) < l := by omega
          have f3 : IntKind.i64.wrap ((j : Int) + 1) = ((j + 1 : Nat) : Int) := IntWalk.i64_in _ (by omega)
          obtain ⟨x, hx⟩ : ∃ x, x = (S.getD k []).getD j 0 := ⟨_, rfl⟩
          rw [← hx] at c0
          have HX := Lib.hid hx
          clear hx hc2
          have hcon := holder_any P _ k m (S.take k) x wr (HZK.out.below hb) (by omega) HLK.out
          unfold BPost at hcon
          have HM := Lib.hid (hli_mem (S.take k) x)
          have HBD := Lib.hid (hli_bd (S.take k) x)
          have HVY := Lib.hid (fun (i : Nat) (h : hli (S.take k) x = i) => hlv_yes h)
          have HVN := Lib.hid (fun (h : hli (S.take k) x = -1) => hlv_no h)
          have HXJ := Lib.hid (HTY.out j (by rw [HL2.out]; exact hjt))
          rw [← HX.out] at HXJ
          generalize hlv (S.take k) x = vv at *
          generalize hli (S.take k) x = ii at *
          go_wp2_with fail
          refine hcon.mono ?_
          rintro e w1 ⟨rfl, hb1⟩
          have HB1 := Lib.hid (hb.trans (hb1.mono hb.size))
          clear hcon hb1 c0 hb
          by_cases hi : 0 ≤ ii
          · obtain ⟨i, rfl⟩ := Int.eq_ofNat_of_zero_le hi
            rw [HVY.out i rfl]
            have HR := Lib.hid (HR1.out (HXJ.out (by rw [← HM.out]; exact decide_eq_true hi)))
            clear hi
            go_wp2
            rw [Exit.noGoto_ret]
            go_ret
            exact ⟨by rw [HR.out]; rfl, HB1.out⟩
          · rw [HVN.out (by have := HBD.out; omega)]
            have HF : Hid (((S.take k).any fun s => s.contains x) = false) := Lib.hid (by rw [← HM.out]; exact decide_eq_false hi)
            clear hi
            go_wp2
            go_roundw
            case rel => exact ⟨rfl, j + 1, by omega, by go_num, Lib.hid (fun i hij => by
              rcases Nat.lt_or_ge i j with h | h
              · exact hjj.out i h
              · obtain rfl : i = j := by omega
                rw [← HX.out]; exact HF.out), HB1.out⟩
            case measure => simp [intOf]; omega
        · obtain rfl : j = l := by omega
          have HF := Lib.hid (HTN.out (fun i hi => hjj.out i (by rw [HL2.out] at hi; exact hi)))
          clear hjt
          go_wp2
          go_roundw
          case rel => exact ⟨rfl, k + 1, by omega, by go_num, Lib.hid (fun i hij => by
            rcases Nat.lt_or_ge i k with h | h
            · exact hj.out i h
            · obtain rfl : i = k := by omega
              exact HF.out), hb⟩
          case measure => simp [intOf]; omega
    · obtain rfl : k = n := by omega
      go_wp2
      rw [Exit.noGoto_ret]
      go_ret
      exact ⟨by rw [HYES.out (fun i hi => hj.out i (by rw [HL.out] at hi; exact hi))]; rfl, hb⟩
end Go.Proofs.Ytpoicagalmhfdaa.Cur
