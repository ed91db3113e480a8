/- Stripes: Right, by the program. -/
import Derived.Test.YtpoicagalmhfdaaStpC
namespace Go.Proofs.Ytpoicagalmhfdaa.Cur
open Go.RowKit Mem
set_option linter.unusedVariables false
set_option maxRecDepth 100000


/-- May a set stand alone? -/
def fne (l : List Int) : Bool := decide (1 ≤ l.length) && decide (l.length ≤ 8) && risesB l && ndb l
theorem seok_fne (S : List (List Int)) (l : List Int) : seok S l = (fne l && !tw S l) := by
  unfold seok fne
  by_cases h1 : 1 ≤ l.length
  · cases hr : risesB l
    · simp
    · rw [ndb_last hr h1]
  · rw [decide_eq_false h1]; simp
theorem sok_eq : ∀ (S A : List (List Int)), sok A S = (S.all fne && (List.range S.length).all fun i => !tw (A ++ S.take i) (S.getD i []))
  | [], A => rfl
  | l :: S, A => by
    unfold sok
    rw [seok_fne, sok_eq S (A ++ [l]), List.all_cons, List.length_cons, List.range_succ_eq_map, List.all_cons, List.all_map]
    have e : ((fun i => !tw (A ++ (l :: S).take i) ((l :: S).getD i [])) ∘ Nat.succ) = fun i => !tw (A ++ [l] ++ S.take i) (S.getD i []) := by
      funext i
      simp [List.getD_eq_getElem?_getD]
    rw [e]
    simp only [List.take_zero, List.append_nil, List.getD_cons_zero]
    cases fne l <;> cases tw A l <;> cases S.all fne <;> simp
theorem sok_ap (S : List (List Int)) : sok [] S = (S.all fne && apB S) := by
  rw [sok_eq]; unfold apB; simp only [List.nil_append]
/-- Are sets those of a right stripe? -/
def rsB (S : List (List Int)) : Bool := decide (1 ≤ S.length) && decide (S.length ≤ 8) && sok [] S
theorem stok_rs (s : Stp) : stok s = (decide (s.1 < s.2.1) && decide (s.2.1 ≤ 4611686018427387904) && rsB s.2.2) := by
  unfold stok rsB
  simp only [Bool.and_assoc]
theorem all_fne {S : List (List Int)} (h : ∀ j, j < S.length → fne (S.getD j []) = true) : S.all fne = true := by
  rw [List.all_eq_true]
  intro l hl
  obtain ⟨j, hj, e⟩ := List.mem_iff_getElem.1 hl
  have := h j hj
  rw [List.getD_eq_getElem?_getD, List.getElem?_eq_getElem hj, Option.getD_some, e] at this
  exact this
theorem not_all_fne {S : List (List Int)} {j : Nat} (hj : j < S.length) (h : fne (S.getD j []) = false) : S.all fne = false := by
  cases e : S.all fne with
  | false => rfl
  | true =>
    rw [List.all_eq_true] at e
    have := e _ (List.getElem_mem hj)
    rw [List.getD_eq_getElem?_getD, List.getElem?_eq_getElem hj, Option.getD_some] at h
    rw [h] at this; cases this
theorem rsB_no {S : List (List Int)} {j : Nat} (hj : j < S.length) (h : fne (S.getD j []) = false) : rsB S = false := by
  unfold rsB; rw [sok_ap, not_all_fne hj h]; simp
theorem rsB_end {S : List (List Int)} (h0 : 1 ≤ S.length) (h1 : S.length ≤ 8) (h : ∀ j, j < S.length → fne (S.getD j []) = true) : rsB S = apB S := by
  unfold rsB; rw [sok_ap, all_fne h, decide_eq_true h0, decide_eq_true h1]; simp

set_option maxHeartbeats 4000000 in
theorem rightsets_any (P : Nat → Prop) (A : Option Addr) (n m : Nat) (S : List (List Int)) (w : World) (hz : Sts w P A n S) (hm : n ≤ m) (hn : n ≤ 1000000) (hlen : ∀ l ∈ S, l.length ≤ 1000000) :
    Calls Try.prog 38 #[.slice A n m] w (BPost (.bool (rsB S)) w) := by
  unfold BPost
  have HL := Lib.hid hz.1
  by_cases h1 : n < 1
  · have HR : Hid (rsB S = false) := Lib.hid (by unfold rsB; rw [decide_eq_false (by have := HL.out; omega)]; simp)
    clear hz hlen
    go_enter Try.func38, Try.ntmps38
    go_wp2
    go_ret
    exact ⟨by rw [HR.out]; rfl, Below.refl _ _⟩
  by_cases h2 : 8 < n
  · have HR : Hid (rsB S = false) := Lib.hid (by unfold rsB; rw [decide_eq_false (show ¬ S.length ≤ 8 by have := HL.out; omega)]; simp)
    clear hz hlen
    go_enter Try.func38, Try.ntmps38
    go_wp2
    go_ret
    exact ⟨by rw [HR.out]; rfl, Below.refl _ _⟩
  have HC := Lib.hid (hz.cells (by omega))
  have HZ := Lib.hid hz
  have HLEN := Lib.hid hlen
  have HNO := Lib.hid (fun j h => rsB_no (S := S) (j := j) h)
  have HEND := Lib.hid (rsB_end (S := S) (by have := HL.out; omega) (by have := HL.out; omega))
  generalize rsB S = r at *
  clear hz hlen
  obtain ⟨g, o, rfl, _, hg, hc⟩ := HC.out
  have HC2 := Lib.hid hc
  clear hc HC
  go_enter Try.func38, Try.ntmps38
  go_wp2
  go_loopw [15] (fun i wr => ∃ k : Nat, k ≤ n ∧ i = .int .i64 k ∧ Hid (∀ j, j < k → fne (S.getD j []) = true) ∧ Below w.heap.size w wr) (fun i _ => n - (intOf i).toNat)
  case atStart => exact ⟨0, by omega, rfl, Lib.hid (by intro j hj; omega), Below.refl _ _⟩
  case round =>
    obtain ⟨k, hk, rfl, hj, hb⟩ := hrel
    by_cases hlt : k < n
    · obtain ⟨a, l, mm, hl, hlm, han, hus, _, hby, hcell⟩ := HC2.out k hlt
      have c0 := hcell wr hb
      have hll := getD_len HLEN.out k
      rw [hl] at hll
      have HR1 := Lib.hid (HNO.out k (by rw [HL.out]; exact hlt))
      have e2 : (k : Int) < n := by omega
      have e3 : IntKind.i64.wrap ((k : Int) + 1) = ((k + 1 : Nat) : Int) := IntWalk.i64_in _ (by omega)
      have hus2 := hus.below hb
      have hrcon := rises_any a l mm (S.getD k []) wr hus2 hll hby
      have hncon := fun w' (h : Below w.heap.size w w') => arenodes_any a l mm (S.getD k []) w' (hus.below h) hll
      unfold BPost at hrcon hncon
      have HF : Hid (fne (S.getD k []) = (decide (1 ≤ l) && decide (l ≤ 8) && risesB (S.getD k []) && ndb (S.getD k []))) := Lib.hid (by unfold fne; rw [hl])
      have HJ := Lib.hid (fun (h : fne (S.getD k []) = true) (i : Nat) (hi : i < k + 1) => show fne (S.getD i []) = true by
        rcases Nat.lt_or_ge i k with h2 | h2
        · exact hj.out i h2
        · obtain rfl : i = k := by omega
          exact h)
      generalize fne (S.getD k []) = fv at *
      generalize risesB (S.getD k []) = rv at *
      generalize ndb (S.getD k []) = nv at *
      clear hl hus hus2 hby hcell hj
      by_cases h3 : l < 1
      · have HR := Lib.hid (HR1.out (by rw [HF.out, decide_eq_false (by omega)]; simp))
        clear hrcon hncon
        go_wp2
        go_ret
        exact ⟨by rw [HR.out]; rfl, hb⟩
      by_cases h4 : 8 < l
      · have HR := Lib.hid (HR1.out (by rw [HF.out, decide_eq_false (show ¬ l ≤ 8 by omega)]; simp))
        clear hrcon hncon
        go_wp2
        go_ret
        exact ⟨by rw [HR.out]; rfl, hb⟩
      have HF2 : Hid (fv = (rv && nv)) := Lib.hid (by rw [HF.out, decide_eq_true (by omega), decide_eq_true (by omega)]; simp)
      cases rv
      · have HR := Lib.hid (HR1.out (by rw [HF2.out]; rfl))
        clear hncon
        go_wp2_with fail
        refine hrcon.mono ?_
        rintro e w1 ⟨rfl, hb1⟩
        have HB1 := Lib.hid (hb.trans (hb1.mono hb.size))
        clear hrcon hb1 c0 hb
        go_wp2
        go_ret
        exact ⟨by rw [HR.out]; rfl, HB1.out⟩
      · go_wp2_with fail
        refine hrcon.mono ?_
        rintro e w1 ⟨rfl, hb1⟩
        have hb2 := hb.trans (hb1.mono hb.size)
        replace hncon := hncon w1 hb2
        clear hrcon hb1 c0 hb
        go_wp2_with fail
        refine hncon.mono ?_
        rintro e w2 ⟨rfl, hb3⟩
        have HB := Lib.hid (hb2.trans (hb3.mono hb2.size))
        clear hncon hb2 hb3
        cases nv
        · have HR := Lib.hid (HR1.out (by rw [HF2.out]; rfl))
          go_wp2
          go_ret
          exact ⟨by rw [HR.out]; rfl, HB.out⟩
        · have HJ2 := Lib.hid (HJ.out (by rw [HF2.out]; rfl))
          go_wp2
          go_roundw
          case rel => exact ⟨k + 1, by omega, by go_num, HJ2, HB.out⟩
          case measure => simp [intOf]; omega
    · obtain rfl : k = n := by omega
      have hcon := apart_any P _ k m S wr (HZ.out.below hb) hm hn HLEN.out
      rw [← HEND.out (fun i hi => hj.out i (by rw [HL.out] at hi; exact hi))] at hcon
      unfold BPost at hcon
      clear hlt
      go_wp2_with fail
      refine hcon.mono ?_
      rintro e w1 ⟨rfl, hb1⟩
      have HB := Lib.hid (hb.trans (hb1.mono hb.size))
      clear hcon hb hb1
      go_wp2
      go_ret
      exact ⟨rfl, HB.out⟩

/-- A stripe as a value. -/
abbrev stagg (f t : Int) (A : Option Addr) (n m : Nat) : Value := .agg #[.int .u64 f, .int .u64 t, .slice A n m]
abbrev stc (f t : Int) (A : Option Addr) (n m : Nat) : Array Value := #[.int .u64 f, .int .u64 t, .slice A n m]
set_option maxHeartbeats 2000000 in
theorem stright_any (P : Nat → Prop) (f t : Int) (A : Option Addr) (n m : Nat) (S : List (List Int)) (w : World) (hz : Sts w P A n S) (hm : n ≤ m) (hn : n ≤ 1000000) (hlen : ∀ l ∈ S, l.length ≤ 1000000) :
    Calls Try.prog 14 #[stagg f t A n m] w (BPost (.bool (stok (f, t, S))) w) := by
  have hX := Blk.new w (stc f t A n m) 25
  have hb := below_one w (.cells (stc f t A n m) 25)
  obtain ⟨x0, x1, x2⟩ := hX.c3
  have hcon := rightsets_any P A n m S _ (hz.below hb) hm hn hlen
  unfold BPost at hcon ⊢
  have HV : Hid (stok (f, t, S) = (decide (f < t) && decide (t ≤ 4611686018427387904) && rsB S)) := Lib.hid (stok_rs _)
  generalize stok (f, t, S) = V at *
  generalize rsB S = r at *
  clear hX hz hlen
  by_cases h1 : f < t
  · by_cases h2 : t ≤ 4611686018427387904
    · go_enter Try.func14, Try.ntmps14
      go_wp2_with fail
      refine hcon.mono ?_
      rintro e w1 ⟨rfl, hb1⟩
      have HB := Lib.hid (hb.trans (hb1.mono hb.size))
      have HVV : Hid (V = r) := Lib.hid (by rw [HV.out, decide_eq_true h1, decide_eq_true h2]; simp)
      clear hcon hb1
      go_wp2
      go_ret
      exact ⟨by rw [HVV.out]; rfl, HB.out⟩
    · have HVV : Hid (V = false) := Lib.hid (by rw [HV.out, decide_eq_false h2]; simp)
      clear hcon
      go_enter Try.func14, Try.ntmps14
      go_wp2
      go_ret
      exact ⟨by rw [HVV.out]; rfl, hb⟩
  · have HVV : Hid (V = false) := Lib.hid (by rw [HV.out, decide_eq_false h1]; simp)
    clear hcon
    go_enter Try.func14, Try.ntmps14
    go_wp2
    go_ret
    exact ⟨by rw [HVV.out]; rfl, hb⟩
end Go.Proofs.Ytpoicagalmhfdaa.Cur
