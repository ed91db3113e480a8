/- Stripes: two are the same, by the program and by the document. -/
import Derived.Test.YtghlediibhnloaaStpE
import Derived.Deep.QuietTactic
import Derived.BigQuiet
namespace Go.Proofs.Ytghlediibhnloaa.Cur
open Go.RowKit Mem
set_option linter.unusedVariables false
set_option maxRecDepth 100000


theorem lq_yes {α : Type} [DecidableEq α] {d : α} {x y : List α} (hl : x.length = y.length) (h : ∀ i, i < x.length → x.getD i d = y.getD i d) : decide (x = y) = true := by
  rw [decide_eq_true_eq]
  apply List.ext_getElem hl
  intro i h1 h2
  have := h i h1
  rw [List.getD_eq_getElem?_getD, List.getD_eq_getElem?_getD, List.getElem?_eq_getElem h1, List.getElem?_eq_getElem h2] at this
  exact this
theorem lq_len {α : Type} [DecidableEq α] {x y : List α} (hl : x.length ≠ y.length) : decide (x = y) = false := decide_eq_false fun e => hl (by rw [e])
theorem lq_at {α : Type} [DecidableEq α] {d : α} {x y : List α} (i : Nat) (h : x.getD i d ≠ y.getD i d) : decide (x = y) = false := decide_eq_false fun e => h (by rw [e])

set_option maxHeartbeats 2000000 in
theorem sequal_any (A B : Option Addr) (n m c d : Nat) (x y : List Int) (w : World) (ha : Us w A n x) (hb : Us w B m y) (hn : n ≤ 1000000) (hm : m ≤ 1000000) :
    Calls Try.prog 82 #[.slice A n c, .slice B m d] w (BPost (.bool (decide (x = y))) w) := by
  unfold BPost
  have HL := Lib.hid ha.1
  have HL2 := Lib.hid hb.1
  have HC : Hid (n ≠ 0 → ∃ g o, A = some ⟨g, o, none⟩ ∧ g < w.heap.size ∧ ∀ w', Below w.heap.size w w' → ∀ k, k < n → w'.cell? ⟨g, o + k, none⟩ = some (.int .u64 (x.getD k 0))) := Lib.hid fun h => ha.cells (by omega)
  have HC2 : Hid (m ≠ 0 → ∃ g o, B = some ⟨g, o, none⟩ ∧ g < w.heap.size ∧ ∀ w', Below w.heap.size w w' → ∀ k, k < m → w'.cell? ⟨g, o + k, none⟩ = some (.int .u64 (y.getD k 0))) := Lib.hid fun h => hb.cells (by omega)
  have HYES := Lib.hid (lq_yes (d := (0 : Int)) (x := x) (y := y))
  have HLEN := Lib.hid (lq_len (x := x) (y := y))
  have HNO := Lib.hid (fun i => lq_at (d := (0 : Int)) (x := x) (y := y) i)
  generalize decide (x = y) = r at *
  clear ha hb
  by_cases hnm : n = m
  case neg =>
    have hb2 : ((n : Int) != (m : Int)) = true := by simp; omega
    have HR := Lib.hid (HLEN.out (by rw [HL.out, HL2.out]; exact hnm))
    go_enter Try.func82, Try.ntmps82
    go_wp2
    go_ret
    exact ⟨by rw [HR.out]; rfl, Below.refl _ _⟩
  subst hnm
  have hb2 : ((n : Int) != (n : Int)) = false := by simp
  go_enter Try.func82, Try.ntmps82
  go_wp2
  go_loopw [13] (fun i wr => ∃ k : Nat, k ≤ n ∧ i = .int .i64 k ∧ Hid (∀ j, j < k → x.getD j 0 = y.getD j 0) ∧ Below w.heap.size w wr) (fun i _ => n - (intOf i).toNat)
  case atStart => exact ⟨0, by omega, rfl, Lib.hid (by intro j hj; omega), Below.refl _ _⟩
  case round =>
    obtain ⟨k, hk, rfl, hj, hb⟩ := hrel
    by_cases hlt : k < n
    · obtain ⟨g, o, rfl, hg, hc⟩ := HC.out (by omega)
      obtain ⟨g', o', rfl, hg', hc'⟩ := HC2.out (by omega)
      have c0 := hc wr hb k hlt
      have c1 := hc' wr hb k hlt
      obtain ⟨u, hu⟩ : ∃ u, u = x.getD k 0 := ⟨_, rfl⟩
      obtain ⟨v, hv⟩ : ∃ v, v = y.getD k 0 := ⟨_, rfl⟩
      rw [← hu] at c0
      rw [← hv] at c1
      have HU := Lib.hid hu
      have HV := Lib.hid hv
      have e2 : (k : Int) < n := by omega
      have e3 : IntKind.i64.wrap ((k : Int) + 1) = ((k + 1 : Nat) : Int) := IntWalk.i64_in _ (by omega)
      clear hc hc' hu hv
      by_cases he : u = v
      · have hb3 : (u != v) = false := by simpa using he
        have HE := Lib.hid he
        clear he
        go_wp2
        go_quiet (fail)
        go_wp2
        go_roundw
        case rel => exact ⟨k + 1, by omega, by go_num, Lib.hid (fun j hjk => by
          rcases Nat.lt_or_ge j k with h | h
          · exact hj.out j h
          · obtain rfl : j = k := by omega
            rw [← HU.out, ← HV.out]; exact HE.out), below_drewN hb _⟩
        case measure => simp [intOf]; omega
      · have hb3 : (u != v) = true := by simpa using he
        have HR := Lib.hid (HNO.out k (by rw [← HU.out, ← HV.out]; exact he))
        clear he
        go_wp2
        go_quiet (fail)
        go_wp2
        go_ret
        exact ⟨by rw [HR.out]; rfl, below_drewN hb _⟩
    · obtain rfl : k = n := by omega
      go_wp2
      go_ret
      exact ⟨by rw [HYES.out (by rw [HL.out, HL2.out]) (fun i hi => hj.out i (by rw [HL.out] at hi; exact hi))]; rfl, hb⟩
set_option maxHeartbeats 2000000 in
theorem rsame5_gen (A B : Option Addr) (n m c d : Nat) (x y : List Int) (w : World) (ha : Us w A n x) (hb : Us w B m y) (hn : n ≤ 1000000) (hm : m ≤ 1000000) :
    Calls Try.prog 83 #[.slice A n c, .slice B m d] w (BPost (.bool (decide (x = y))) w) := by
  unfold BPost
  have HL := Lib.hid ha.1
  have HL2 := Lib.hid hb.1
  have HC : Hid (n ≠ 0 → ∃ g o, A = some ⟨g, o, none⟩ ∧ g < w.heap.size ∧ ∀ w', Below w.heap.size w w' → ∀ k, k < n → w'.cell? ⟨g, o + k, none⟩ = some (.int .u64 (x.getD k 0))) := Lib.hid fun h => ha.cells (by omega)
  have HC2 : Hid (m ≠ 0 → ∃ g o, B = some ⟨g, o, none⟩ ∧ g < w.heap.size ∧ ∀ w', Below w.heap.size w w' → ∀ k, k < m → w'.cell? ⟨g, o + k, none⟩ = some (.int .u64 (y.getD k 0))) := Lib.hid fun h => hb.cells (by omega)
  have HYES := Lib.hid (lq_yes (d := (0 : Int)) (x := x) (y := y))
  have HLEN := Lib.hid (lq_len (x := x) (y := y))
  have HNO := Lib.hid (fun i => lq_at (d := (0 : Int)) (x := x) (y := y) i)
  generalize decide (x = y) = r at *
  clear ha hb
  by_cases hnm : n = m
  case neg =>
    have hb2 : ((n : Int) != (m : Int)) = true := by simp; omega
    have HR := Lib.hid (HLEN.out (by rw [HL.out, HL2.out]; exact hnm))
    go_enter Try.func83, Try.ntmps83
    go_wp2
    go_ret
    exact ⟨by rw [HR.out]; rfl, Below.refl _ _⟩
  subst hnm
  have hb2 : ((n : Int) != (n : Int)) = false := by simp
  go_enter Try.func83, Try.ntmps83
  go_wp2
  go_loopw [5] (fun i wr => ∃ k : Nat, k ≤ n ∧ i = .int .i64 k ∧ Hid (∀ j, j < k → x.getD j 0 = y.getD j 0) ∧ Below w.heap.size w wr) (fun i _ => n - (intOf i).toNat)
  case atStart => exact ⟨0, by omega, rfl, Lib.hid (by intro j hj; omega), Below.refl _ _⟩
  case round =>
    obtain ⟨k, hk, rfl, hj, hb⟩ := hrel
    by_cases hlt : k < n
    · obtain ⟨g, o, rfl, hg, hc⟩ := HC.out (by omega)
      obtain ⟨g', o', rfl, hg', hc'⟩ := HC2.out (by omega)
      have c0 := hc wr hb k hlt
      have c1 := hc' wr hb k hlt
      obtain ⟨u, hu⟩ : ∃ u, u = x.getD k 0 := ⟨_, rfl⟩
      obtain ⟨v, hv⟩ : ∃ v, v = y.getD k 0 := ⟨_, rfl⟩
      rw [← hu] at c0
      rw [← hv] at c1
      have HU := Lib.hid hu
      have HV := Lib.hid hv
      have e2 : (k : Int) < n := by omega
      have e3 : IntKind.i64.wrap ((k : Int) + 1) = ((k + 1 : Nat) : Int) := IntWalk.i64_in _ (by omega)
      clear hc hc' hu hv
      by_cases he : u = v
      · have hb3 : (u != v) = false := by simpa using he
        have HE := Lib.hid he
        clear he
        go_wp2
        go_quiet (fail)
        go_wp2
        go_roundw
        case rel => exact ⟨k + 1, by omega, by go_num, Lib.hid (fun j hjk => by
          rcases Nat.lt_or_ge j k with h | h
          · exact hj.out j h
          · obtain rfl : j = k := by omega
            rw [← HU.out, ← HV.out]; exact HE.out), below_drewN hb _⟩
        case measure => simp [intOf]; omega
      · have hb3 : (u != v) = true := by simpa using he
        have HR := Lib.hid (HNO.out k (by rw [← HU.out, ← HV.out]; exact he))
        clear he
        go_wp2
        go_quiet (fail)
        go_wp2
        go_ret
        exact ⟨by rw [HR.out]; rfl, below_drewN hb _⟩
    · obtain rfl : k = n := by omega
      go_wp2
      go_ret
      exact ⟨by rw [HYES.out (by rw [HL.out, HL2.out]) (fun i hi => hj.out i (by rw [HL.out] at hi; exact hi))]; rfl, hb⟩


set_option maxHeartbeats 2000000 in
theorem sequalf_any (P Q : Nat → Prop) (A B : Option Addr) (n m c d : Nat) (S T : List (List Int)) (w : World) (ha : Sts w P A n S) (hb : Sts w Q B m T) (hn : n ≤ 1000000) (hm : m ≤ 1000000) (h1 : ∀ l ∈ S, l.length ≤ 1000000) (h2 : ∀ l ∈ T, l.length ≤ 1000000) :
    Calls Try.prog 81 #[.slice A n c, .slice B m d, .func (.func 82) #[] #[]] w (BPost (.bool (decide (S = T))) w) := by
  unfold BPost
  have HL := Lib.hid ha.1
  have HL2 := Lib.hid hb.1
  have HN1 := Lib.hid h1
  have HN2 := Lib.hid h2
  have HC := Lib.hid (fun h => ha.cells h)
  have HC2 := Lib.hid (fun h => hb.cells h)
  have HYES := Lib.hid (lq_yes (d := ([] : List Int)) (x := S) (y := T))
  have HLEN := Lib.hid (lq_len (x := S) (y := T))
  have HNO := Lib.hid (fun i => lq_at (d := ([] : List Int)) (x := S) (y := T) i)
  generalize decide (S = T) = r at *
  clear ha hb h1 h2
  by_cases hnm : n = m
  case neg =>
    have hb2 : ((n : Int) != (m : Int)) = true := by simp; omega
    have HR := Lib.hid (HLEN.out (by rw [HL.out, HL2.out]; exact hnm))
    go_enter Try.func81, Try.ntmps81
    go_wp2
    go_ret
    exact ⟨by rw [HR.out]; rfl, Below.refl _ _⟩
  subst hnm
  have hb2 : ((n : Int) != (n : Int)) = false := by simp
  go_enter Try.func81, Try.ntmps81
  go_wp2
  go_loopw [17] (fun i wr => ∃ k : Nat, k ≤ n ∧ i = .int .i64 k ∧ Hid (∀ j, j < k → S.getD j [] = T.getD j []) ∧ Below w.heap.size w wr) (fun i _ => n - (intOf i).toNat)
  case atStart => exact ⟨0, by omega, rfl, Lib.hid (by intro j hj; omega), Below.refl _ _⟩
  case round =>
    obtain ⟨k, hk, rfl, hj, hb⟩ := hrel
    by_cases hlt : k < n
    · obtain ⟨g, o, rfl, _, hg, hc⟩ := HC.out (by omega)
      obtain ⟨g', o', rfl, _, hg', hc'⟩ := HC2.out (by omega)
      obtain ⟨a1, l1, m1, hl1, _, _, hus1, _, _, hcell1⟩ := hc k hlt
      obtain ⟨a2, l2, m2, hl2, _, _, hus2, _, _, hcell2⟩ := hc' k hlt
      have hll1 := getD_len HN1.out k
      have hll2 := getD_len HN2.out k
      rw [hl1] at hll1
      rw [hl2] at hll2
      have e2 : (k : Int) < n := by omega
      have e3 : IntKind.i64.wrap ((k : Int) + 1) = ((k + 1 : Nat) : Int) := IntWalk.i64_in _ (by omega)
      have HNK := Lib.hid (HNO.out k)
      obtain ⟨u, hu⟩ : ∃ u, u = S.getD k [] := ⟨_, rfl⟩
      obtain ⟨v, hv⟩ : ∃ v, v = T.getD k [] := ⟨_, rfl⟩
      rw [← hu] at hus1 HNK
      rw [← hv] at hus2 HNK
      have HU := Lib.hid hu
      have HV := Lib.hid hv
      have c0 := hcell1 wr hb
      have c1 := hcell2 wr hb
      have hcon := sequal_any a1 a2 l1 l2 m1 m2 u v wr (hus1.below hb) (hus2.below hb) hll1 hll2
      have HDEC : Hid (decide (u = v) = true ↔ u = v) := Lib.hid decide_eq_true_iff
      unfold BPost at hcon
      generalize decide (u = v) = dv at *
      clear hc hc' hu hv hus1 hus2 hl1 hl2 hcell1 hcell2
      go_wp2_with fail
      refine hcon.mono ?_
      rintro e w1 ⟨rfl, hb1⟩
      have hbd := hb.trans (hb1.mono hb.size)
      clear hcon c0 c1 hb hb1
      cases dv
      · have HR := Lib.hid (HNK.out (fun e => by have := HDEC.out.2 e; cases this))
        go_wp2
        go_ret
        exact ⟨by rw [HR.out]; rfl, hbd⟩
      · have HE := Lib.hid (HDEC.out.1 rfl)
        go_wp2
        go_roundw
        case rel => exact ⟨k + 1, by omega, by go_num, Lib.hid (fun j hjk => by
          rcases Nat.lt_or_ge j k with h | h
          · exact hj.out j h
          · obtain rfl : j = k := by omega
            rw [← HU.out, ← HV.out]; exact HE.out), hbd⟩
        case measure => simp [intOf]; omega
    · obtain rfl : k = n := by omega
      go_wp2
      go_ret
      exact ⟨by rw [HYES.out (by rw [HL.out, HL2.out]) (fun i hi => hj.out i (by rw [HL.out] at hi; exact hi))]; rfl, hb⟩
end Go.Proofs.Ytghlediibhnloaa.Cur
