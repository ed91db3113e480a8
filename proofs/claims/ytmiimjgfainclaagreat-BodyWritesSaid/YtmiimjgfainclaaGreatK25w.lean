/- As the seat's text, without what nothing here names. -/
import Derived.Test.YtmiimjgfainclaaGreatK23w
import Derived.Deep.QuietTactic
import Derived.BigQuiet
import Derived.Test.YtmiimjgfainclaaGreatK24w
import Derived.Test.YtmiimjgfainclaaGreatK1w
import Derived.Lib.SliceRun
namespace Go.Proofs.YtmiimjgfainclaaGreat.Cur
open Go.RowKit Mem
set_option linter.unusedVariables false
set_option maxRecDepth 100000
theorem lq_yes {α : Type} [DecidableEq α] {d : α} {x y : List α} (hl : x.length = y.length) (h : ∀ i, i < x.length → x.getD i d = y.getD i d) : decide (x = y) = true := by
  rw [decide_eq_true_eq]
  apply List.ext_getElem hl
  intro i h1 h2
  have := h i h1
  rw [List.getD_eq_getElem?_getD, List.getD_eq_getElem?_getD, List.getElem?_eq_getElem h1, List.getElem?_eq_getElem h2] at this
  exact this
theorem lq_len {α : Type} [DecidableEq α] {x y : List α} (hl : x.length ≠ y.length) : decide (x = y) = false := decide_eq_false fun e => hl (by rw [e])
theorem lq_at {α : Type} [DecidableEq α] {d : α} {x y : List α} (i : Nat) (h : x.getD i d ≠ y.getD i d) : decide (x = y) = false := decide_eq_false fun e => h (by rw [e])
set_option maxHeartbeats 2000000 in
theorem sequal_any (A B : Option Addr) (n m c d : Nat) (x y : List Int) (w : World) (ha : Us w A n x) (hb : Us w B m y) (hn : n ≤ 1000000) (hm : m ≤ 1000000) :
    Calls Tryz.prog 67 #[.slice A n c, .slice B m d] w (BPost (.bool (decide (x = y))) w) := by
  unfold BPost
  have HL := Lib.hid ha.1
  have HL2 := Lib.hid hb.1
  have HC : Hid (n ≠ 0 → ∃ g o, A = some ⟨g, o, none⟩ ∧ g < w.heap.size ∧ ∀ w', Below w.heap.size w w' → ∀ k, k < n → w'.cell? ⟨g, o + k, none⟩ = some (.int .u64 (x.getD k 0))) := Lib.hid fun h => ha.cells (by omega)
  have HC2 : Hid (m ≠ 0 → ∃ g o, B = some ⟨g, o, none⟩ ∧ g < w.heap.size ∧ ∀ w', Below w.heap.size w w' → ∀ k, k < m → w'.cell? ⟨g, o + k, none⟩ = some (.int .u64 (y.getD k 0))) := Lib.hid fun h => hb.cells (by omega)
  have HYES := Lib.hid (lq_yes (d := (0 : Int)) (x := x) (y := y))
  have HLEN := Lib.hid (lq_len (x := x) (y := y))
  have HNO := Lib.hid (fun i => lq_at (d := (0 : Int)) (x := x) (y := y) i)
  generalize decide (x = y) = r at *
  clear ha hb
  by_cases hnm : n = m
  case neg =>
    have hb2 : ((n : Int) != (m : Int)) = true := by simp; omega
    have HR := Lib.hid (HLEN.out (by rw [HL.out, HL2.out]; exact hnm))
    go_enter Tryz.func67, Tryz.ntmps67
    go_wp2
    go_ret
    exact ⟨by rw [HR.out]; rfl, Below.refl _ _⟩
  subst hnm
  have hb2 : ((n : Int) != (n : Int)) = false := by simp
  go_enter Tryz.func67, Tryz.ntmps67
  go_wp2
  go_loopw [13] (fun i wr => ∃ k : Nat, k ≤ n ∧ i = .int .i64 k ∧ Hid (∀ j, j < k → x.getD j 0 = y.getD j 0) ∧ Below w.heap.size w wr) (fun i _ => n - (intOf i).toNat)
  case atStart => exact ⟨0, by omega, rfl, Lib.hid (by intro j hj; omega), Below.refl _ _⟩
  case round =>
    obtain ⟨k, hk, rfl, hj, hb⟩ := hrel
    by_cases hlt : k < n
    · obtain ⟨g, o, rfl, hg, hc⟩ := HC.out (by omega)
      obtain ⟨g', o', rfl, hg', hc'⟩ := HC2.out (by omega)
      have c0 := hc wr hb k hlt
      have c1 := hc' wr hb k hlt
      obtain ⟨u, hu⟩ : ∃ u, u = x.getD k 0 := ⟨_, rfl⟩
      obtain ⟨v, hv⟩ : ∃ v, v = y.getD k 0 := ⟨_, rfl⟩
      rw [← hu] at c0
      rw [← hv] at c1
      have HU := Lib.hid hu
      have HV := Lib.hid hv
      have e2 : (k : Int) < n := by omega
      have e3 : IntKind.i64.wrap ((k : Int) + 1) = ((k + 1 : Nat) : Int) := IntWalk.i64_in _ (by omega)
      clear hc hc' hu hv
      by_cases he : u = v
      · have hb3 : (u != v) = false := by simpa using he
        have HE := Lib.hid he
        clear he
        go_wp2
        go_quiet (fail)
        go_wp2
        go_roundw
        case rel => exact ⟨k + 1, by omega, by go_num, Lib.hid (fun j hjk => by
          rcases Nat.lt_or_ge j k with h | h
          · exact hj.out j h
          · obtain rfl : j = k := by omega
            rw [← HU.out, ← HV.out]; exact HE.out), below_drewN hb _⟩
        case measure => simp [intOf]; omega
      · have hb3 : (u != v) = true := by simpa using he
        have HR := Lib.hid (HNO.out k (by rw [← HU.out, ← HV.out]; exact he))
        clear he
        go_wp2
        go_quiet (fail)
        go_wp2
        go_ret
        exact ⟨by rw [HR.out]; rfl, below_drewN hb _⟩
    · obtain rfl : k = n := by omega
      go_wp2
      go_ret
      exact ⟨by rw [HYES.out (by rw [HL.out, HL2.out]) (fun i hi => hj.out i (by rw [HL.out] at hi; exact hi))]; rfl, hb⟩
set_option maxHeartbeats 2000000 in
theorem rsame5_gen (A B : Option Addr) (n m c d : Nat) (x y : List Int) (w : World) (ha : Us w A n x) (hb : Us w B m y) (hn : n ≤ 1000000) (hm : m ≤ 1000000) :
    Calls Tryz.prog 70 #[.slice A n c, .slice B m d] w (BPost (.bool (decide (x = y))) w) := by
  unfold BPost
  have HL := Lib.hid ha.1
  have HL2 := Lib.hid hb.1
  have HC : Hid (n ≠ 0 → ∃ g o, A = some ⟨g, o, none⟩ ∧ g < w.heap.size ∧ ∀ w', Below w.heap.size w w' → ∀ k, k < n → w'.cell? ⟨g, o + k, none⟩ = some (.int .u64 (x.getD k 0))) := Lib.hid fun h => ha.cells (by omega)
  have HC2 : Hid (m ≠ 0 → ∃ g o, B = some ⟨g, o, none⟩ ∧ g < w.heap.size ∧ ∀ w', Below w.heap.size w w' → ∀ k, k < m → w'.cell? ⟨g, o + k, none⟩ = some (.int .u64 (y.getD k 0))) := Lib.hid fun h => hb.cells (by omega)
  have HYES := Lib.hid (lq_yes (d := (0 : Int)) (x := x) (y := y))
  have HLEN := Lib.hid (lq_len (x := x) (y := y))
  have HNO := Lib.hid (fun i => lq_at (d := (0 : Int)) (x := x) (y := y) i)
  generalize decide (x = y) = r at *
  clear ha hb
  by_cases hnm : n = m
  case neg =>
    have hb2 : ((n : Int) != (m : Int)) = true := by simp; omega
    have HR := Lib.hid (HLEN.out (by rw [HL.out, HL2.out]; exact hnm))
    go_enter Tryz.func70, Tryz.ntmps70
    go_wp2
    go_ret
    exact ⟨by rw [HR.out]; rfl, Below.refl _ _⟩
  subst hnm
  have hb2 : ((n : Int) != (n : Int)) = false := by simp
  go_enter Tryz.func70, Tryz.ntmps70
  go_wp2
  go_loopw [5] (fun i wr => ∃ k : Nat, k ≤ n ∧ i = .int .i64 k ∧ Hid (∀ j, j < k → x.getD j 0 = y.getD j 0) ∧ Below w.heap.size w wr) (fun i _ => n - (intOf i).toNat)
  case atStart => exact ⟨0, by omega, rfl, Lib.hid (by intro j hj; omega), Below.refl _ _⟩
  case round =>
    obtain ⟨k, hk, rfl, hj, hb⟩ := hrel
    by_cases hlt : k < n
    · obtain ⟨g, o, rfl, hg, hc⟩ := HC.out (by omega)
      obtain ⟨g', o', rfl, hg', hc'⟩ := HC2.out (by omega)
      have c0 := hc wr hb k hlt
      have c1 := hc' wr hb k hlt
      obtain ⟨u, hu⟩ : ∃ u, u = x.getD k 0 := ⟨_, rfl⟩
      obtain ⟨v, hv⟩ : ∃ v, v = y.getD k 0 := ⟨_, rfl⟩
      rw [← hu] at c0
      rw [← hv] at c1
      have HU := Lib.hid hu
      have HV := Lib.hid hv
      have e2 : (k : Int) < n := by omega
      have e3 : IntKind.i64.wrap ((k : Int) + 1) = ((k + 1 : Nat) : Int) := IntWalk.i64_in _ (by omega)
      clear hc hc' hu hv
      by_cases he : u = v
      · have hb3 : (u != v) = false := by simpa using he
        have HE := Lib.hid he
        clear he
        go_wp2
        go_quiet (fail)
        go_wp2
        go_roundw
        case rel => exact ⟨k + 1, by omega, by go_num, Lib.hid (fun j hjk => by
          rcases Nat.lt_or_ge j k with h | h
          · exact hj.out j h
          · obtain rfl : j = k := by omega
            rw [← HU.out, ← HV.out]; exact HE.out), below_drewN hb _⟩
        case measure => simp [intOf]; omega
      · have hb3 : (u != v) = true := by simpa using he
        have HR := Lib.hid (HNO.out k (by rw [← HU.out, ← HV.out]; exact he))
        clear he
        go_wp2
        go_quiet (fail)
        go_wp2
        go_ret
        exact ⟨by rw [HR.out]; rfl, below_drewN hb _⟩
    · obtain rfl : k = n := by omega
      go_wp2
      go_ret
      exact ⟨by rw [HYES.out (by rw [HL.out, HL2.out]) (fun i hi => hj.out i (by rw [HL.out] at hi; exact hi))]; rfl, hb⟩
set_option maxHeartbeats 2000000 in
theorem sequalf_any (P Q : Nat → Prop) (A B : Option Addr) (n m c d : Nat) (S T : List (List Int)) (w : World) (ha : Sts w P A n S) (hb : Sts w Q B m T) (hn : n ≤ 1000000) (hm : m ≤ 1000000) (h1 : ∀ l ∈ S, l.length ≤ 1000000) (h2 : ∀ l ∈ T, l.length ≤ 1000000) :
    Calls Tryz.prog 166 #[.slice A n c, .slice B m d, .func (.func 67) #[] #[]] w (BPost (.bool (decide (S = T))) w) := by
  unfold BPost
  have HL := Lib.hid ha.1
  have HL2 := Lib.hid hb.1
  have HN1 := Lib.hid h1
  have HN2 := Lib.hid h2
  have HC := Lib.hid (fun h => ha.cells h)
  have HC2 := Lib.hid (fun h => hb.cells h)
  have HYES := Lib.hid (lq_yes (d := ([] : List Int)) (x := S) (y := T))
  have HLEN := Lib.hid (lq_len (x := S) (y := T))
  have HNO := Lib.hid (fun i => lq_at (d := ([] : List Int)) (x := S) (y := T) i)
  generalize decide (S = T) = r at *
  clear ha hb h1 h2
  by_cases hnm : n = m
  case neg =>
    have hb2 : ((n : Int) != (m : Int)) = true := by simp; omega
    have HR := Lib.hid (HLEN.out (by rw [HL.out, HL2.out]; exact hnm))
    go_enter Tryz.func166, Tryz.ntmps166
    go_wp2
    go_ret
    exact ⟨by rw [HR.out]; rfl, Below.refl _ _⟩
  subst hnm
  have hb2 : ((n : Int) != (n : Int)) = false := by simp
  go_enter Tryz.func166, Tryz.ntmps166
  go_wp2
  go_loopw [17] (fun i wr => ∃ k : Nat, k ≤ n ∧ i = .int .i64 k ∧ Hid (∀ j, j < k → S.getD j [] = T.getD j []) ∧ Below w.heap.size w wr) (fun i _ => n - (intOf i).toNat)
  case atStart => exact ⟨0, by omega, rfl, Lib.hid (by intro j hj; omega), Below.refl _ _⟩
  case round =>
    obtain ⟨k, hk, rfl, hj, hb⟩ := hrel
    by_cases hlt : k < n
    · obtain ⟨g, o, rfl, _, hg, hc⟩ := HC.out (by omega)
      obtain ⟨g', o', rfl, _, hg', hc'⟩ := HC2.out (by omega)
      obtain ⟨a1, l1, m1, hl1, _, _, hus1, _, _, hcell1⟩ := hc k hlt
      obtain ⟨a2, l2, m2, hl2, _, _, hus2, _, _, hcell2⟩ := hc' k hlt
      have hll1 := getD_len HN1.out k
      have hll2 := getD_len HN2.out k
      rw [hl1] at hll1
      rw [hl2] at hll2
      have e2 : (k : Int) < n := by omega
      have e3 : IntKind.i64.wrap ((k : Int) + 1) = ((k + 1 : Nat) : Int) := IntWalk.i64_in _ (by omega)
      have HNK := Lib.hid (HNO.out k)
      obtain ⟨u, hu⟩ : ∃ u, u = S.getD k [] := ⟨_, rfl⟩
      obtain ⟨v, hv⟩ : ∃ v, v = T.getD k [] := ⟨_, rfl⟩
      rw [← hu] at hus1 HNK
      rw [← hv] at hus2 HNK
      have HU := Lib.hid hu
      have HV := Lib.hid hv
      have c0 := hcell1 wr hb
      have c1 := hcell2 wr hb
      have hcon := sequal_any a1 a2 l1 l2 m1 m2 u v wr (hus1.below hb) (hus2.below hb) hll1 hll2
      have HDEC : Hid (decide (u = v) = true ↔ u = v) := Lib.hid decide_eq_true_iff
      unfold BPost at hcon
      generalize decide (u = v) = dv at *
      clear hc hc' hu hv hus1 hus2 hl1 hl2 hcell1 hcell2
      go_wp2_with fail
      refine hcon.mono ?_
      rintro e w1 ⟨rfl, hb1⟩
      have hbd := hb.trans (hb1.mono hb.size)
      clear hcon c0 c1 hb hb1
      cases dv
      · have HR := Lib.hid (HNK.out (fun e => by have := HDEC.out.2 e; cases this))
        go_wp2
        go_ret
        exact ⟨by rw [HR.out]; rfl, hbd⟩
      · have HE := Lib.hid (HDEC.out.1 rfl)
        go_wp2
        go_roundw
        case rel => exact ⟨k + 1, by omega, by go_num, Lib.hid (fun j hjk => by
          rcases Nat.lt_or_ge j k with h | h
          · exact hj.out j h
          · obtain rfl : j = k := by omega
            rw [← HU.out, ← HV.out]; exact HE.out), hbd⟩
        case measure => simp [intOf]; omega
    · obtain rfl : k = n := by omega
      go_wp2
      go_ret
      exact ⟨by rw [HYES.out (by rw [HL.out, HL2.out]) (fun i hi => hj.out i (by rw [HL.out] at hi; exact hi))]; rfl, hb⟩
end Go.Proofs.YtmiimjgfainclaaGreat.Cur
namespace Go.Proofs.YtmiimjgfainclaaGreat.Cur
open Go.RowKit Mem
set_option linter.unusedVariables false
set_option maxRecDepth 100000
theorem stp_dec (f t : Int) (S : List (List Int)) (f2 t2 : Int) (T : List (List Int)) : decide ((f, t, S) = (f2, t2, T)) = (decide (f = f2) && decide (t = t2) && decide (S = T)) := by
  simp only [Prod.mk.injEq, Bool.decide_and, Bool.and_assoc]
set_option maxHeartbeats 2000000 in
theorem stsame_any (P Q : Nat → Prop) (f t : Int) (A : Option Addr) (n c : Nat) (S : List (List Int)) (f2 t2 : Int) (B : Option Addr) (m d : Nat) (T : List (List Int)) (w : World) (ha : Sts w P A n S) (hb : Sts w Q B m T) (hn : n ≤ 1000000) (hm : m ≤ 1000000) (h1 : ∀ l ∈ S, l.length ≤ 1000000) (h2 : ∀ l ∈ T, l.length ≤ 1000000) :
    Calls Tryz.prog 113 #[stagg f t A n c, stagg f2 t2 B m d] w (BPost (.bool (decide ((f, t, S) = (f2, t2, T)))) w) := by
  have hX := (Blk.new w (stc f t A n c) 128).alloc (.cells (stc f2 t2 B m d) 128)
  have hY := Blk.new (w.alloc (.cells (stc f t A n c) 128)) (stc f2 t2 B m d) 128
  rw [show (w.alloc (.cells (stc f t A n c) 128)).heap.size = w.heap.size + 1 by simp] at hY
  have hbd := below_two w (.cells (stc f t A n c) 128) (.cells (stc f2 t2 B m d) 128)
  unfold BPost
  have HV : Hid (decide ((f, t, S) = (f2, t2, T)) = (decide (f = f2) && decide (t = t2) && decide (S = T))) := Lib.hid (stp_dec _ _ _ _ _ _)
  generalize decide ((f, t, S) = (f2, t2, T)) = V at *
  obtain ⟨x0, x1, x2⟩ := hX.c3
  obtain ⟨y0, y1, y2⟩ := hY.c3
  have hcon := sequalf_any P Q A B n m c d S T _ (ha.below hbd) (hb.below hbd) hn hm h1 h2
  unfold BPost at hcon
  generalize decide (S = T) = sv at *
  clear ha hb h1 h2 hX hY
  by_cases hf : f = f2
  · have hfb : (f == f2) = true := by simpa using hf
    rw [decide_eq_true hf] at HV
    by_cases ht : t = t2
    · have htb : (t == t2) = true := by simpa using ht
      rw [decide_eq_true ht] at HV
      clear hf ht
      go_enter Tryz.func113, Tryz.ntmps113
      go_wp2_with fail
      refine hcon.mono ?_
      rintro e w1 ⟨rfl, hb1⟩
      have HB := Lib.hid (hbd.trans (hb1.mono hbd.size))
      clear hcon hb1
      go_wp2
      go_ret
      exact ⟨by rw [HV.out]; rfl, HB.out⟩
    · have htb : (t == t2) = false := by simpa using ht
      rw [decide_eq_false ht] at HV
      clear hf ht hcon
      go_enter Tryz.func113, Tryz.ntmps113
      go_wp2
      go_ret
      exact ⟨by rw [HV.out]; rfl, hbd⟩
  · have hfb : (f == f2) = false := by simpa using hf
    rw [decide_eq_false hf] at HV
    clear hf hcon
    go_enter Tryz.func113, Tryz.ntmps113
    go_wp2
    go_ret
    exact ⟨by rw [HV.out]; rfl, hbd⟩
def RsS (W : Nat) (x y : Array Value) (g : Nat) (o : Nat) (v : Value) (g' : Nat) (o' : Nat) (v' : Value) (w : World) : Prop := Blk w W x 128 ∧ Blk w (W + 1) y 128 ∧ w.cell? ⟨g, o, none⟩ = some v ∧ w.cell? ⟨g', o', none⟩ = some v'
set_option maxHeartbeats 4000000 in
theorem rstsame_any (P Q : Nat → Prop) (f t : Int) (A : Option Addr) (n c : Nat) (S : List (List Int)) (f2 t2 : Int) (B : Option Addr) (m d : Nat) (T : List (List Int)) (w : World) (ha : Sts w P A n S) (hb : Sts w Q B m T) (hn : n ≤ 1000000) (hm : m ≤ 1000000) (h1 : ∀ l ∈ S, l.length ≤ 1000000) (h2 : ∀ l ∈ T, l.length ≤ 1000000) :
    Calls Tryz.prog 123 #[stagg f t A n c, stagg f2 t2 B m d] w (BPost (.bool (decide ((f, t, S) = (f2, t2, T)))) w) := by
  have hX := (Blk.new w (stc f t A n c) 128).alloc (.cells (stc f2 t2 B m d) 128)
  have hY := Blk.new (w.alloc (.cells (stc f t A n c) 128)) (stc f2 t2 B m d) 128
  rw [show (w.alloc (.cells (stc f t A n c) 128)).heap.size = w.heap.size + 1 by simp] at hY
  have hbd := below_two w (.cells (stc f t A n c) 128) (.cells (stc f2 t2 B m d) 128)
  unfold BPost
  have HV : Hid (decide ((f, t, S) = (f2, t2, T)) = (decide (f = f2) && decide (t = t2) && decide (S = T))) := Lib.hid (stp_dec _ _ _ _ _ _)
  generalize decide ((f, t, S) = (f2, t2, T)) = V at *
  obtain ⟨x0, x1, x2⟩ := hX.c3
  obtain ⟨y0, y1, y2⟩ := hY.c3
  by_cases hf : f = f2
  case neg =>
    have hfb : (f != f2) = true := by simpa using hf
    rw [decide_eq_false hf] at HV
    clear hf ha hb h1 h2 hX hY
    go_enter Tryz.func123, Tryz.ntmps123
    go_wp2
    go_ret
    exact ⟨by rw [HV.out]; rfl, hbd⟩
  have hfb : (f != f2) = false := by simpa using hf
  rw [decide_eq_true hf] at HV
  clear hf
  by_cases ht : t = t2
  case neg =>
    have htb : (t != t2) = true := by simpa using ht
    rw [decide_eq_false ht] at HV
    clear ht ha hb h1 h2 hX hY
    go_enter Tryz.func123, Tryz.ntmps123
    go_wp2
    go_ret
    exact ⟨by rw [HV.out]; rfl, hbd⟩
  have htb : (t != t2) = false := by simpa using ht
  rw [decide_eq_true ht] at HV
  clear ht
  have HL := Lib.hid ha.1
  have HL2 := Lib.hid hb.1
  have HN1 := Lib.hid h1
  have HN2 := Lib.hid h2
  have HC := Lib.hid (fun h => (ha.below hbd).cells h)
  have HC2 := Lib.hid (fun h => (hb.below hbd).cells h)
  have HYES := Lib.hid (lq_yes (d := ([] : List Int)) (x := S) (y := T))
  have HLEN := Lib.hid (lq_len (x := S) (y := T))
  have HNO := Lib.hid (fun i => lq_at (d := ([] : List Int)) (x := S) (y := T) i)
  have HVV : Hid (V = decide (S = T)) := Lib.hid (by rw [HV.out]; simp)
  generalize decide (S = T) = r at *
  obtain rfl := HVV.out
  clear ha hb h1 h2 HV HVV
  by_cases hnm : n = m
  case neg =>
    have hb2 : ((n : Int) != (m : Int)) = true := by simp; omega
    have HR := Lib.hid (HLEN.out (by rw [HL.out, HL2.out]; exact hnm))
    clear hX hY
    go_enter Tryz.func123, Tryz.ntmps123
    go_wp2
    go_ret
    exact ⟨by rw [HR.out]; rfl, hbd⟩
  subst hnm
  have hb2 : ((n : Int) != (n : Int)) = false := by simp
  have HX := Lib.hid hX
  have HY := Lib.hid hY
  clear hX hY
  go_enter Tryz.func123, Tryz.ntmps123
  go_wp2
  clear x0 x1 x2 y0 y1 y2
  generalize (w.alloc (.cells (stc f t A n c) 128)).alloc (.cells (stc f2 t2 B n d) 128) = w0 at *
  go_loopw [5] (fun i wr => ∃ k : Nat, k ≤ n ∧ i = .int .i64 k ∧ Hid (∀ j, j < k → S.getD j [] = T.getD j []) ∧ Below w0.heap.size w0 wr) (fun i _ => n - (intOf i).toNat)
  case atStart => exact ⟨0, by omega, rfl, Lib.hid (by intro j hj; omega), Below.refl _ _⟩
  case round =>
    obtain ⟨k, hk, rfl, hj, hb⟩ := hrel
    obtain ⟨x0, x1, x2⟩ := (HX.out.below hb).c3
    obtain ⟨y0, y1, y2⟩ := (HY.out.below hb).c3
    by_cases hlt : k < n
    · obtain ⟨g, o, rfl, _, hg, hc⟩ := HC.out (by omega)
      obtain ⟨g', o', rfl, _, hg', hc'⟩ := HC2.out (by omega)
      obtain ⟨a1, l1, m1, hl1, _, _, hus1, _, _, hcell1⟩ := hc k hlt
      obtain ⟨a2, l2, m2, hl2, _, _, hus2, _, _, hcell2⟩ := hc' k hlt
      have hll1 := getD_len HN1.out k
      have hll2 := getD_len HN2.out k
      rw [hl1] at hll1
      rw [hl2] at hll2
      have e2 : (k : Int) < n := by omega
      have e3 : IntKind.i64.wrap ((k : Int) + 1) = ((k + 1 : Nat) : Int) := IntWalk.i64_in _ (by omega)
      have HNK := Lib.hid (HNO.out k)
      obtain ⟨u, hu⟩ : ∃ u, u = S.getD k [] := ⟨_, rfl⟩
      obtain ⟨v, hv⟩ : ∃ v, v = T.getD k [] := ⟨_, rfl⟩
      rw [← hu] at hus1 HNK
      rw [← hv] at hus2 HNK
      have HU := Lib.hid hu
      have HV := Lib.hid hv
      have hS : RsS w.heap.size (stc f t (some ⟨g, o, none⟩) n c) (stc f2 t2 (some ⟨g', o', none⟩) n d) g (o + k) (.slice a1 l1 m1) g' (o' + k) (.slice a2 l2 m2) wr.drew := ⟨(HX.out.below hb).drew, (HY.out.below hb).drew, hcell1 wr hb, hcell2 wr hb⟩
      have L1 : ∀ w', RsS w.heap.size (stc f t (some ⟨g, o, none⟩) n c) (stc f2 t2 (some ⟨g', o', none⟩) n d) g (o + k) (.slice a1 l1 m1) g' (o' + k) (.slice a2 l2 m2) w' → w'.cell? ⟨w.heap.size, 2, none⟩ = some (.slice (some ⟨g, o, none⟩) n c) := fun w' h => h.1.c3.2.2
      have L2 : ∀ w', RsS w.heap.size (stc f t (some ⟨g, o, none⟩) n c) (stc f2 t2 (some ⟨g', o', none⟩) n d) g (o + k) (.slice a1 l1 m1) g' (o' + k) (.slice a2 l2 m2) w' → w'.cell? ⟨w.heap.size + 1, 2, none⟩ = some (.slice (some ⟨g', o', none⟩) n d) := fun w' h => h.2.1.c3.2.2
      have L3 : ∀ w', RsS w.heap.size (stc f t (some ⟨g, o, none⟩) n c) (stc f2 t2 (some ⟨g', o', none⟩) n d) g (o + k) (.slice a1 l1 m1) g' (o' + k) (.slice a2 l2 m2) w' → w'.cell? ⟨g, o + k, none⟩ = some (.slice a1 l1 m1) := fun w' h => h.2.2.1
      have L4 : ∀ w', RsS w.heap.size (stc f t (some ⟨g, o, none⟩) n c) (stc f2 t2 (some ⟨g', o', none⟩) n d) g (o + k) (.slice a1 l1 m1) g' (o' + k) (.slice a2 l2 m2) w' → w'.cell? ⟨g', o' + k, none⟩ = some (.slice a2 l2 m2) := fun w' h => h.2.2.2
      have hbw : Below w0.heap.size w0 wr.drew := hb.trans ((below_one' _).mono hb.size)
      have hcon := fun w' (h : Below w0.heap.size w0 w') => rsame5_gen a1 a2 l1 l2 m1 m2 u v w' (hus1.below h) (hus2.below h) hll1 hll2
      have HDEC : Hid (decide (u = v) = true ↔ u = v) := Lib.hid decide_eq_true_iff
      unfold BPost at hcon
      generalize decide (u = v) = dv at *
      have HCON := Lib.hid (hcon _ hbw)
      clear hc hc' hu hv hus1 hus2 hl1 hl2 hcell1 hcell2 hcon
      go_wp2
      clear x0 x1 x2 y0 y1 y2
      refine Seq.wp_region_seq (RsS w.heap.size (stc f t (some ⟨g, o, none⟩) n c) (stc f2 t2 (some ⟨g', o', none⟩) n d) g (o + k) (.slice a1 l1 m1) g' (o' + k) (.slice a2 l2 m2)) (by kernel_rfl) (by kernel_rfl) hS ?_
      repeat (first | (refine Seq.Seq.skip (by rfl) ?_; (try simp only [Act.put, List.setIfInBounds_toArray, List.set_cons_zero, List.set_cons_succ])) | (refine Seq.Seq.det ?_ (by rfl) (fun w hS => ?_) ?_; rotate_left; ((try dsimp only at hS); go_simp; (try rw [if_pos (by omega)]); with_reducible rfl); (try simp only [Act.put, List.setIfInBounds_toArray, List.set_cons_zero, List.set_cons_succ])))
      refine Seq.Seq.make (by rfl) (by rfl) (fun K Q' hK => ?_)
      go_simp
      go_at_call 70
      refine HCON.out.mono ?_
      rintro e w1 ⟨rfl, hb1⟩
      have hS1 : RsS w.heap.size (stc f t (some ⟨g, o, none⟩) n c) (stc f2 t2 (some ⟨g', o', none⟩) n d) g (o + k) (.slice a1 l1 m1) g' (o' + k) (.slice a2 l2 m2) w1 := ⟨hS.1.below hb1, hS.2.1.below hb1, (hb1.cell (lt_of_cell hS.2.2.1)).trans hS.2.2.1, (hb1.cell (lt_of_cell hS.2.2.2)).trans hS.2.2.2⟩
      refine hK.out _ _ (hS1) ?_
      clear hK K
      try simp only [Act.put, List.setIfInBounds_toArray, List.set_cons_zero, List.set_cons_succ]
      repeat (first | (refine Seq.Seq.skip (by rfl) ?_; (try simp only [Act.put, List.setIfInBounds_toArray, List.set_cons_zero, List.set_cons_succ])) | (refine Seq.Seq.det ?_ (by rfl) (fun w hS => ?_) ?_; rotate_left; ((try dsimp only at hS); go_simp; (try rw [if_pos (by omega)]); with_reducible rfl); (try simp only [Act.put, List.setIfInBounds_toArray, List.set_cons_zero, List.set_cons_succ])))
      refine Seq.Seq.nil ?_
      have hbx := hbw.trans (hb1.mono hbw.size)
      clear hb hb1 hbw hS hS1 L1 L2 L3 L4 HCON
      cases dv
      · have HR := Lib.hid (HNK.out (fun e => by have := HDEC.out.2 e; cases this))
        go_wp2
        go_ret
        exact ⟨by rw [HR.out]; rfl, hbd.trans (hbx.mono hbd.size)⟩
      · have HE := Lib.hid (HDEC.out.1 rfl)
        go_wp2
        go_roundw
        case rel => exact ⟨k + 1, by omega, by go_num, Lib.hid (fun j hjk => by
          rcases Nat.lt_or_ge j k with h | h
          · exact hj.out j h
          · obtain rfl : j = k := by omega
            rw [← HU.out, ← HV.out]; exact HE.out), hbx⟩
        case measure => simp [intOf]; omega
    · obtain rfl : k = n := by omega
      go_wp2
      go_ret
      exact ⟨by rw [HYES.out (by rw [HL.out, HL2.out]) (fun i hi => hj.out i (by rw [HL.out] at hi; exact hi))]; rfl, hbd.trans (hb.mono hbd.size)⟩
end Go.Proofs.YtmiimjgfainclaaGreat.Cur
namespace Go.Proofs.YtmiimjgfainclaaGreat.Cur
open Go.RowKit Mem
set_option linter.unusedVariables false
set_option maxRecDepth 100000
theorem own_empty (w : World) (e size : Nat) : (w.alloc (.cells #[] e)).ownsRow w.heap.size e size (.slice (some ⟨w.heap.size, 0, none⟩) 0 0) 0 [] :=
  ⟨by simp, .inr ⟨w.heap.size, 0, #[], rfl, Nat.le_refl _, Blk.new w #[] e, Nat.le_refl _, by simp only [maxLen]; omega, by simp, by simp⟩⟩
def RawPost (e : TypeId) (n : Nat) (xs : List Value) (w : World) (en : Ending) (w' : World) : Prop := ∃ v, en = .returned v ∧ w'.ownsRow w.heap.size e 1 v n xs ∧ Below w.heap.size w w'
theorem kindU2 : Kind 23 22 (.int .u64 0) 1 8 := ⟨Tryz.underlying23, by kernel_rfl, rfl, by decide⟩
set_option maxHeartbeats 1000000 in
theorem clones_any (A : Option Addr) (n c : Nat) (xs : List Value) (w : World) (hl : xs.length = n) (hr : Rw w A xs) (h1 : ∀ u ∈ xs, u.oneCell' = true) (hnil : A = none → c = 0) (hn : n ≤ 1000000) :
    Calls Tryz.prog 172 #[.slice A n c] w (RawPost 23 n xs w) := by
  have q0 : ∀ (w : World) (a : Option Addr) (n c : Nat), (binOp .eql 126 (.slice a n c) (.slice none 0 0)).run Tryz.prog w = .ok (.bool a.isNone) w := fun w a n c => Lib.run_eql_slice_nil w _ _ a n c 0 0 Tryz.underlying126
  have hown0 := own_empty w 23 1
  have hge := own_ge hown0
  have hbA := below_one w (.cells #[] 23)
  have hrA := hr.below hbA
  rcases A with _ | ad
  · have hn0 : n = 0 := by
      rcases Nat.eq_zero_or_pos n with h0 | h0
      · exact h0
      · obtain ⟨_, _, e, _⟩ := hr (by rw [hl]; exact h0)
        cases e
    subst hn0
    have hxs : xs = [] := List.eq_nil_of_length_eq_zero hl
    subst hxs
    go_enter Tryz.func172, Tryz.ntmps172
    go_wp2
    go_ret
    exact ⟨_, rfl, World.ownsRow_nil w _ _ _, Below.refl _ _⟩
  · have HB : Hid (w.heap.size ≤ (w.alloc (.cells #[] 23)).heap.size) := Lib.hid hbA.size
    go_enter Tryz.func172, Tryz.ntmps172
    go_wp2_with (at_builtin; go_must (refine list_append_rw kindSU rfl (.tmp 5) (.tmp 6) rfl w.heap.size _ 0 [] rfl hown0 _ n c xs rfl (by rw [hl, Nat.mul_one]) hrA (by simp) h1 (by rw [Nat.zero_add]; exact hn) (by omega) HB.out ?_; intro v' w' ho' hg' hgr'; have H1 : Hid (w'.ownsRow w.heap.size 23 1 v' n xs) := Lib.hid (by rw [Nat.zero_add, List.nil_append] at ho'; exact ho'); have H2 : Hid (Below w.heap.size w w') := Lib.hid (hbA.grown hg' HB.out (fun k e => hge k e)); clear ho' hg' hgr' hrA hown0 hbA))
    go_ret
    exact ⟨_, rfl, H1.out, H2.out⟩
set_option maxHeartbeats 1000000 in
theorem cloneu_any (A : Option Addr) (n c : Nat) (xs : List Value) (w : World) (hl : xs.length = n) (hr : Rw w A xs) (h1 : ∀ u ∈ xs, u.oneCell' = true) (hnil : A = none → c = 0) (hn : n ≤ 1000000) :
    Calls Tryz.prog 73 #[.slice A n c] w (RawPost 22 n xs w) := by
  have q0 : ∀ (w : World) (a : Option Addr) (n c : Nat), (binOp .eql 23 (.slice a n c) (.slice none 0 0)).run Tryz.prog w = .ok (.bool a.isNone) w := fun w a n c => Lib.run_eql_slice_nil w _ _ a n c 0 0 Tryz.underlying23
  have hown0 := own_empty w 22 1
  have hge := own_ge hown0
  have hbA := below_one w (.cells #[] 22)
  have hrA := hr.below hbA
  rcases A with _ | ad
  · have hn0 : n = 0 := by
      rcases Nat.eq_zero_or_pos n with h0 | h0
      · exact h0
      · obtain ⟨_, _, e, _⟩ := hr (by rw [hl]; exact h0)
        cases e
    subst hn0
    have hxs : xs = [] := List.eq_nil_of_length_eq_zero hl
    subst hxs
    go_enter Tryz.func73, Tryz.ntmps73
    go_wp2
    go_ret
    exact ⟨_, rfl, World.ownsRow_nil w _ _ _, Below.refl _ _⟩
  · have HB : Hid (w.heap.size ≤ (w.alloc (.cells #[] 22)).heap.size) := Lib.hid hbA.size
    go_enter Tryz.func73, Tryz.ntmps73
    go_wp2_with (at_builtin; go_must (refine list_append_rw kindU2 rfl (.tmp 5) (.tmp 6) rfl w.heap.size _ 0 [] rfl hown0 _ n c xs rfl (by rw [hl, Nat.mul_one]) hrA (by simp) h1 (by rw [Nat.zero_add]; exact hn) (by omega) HB.out ?_; intro v' w' ho' hg' hgr'; have H1 : Hid (w'.ownsRow w.heap.size 22 1 v' n xs) := Lib.hid (by rw [Nat.zero_add, List.nil_append] at ho'; exact ho'); have H2 : Hid (Below w.heap.size w w') := Lib.hid (hbA.grown hg' HB.out (fun k e => hge k e)); clear ho' hg' hgr' hrA hown0 hbA))
    go_ret
    exact ⟨_, rfl, H1.out, H2.out⟩
def CpS (w : World) (B g n k : Nat) (S : List (List Int)) (old : List Value) (cur : Array Value) : Prop :=
  Blk w g cur 23 ∧ n ≤ cur.size ∧ (∀ i, i < k → ∃ v, cur[i]? = some v ∧ (SlE U64E).R w (fun b => B ≤ b ∧ b ≠ g) [v] (S.getD i [])) ∧ ∀ i v, k ≤ i → old[i]? = some v → cur[i]? = some v
theorem CpS.below {w w' : World} {B g n k : Nat} {S : List (List Int)} {old : List Value} {cur : Array Value} (h : CpS w B g n k S old cur) (hb : Below w.heap.size w w') : CpS w' B g n k S old cur := by
  obtain ⟨h1, h2, h3, h4⟩ := h
  refine ⟨h1.below hb, h2, fun i hi => ?_, h4⟩
  obtain ⟨v, hv, hR⟩ := h3 i hi
  exact ⟨v, hv, (SlE U64E).keep hR fun b _ hl => hb.block b hl⟩
theorem CpS.ks {S0 : Nat → Prop} {w w' : World} {B g n k : Nat} {S : List (List Int)} {old : List Value} {cur : Array Value} (h : CpS w B g n k S old cur) (hk : Ks S0 w w') (h0 : ∀ b, S0 b → b < B) (hg : B ≤ g) : CpS w' B g n k S old cur := by
  obtain ⟨h1, h2, h3, h4⟩ := h
  refine ⟨h1.ks hk (fun hs => by have := h0 g hs; omega), h2, fun i hi => ?_, h4⟩
  obtain ⟨v, hv, hR⟩ := h3 i hi
  exact ⟨v, hv, (SlE U64E).keep hR fun b hb hl => hk.block b hl fun hs => by have := h0 b hs; omega⟩
theorem CpS.next {w : World} {B g n k : Nat} {S : List (List Int)} {old : List Value} {cur : Array Value} {v : Value} (h : CpS w B g n k S old cur) (hk : k < n) (hv : (SlE U64E).R w (fun b => B ≤ b ∧ b ≠ g) [v] (S.getD k [])) :
    CpS (w.setCell ⟨g, k, none⟩ v) B g n (k + 1) S old (cur.set! k v) := by
  obtain ⟨h1, h2, h3, h4⟩ := h
  have hkp := Kp.setCell w g k v
  refine ⟨h1.set k v, by simpa using h2, fun i hi => ?_, fun i u hi hu => ?_⟩
  · rcases Nat.lt_or_ge i k with h5 | h5
    · obtain ⟨u, hu, hR⟩ := h3 i h5
      exact ⟨u, by rw [Array.set!_eq_setIfInBounds, Array.getElem?_setIfInBounds, if_neg (by omega)]; exact hu, (SlE U64E).keep hR fun b hb hl => hkp.block b hl hb.2⟩
    · obtain rfl : i = k := by omega
      exact ⟨v, by rw [Array.set!_eq_setIfInBounds, Array.getElem?_setIfInBounds, if_pos rfl, if_pos (by omega)], (SlE U64E).keep hv fun b hb hl => hkp.block b hl hb.2⟩
  · rw [Array.set!_eq_setIfInBounds, Array.getElem?_setIfInBounds, if_neg (by omega)]
    exact h4 i u (by omega) hu
theorem sts_of_cells {w : World} {P : Nat → Prop} {g n : Nat} {S : List (List Int)} (hl : S.length = n) (hg : P g) (h : ∀ i, i < n → ∃ v, w.cell? ⟨g, i, none⟩ = some v ∧ (SlE U64E).R w P [v] (S.getD i [])) : Sts w P (some ⟨g, 0, none⟩) n S := by
  obtain ⟨cs, xs, l1, l2, hp⟩ := pick_n (p := fun i c x => x = S.getD i [] ∧ ∃ v, c = [v] ∧ w.cell? ⟨g, i, none⟩ = some v ∧ (SlE U64E).R w P [v] (S.getD i [])) n fun i hi => by
    obtain ⟨v, h1, h2⟩ := h i hi
    exact ⟨[v], _, rfl, v, rfl, h1, h2⟩
  have hxs : xs = S := by
    apply List.ext_getElem (by omega)
    intro i h1 h2
    have := (hp i (cs[i]'(by omega)) xs[i] (List.getElem?_eq_getElem _) (List.getElem?_eq_getElem _)).1
    rw [this, List.getD_eq_getElem?_getD, List.getElem?_eq_getElem h2]; rfl
  subst hxs
  refine ⟨hl, cs, Ch.of (by omega) fun i c x hc hx => ?_, fun hpos => ⟨g, 0, rfl, hg, fun i v hv => ?_⟩⟩
  · obtain ⟨e, v, rfl, _, hR⟩ := hp i c x hc hx
    rw [e]; exact hR
  · have hlen : ∀ c ∈ cs, c.length = 1 := fun c hcm => by
      obtain ⟨i, hi, e⟩ := List.mem_iff_getElem.1 hcm
      obtain ⟨_, v, e2, _⟩ := hp i c _ (by rw [List.getElem?_eq_getElem hi, e]) (List.getElem?_eq_getElem (by omega))
      rw [e2]; rfl
    obtain ⟨i', j, c, e, hj, hci, hcv⟩ := flat_at hlen i v hv
    have hi' := (List.getElem?_eq_some_iff.1 hci).1
    obtain ⟨_, u, rfl, hu, _⟩ := hp i' c _ hci (List.getElem?_eq_getElem (by omega))
    obtain rfl : j = 0 := by omega
    simp at hcv
    subst hcv
    rw [Nat.zero_add, show i = i' by omega]
    exact hu
theorem CpS.sts {w : World} {B g n : Nat} {S : List (List Int)} {old : List Value} {cur : Array Value} (h : CpS w B g n n S old cur) (hg : B ≤ g) (hl : S.length = n) : Sts w (fun b => B ≤ b) (some ⟨g, 0, none⟩) n S := by
  obtain ⟨h1, h2, h3, h4⟩ := h
  refine sts_of_cells hl hg fun i hi => ?_
  obtain ⟨v, hv, hR⟩ := h3 i hi
  exact ⟨v, h1.cell i hv, (SlE U64E).mono hR fun b hb _ => hb.1⟩
def CpPost (f t : Int) (n : Nat) (S : List (List Int)) (w : World) (e : Ending) (w' : World) : Prop :=
  ∃ (A : Option Addr) (m : Nat), e = .returned (stagg f t A n m) ∧ Below w.heap.size w w' ∧ Sts w' (fun k => w.heap.size ≤ k) A n S ∧ n ≤ m ∧ (A = none → m = 0)
theorem Sq.raw {α : Type} {E : El α} {w : World} {P : Nat → Prop} {A : Option Addr} {S : List α} (h : Sq E w P A S) : ∃ cs, Ch E w P cs S ∧ cs.flatten.length = S.length * E.k ∧ Rw w A cs.flatten ∧ (∀ u ∈ cs.flatten, u.oneCell' = true) := by
  obtain ⟨cs, h1, h2⟩ := h
  exact ⟨cs, h1, h1.flat, h2.rw, h1.ones⟩
set_option maxHeartbeats 4000000 in
theorem stcopy_any (f t : Int) (A : Option Addr) (n m : Nat) (S : List (List Int)) (w : World) (hz : Sts w (fun b => b < w.heap.size) A n S) (hm : n ≤ m) (hnil : A = none → m = 0) (hn : n ≤ 100000) (hlen : ∀ l ∈ S, l.length ≤ 100000) :
    Calls Tryz.prog 127 #[stagg f t A n m] w (CpPost f t n S w) := by
  have hX := (Blk.new w (stc f t A n m) 128).alloc (.cells (stc 0 0 none 0 0) 128)
  have hY := Blk.new (w.alloc (.cells (stc f t A n m) 128)) (stc 0 0 none 0 0) 128
  rw [show (w.alloc (.cells (stc f t A n m) 128)).heap.size = w.heap.size + 1 by simp] at hY
  have hb := below_two w (.cells (stc f t A n m) 128) (.cells (stc 0 0 none 0 0) 128)
  have hw0 : ((w.alloc (.cells (stc f t A n m) 128)).alloc (.cells (stc 0 0 none 0 0) 128)).heap.size = w.heap.size + 2 := by simp
  have HZ := Lib.hid hz
  have HB0 := Lib.hid hb
  have HLEN := Lib.hid hlen
  have HL := Lib.hid hz.1
  obtain ⟨old, hch, hol, hraw, hone⟩ := (hz.below hb).2.raw
  rw [hz.1, show (SlE U64E).k = 1 from rfl, Nat.mul_one] at hol
  have hcl := clones_any A n m old.flatten _ hol hraw hone hnil (by omega)
  have HCH := Lib.hid hch
  have HOL := Lib.hid hol
  clear hz hlen hch hraw hone hol
  obtain ⟨x0, x1, x2⟩ := hX.c3
  go_enter Tryz.func127, Tryz.ntmps127
  go_wp2_with fail
  generalize (w.alloc (.cells (stc f t A n m) 128)).alloc (.cells (stc 0 0 none 0 0) 128) = w0 at *
  refine hcl.mono ?_
  rintro e w1 ⟨v, rfl, ho, hb1⟩
  have hX1 := hX.below hb1
  have hY1 := hY.below hb1
  have hbd1 := hb.trans (hb1.mono hb.size)
  have hsz1 := hb1.size
  clear hcl x0 x1 x2 hX hY
  rcases ho.2 with ⟨rfl, h0⟩ | ⟨g, cap, cur, rfl, hB, hh, hcap, _, hsz, htk⟩
  · have hS0 : S = [] := List.eq_nil_of_length_eq_zero (by rw [HL.out]; exact h0)
    subst h0
    have hX2 := hX1.set 2 (.slice none 0 0)
    have hY2 := hY1.far (g := w.heap.size) 2 (.slice none 0 0) (by omega)
    have hbd2 := Below.setCell hbd1 (p := ⟨w.heap.size, 2, none⟩) (Nat.le_refl _) (.slice none 0 0)
    obtain ⟨x0, x1, x2⟩ := hX1.c3
    have i2 := hX1.free 2
    clear ho
    go_upto_region 2 with (fail)
    clear x0 x1 x2 i2
    generalize w1.setCell ⟨w.heap.size, 2, none⟩ (.slice none 0 0) = w2 at *
    obtain ⟨x0, x1, x2⟩ := Blk.c3 (v0 := .int .u64 f) (v1 := .int .u64 t) (v2 := .slice none 0 0) hX2
    go_wp2
    go_loopw [12] (fun i wr => i = .int .i64 0 ∧ wr = w2) (fun _ _ => 0)
    case atStart => exact ⟨rfl, rfl⟩
    case round =>
      obtain ⟨rfl, rfl⟩ := hrel
      obtain ⟨y0, y1, y2⟩ := hY2.c3
      have f0 := hY2.free 0
      have f1 := hY2.free 1
      have f2 := hY2.free 2
      go_wp2
      refine bodyPost_ret (v := stagg f t none 0 0) (by simp [results, Tryz.results127, go_sem, y0, y1, y2]) rfl ⟨none, 0, rfl, ?_, ⟨by rw [hS0]; rfl, by rw [hS0]; exact Sq.nil _ _ _ _⟩, by omega, fun _ => rfl⟩
      iterate 3 (refine Below.setCell ?_ (by simp) _)
      exact hbd2
  · have hC1 : CpS w1 (w.heap.size + 2) g n 0 S old.flatten cur := ⟨hh, by rw [hsz]; omega, fun i hi => absurd hi (by omega), fun i v _ hv => by
      rw [Nat.mul_one] at htk
      rw [← htk, List.getElem?_take] at hv
      split at hv
      · simpa using hv
      · cases hv⟩
    have hX2 := hX1.set 2 (.slice (some ⟨g, 0, none⟩) n cap)
    have hY2 := hY1.far (g := w.heap.size) 2 (.slice (some ⟨g, 0, none⟩) n cap) (by omega)
    have hbd2 := Below.setCell hbd1 (p := ⟨w.heap.size, 2, none⟩) (Nat.le_refl _) (.slice (some ⟨g, 0, none⟩) n cap)
    have hC2 := hC1.ks (Ks.setCell (S := fun k => k = w.heap.size) w1 w.heap.size 2 (.slice (some ⟨g, 0, none⟩) n cap) rfl) (fun b hb => by omega) (by omega)
    have hgB : w.heap.size + 2 ≤ g := by omega
    obtain ⟨x0, x1, x2⟩ := hX1.c3
    have i2 := hX1.free 2
    clear ho hh hsz htk hC1 hB
    go_upto_region 2 with (fail)
    clear x0 x1 x2 i2 hX1 hY1 hbd1
    generalize w1.setCell ⟨w.heap.size, 2, none⟩ (.slice (some ⟨g, 0, none⟩) n cap) = w2 at *
    have hX3 : Blk w2 w.heap.size (stc f t (some ⟨g, 0, none⟩) n cap) 128 := hX2
    clear hX2
    obtain ⟨x0, x1, x2⟩ := hX3.c3
    go_wp2
    clear x0 x1 x2
    go_loopw [12] (fun i wr => ∃ (k : Nat) (cur : Array Value), k ≤ n ∧ i = .int .i64 k ∧ Blk wr w.heap.size (stc f t (some ⟨g, 0, none⟩) n cap) 128 ∧ Blk wr (w.heap.size + 1) (stc 0 0 none 0 0) 128 ∧ Hid (CpS wr (w.heap.size + 2) g n k S old.flatten cur) ∧ Below w.heap.size w wr) (fun i _ => n - (intOf i).toNat)
    case atStart => exact ⟨0, cur, by omega, rfl, hX3, hY2, Lib.hid hC2, hbd2⟩
    case round =>
      clear hX3 hY2 hC2 hbd2
      obtain ⟨k, cur, hk, rfl, hX, hY, HC, hbd⟩ := hrel
      obtain ⟨x0, x1, x2⟩ := hX.c3
      by_cases hlt : k < n
      · have hkS : k < S.length := by rw [HL.out]; exact hlt
        obtain ⟨c, ⟨a, mm, rfl, hl1, hnl, hsq⟩, hat⟩ := HCH.out.at_ k S[k] (List.getElem?_eq_getElem hkS)
        have hold := hat 0 _ rfl
        rw [show k * (SlE U64E).k + 0 = k by show k * 1 + 0 = k; omega] at hold
        have hsqr : Sq U64E wr (fun b => b < w.heap.size) a S[k] := hsq.keep fun b hb9 _ => (hbd.block b hb9).trans (HB0.out.block b hb9).symm
        obtain ⟨hus, hbz⟩ := hsqr.us
        have hzk : S.getD k [] = S[k] := by rw [List.getD_eq_getElem?_getD, List.getElem?_eq_getElem hkS]; rfl
        have hzl := HLEN.out _ (List.getElem_mem hkS)
        obtain ⟨z, hz⟩ : ∃ z, z = S[k] := ⟨_, rfl⟩
        rw [← hz] at hus hbz hzk hl1 hold hzl
        have HZK := Lib.hid hzk
        have HBZ := Lib.hid hbz
        have hblk := HC.out.1
        have hcur : cur[k]? = some (.slice a z.length mm) := HC.out.2.2.2 k _ (Nat.le_refl _) hold
        have c0 := hblk.cell k hcur
        have hgl := hblk.lt
        have e2 : (k : Int) < n := by omega
        have e3 : IntKind.i64.wrap ((k : Int) + 1) = ((k + 1 : Nat) : Int) := IntWalk.i64_in _ (by omega)
        have hbw : Below w.heap.size w wr.drew := hbd.trans ((below_one' wr).mono hbd.size)
        have hcon := cloneu_any a z.length mm (uv z) wr.drew (by simp) (hus.2 : Rw wr a (uv z)) (by intro u hu; simp [uv] at hu; obtain ⟨x, _, rfl⟩ := hu; rfl) hnl (by omega)
        have hS : Blk wr.drew w.heap.size (stc f t (some ⟨g, 0, none⟩) n cap) 128 := hX
        have L : ∀ w', Blk w' w.heap.size (stc f t (some ⟨g, 0, none⟩) n cap) 128 → w'.cell? ⟨w.heap.size, 2, none⟩ = some (.slice (some ⟨g, 0, none⟩) n cap) := fun w' h => h.c3.2.2
        have hYd : Blk wr.drew (w.heap.size + 1) (stc 0 0 none 0 0) 128 := hY
        have hCd := HC.out.below (below_one' wr)
        have HCUR := Lib.hid hcur
        clear hat hsq hsqr hus hbz hzk hz hblk hold hcur hX hY hbd HC
        go_wp2
        clear c0 x0 x1 x2
        refine Seq.wp_region_last (fun w' => Blk w' w.heap.size (stc f t (some ⟨g, 0, none⟩) n cap) 128) (by kernel_rfl) (by kernel_rfl) (by kernel_rfl) hS ?_
        repeat (first | (refine Seq.SeqE.skip (by rfl) ?_; (try simp only [Act.put, List.setIfInBounds_toArray, List.set_cons_zero, List.set_cons_succ])) | (refine Seq.SeqE.det ?_ (by rfl) (fun w hS => ?_) ?_; rotate_left; ((try dsimp only at hS); go_simp; (try rw [if_pos (by omega)]); with_reducible rfl); (try simp only [Act.put, List.setIfInBounds_toArray, List.set_cons_zero, List.set_cons_succ])))
        refine Seq.SeqE.make (by rfl) (by rfl) (fun K Q' hK => ?_)
        go_simp
        go_at_call 73
        refine hcon.mono ?_
        rintro e w5 ⟨v, rfl, ho5, hb5⟩
        have hS5 := hS.below hb5
        have hY5 := hYd.below hb5
        have hC5 := hCd.below hb5
        have hbd5 := hbw.trans (hb5.mono hbw.size)
        have hoU : OwnU w5 wr.drew.heap.size v z := ho5
        obtain ⟨Av, cv, rfl⟩ := hoU.slice
        have hel := (SlE U64E).mono (OwnU.el hoU HBZ.out) (Q := fun b => w.heap.size + 2 ≤ b ∧ b ≠ g) (fun b hb9 _ => by
          have h1 := own_ge hoU b hb9
          have h2 : wr.heap.size ≤ b := h1
          omega)
        have h5 := hC5.1
        have q0 := h5.cell k HCUR.out
        have q1 := h5.free k
        clear hcon hb5 ho5 hYd hCd hbw hS h5
        refine hK.out _ _ (hS5) ?_
        clear hK K
        try simp only [Act.put, List.setIfInBounds_toArray, List.set_cons_zero, List.set_cons_succ]
        repeat (first | (refine Seq.SeqE.skip (by rfl) ?_; (try simp only [Act.put, List.setIfInBounds_toArray, List.set_cons_zero, List.set_cons_succ])) | (refine Seq.SeqE.det ?_ (by rfl) (fun w hS => ?_) ?_; rotate_left; ((try dsimp only at hS); go_simp; (try rw [if_pos (by omega)]); with_reducible rfl); (try simp only [Act.put, List.setIfInBounds_toArray, List.set_cons_zero, List.set_cons_succ])))
        refine Seq.SeqE.last (by rfl) (by rfl) (fun K Q' hK => ?_)
        go_simp
        refine hK.out _ _ ?_
        clear hK K
        try simp only [Act.put, List.setIfInBounds_toArray, List.set_cons_zero, List.set_cons_succ]
        clear q0 q1 L
        have HX9 := Lib.hid (hS5.far (g := g) k (.slice Av z.length cv) (by omega))
        have HY9 := Lib.hid (hY5.far (g := g) k (.slice Av z.length cv) (by omega))
        have HC9 := Lib.hid (hC5.next hlt (by rw [HZK.out]; exact hel))
        have HB9 := Lib.hid (Below.setCell hbd5 (p := ⟨g, k, none⟩) (by show w.heap.size ≤ g; omega) (.slice Av z.length cv))
        clear hS5 hY5 hC5 hbd5 hel hoU
        go_wp2
        go_roundw
        case rel => exact ⟨k + 1, _, by omega, by go_num, HX9.out, HY9.out, HC9, HB9.out⟩
        case measure => simp [intOf]; omega
      · obtain rfl : k = n := by omega
        have HST := Lib.hid (HC.out.sts (by omega) HL.out)
        obtain ⟨y0, y1, y2⟩ := hY.c3
        have f0 := hY.free 0
        have f1 := hY.free 1
        have f2 := hY.free 2
        clear HC hlt
        go_wp2
        refine bodyPost_ret (v := stagg f t (some ⟨g, 0, none⟩) k cap) (by simp [results, Tryz.results127, go_sem, y0, y1, y2]) rfl ⟨some ⟨g, 0, none⟩, cap, rfl, ?_, ?_, hcap, fun e => by cases e⟩
        · iterate 3 (refine Below.setCell ?_ (by simp) _)
          exact hbd
        · refine Sts.mono (Sts.keep HST.out (fun b hb9 _ => ?_)) (fun b hb9 _ => by omega)
          rw [Below.heap_setCell _ _ _ _ (by simp; omega), Below.heap_setCell _ _ _ _ (by simp; omega), Below.heap_setCell _ _ _ _ (by simp; omega)]
end Go.Proofs.YtmiimjgfainclaaGreat.Cur
namespace Go.Proofs.YtmiimjgfainclaaGreat.Cur
open Go.RowKit Mem
set_option linter.unusedVariables false
set_option maxRecDepth 100000
end Go.Proofs.YtmiimjgfainclaaGreat.Cur
namespace Go.Proofs.YtmiimjgfainclaaGreat.Cur
open Go.RowKit Mem Go.ChangeShapes Go.WideShapes
set_option linter.unusedVariables false
set_option maxRecDepth 100000
theorem opens_sets : Opens (SlE (SlE U64E)) 126 := opens_slice Tryz.underlying126 (by kernel_rfl) (by decide) (opens_slice Tryz.underlying23 (by kernel_rfl) (by decide) (opens_u64 Tryz.underlying22))
theorem opens_stripe : Opens (PrE U64E (PrE U64E (SlE (SlE U64E)))) 128 := opens_three Tryz.underlying128 rfl rfl rfl (by kernel_rfl) (by kernel_rfl) (by kernel_rfl) (by kernel_rfl) (opens_u64 Tryz.underlying22) (opens_u64 Tryz.underlying22) opens_sets
theorem stripe_parts {w : World} {P : Nat → Prop} {c : List Value} {s : Stp} (h : (PrE U64E (PrE U64E (SlE (SlE U64E)))).R w P c s) :
    ∃ A m, c = [.int .u64 s.1, .int .u64 s.2.1, .slice A s.2.2.length m] ∧ (0 ≤ s.1 ∧ s.1 < 18446744073709551616) ∧ (0 ≤ s.2.1 ∧ s.2.1 < 18446744073709551616) ∧ s.2.2.length ≤ m ∧ (A = none → m = 0) ∧ Sts w P A s.2.2.length s.2.2 := by
  obtain ⟨d, e, rfl, ⟨rfl, b0⟩, d2, e2, rfl, ⟨rfl, b1⟩, A, m, rfl, h1, h2, h3⟩ := h
  exact ⟨A, m, rfl, b0, b1, h1, h2, rfl, h3⟩
section
variable {H : Type} {enc : TypeId × Value → H} {w : World} {base : Nat} {v : Value} {d : DataW H} {p : List MemPlace}
end
def LgPost (n : Nat) (S : List (List Int)) (w : World) (e : Ending) (w' : World) : Prop := ∃ b, e = .returned (.bool b) ∧ Below w.heap.size w w' ∧ (b = false → n ≤ 20 ∧ ∀ l ∈ S, l.length ≤ 20)
set_option maxHeartbeats 2000000 in
theorem long19_any (P : Nat → Prop) (f t : Int) (A : Option Addr) (n m : Nat) (S : List (List Int)) (w : World) (hz : Sts w P A n S) :
    Calls Tryz.prog 99 #[stagg f t A n m] w (LgPost n S w) := by
  have hX := Blk.new w (stc f t A n m) 128
  have hb := below_one w (.cells (stc f t A n m) 128)
  have HL := Lib.hid hz.1
  have HC := Lib.hid (fun h => (hz.below hb).cells h)
  have HX := Lib.hid hX
  obtain ⟨x0, x1, x2⟩ := hX.c3
  clear hz hX
  go_enter Tryz.func99, Tryz.ntmps99
  go_wp2
  clear x0 x1 x2
  generalize w.alloc (.cells (stc f t A n m) 128) = w0 at *
  go_loopw [3] (fun i wr => ∃ k : Nat, k ≤ n ∧ k ≤ 20 ∧ i = .int .i64 k ∧ Hid (∀ j, j < k → (S.getD j []).length ≤ 20) ∧ Below w0.heap.size w0 wr) (fun i _ => 20 - (intOf i).toNat)
  case atStart => exact ⟨0, by omega, by omega, rfl, Lib.hid (by intro j hj; omega), Below.refl _ _⟩
  case round =>
    obtain ⟨k, hk, hk20, rfl, hj, hb0⟩ := hrel
    obtain ⟨x0, x1, x2⟩ := (HX.out.below hb0).c3
    have hbd := hb.trans (hb0.mono hb.size)
    by_cases hlt : k < n
    · have e1 : (k : Int) < n := by omega
      by_cases h20 : k < 20
      · have e2 : (k : Int) < 20 := by omega
        obtain ⟨g, o, rfl, _, hg, hc⟩ := HC.out (by omega)
        obtain ⟨a, l, mm, hl, hlm, han, hus, _, _, hcell⟩ := hc k hlt
        have c0 := hcell wr hb0
        have HLL := Lib.hid hl
        have e3 : IntKind.i64.wrap ((k : Int) + 1) = ((k + 1 : Nat) : Int) := IntWalk.i64_in _ (by omega)
        clear hc hl hus hcell han
        by_cases hl2 : 20 < (l : Int)
        · go_wp2
          go_ret
          exact ⟨true, rfl, hbd, fun h => by cases h⟩
        · have HL3 : Hid (l ≤ 20) := Lib.hid (by omega)
          go_wp2
          go_roundw
          case rel => exact ⟨k + 1, by omega, by omega, by go_num, Lib.hid (fun j hjk => by
            rcases Nat.lt_or_ge j k with h | h
            · exact hj.out j h
            · obtain rfl : j = k := by omega
              rw [HLL.out]; exact HL3.out), hb0⟩
          case measure => simp [intOf]; omega
      · have e2 : ¬ (k : Int) < 20 := by omega
        have e3 : 20 < (n : Int) := by omega
        go_wp2
        go_ret
        exact ⟨true, rfl, hbd, fun h => by cases h⟩
    · obtain rfl : k = n := by omega
      have e3 : ¬ 20 < (k : Int) := by omega
      have HN : Hid (∀ l ∈ S, l.length ≤ 20) := Lib.hid fun l hl => by
        obtain ⟨j, hj2, e⟩ := List.mem_iff_getElem.1 hl
        have := hj.out j (by rw [← HL.out]; exact hj2)
        rw [List.getD_eq_getElem?_getD, List.getElem?_eq_getElem hj2, Option.getD_some, e] at this
        exact this
      go_wp2
      go_ret
      exact ⟨false, rfl, hbd, fun _ => ⟨hk20, HN.out⟩⟩
end Go.Proofs.YtmiimjgfainclaaGreat.Cur
namespace Go.Proofs.YtmiimjgfainclaaGreat.Cur
open Go.RowKit Mem
set_option linter.unusedVariables false
set_option maxRecDepth 100000
end Go.Proofs.YtmiimjgfainclaaGreat.Cur
