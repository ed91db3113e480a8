/- As the seat's text, without what nothing here names. -/
import Derived.Test.YtoemmppoejaapaaK23f
import Derived.Deep.QuietTactic
import Derived.BigQuiet
import Derived.Test.YtoemmppoejaapaaK24f
import Derived.Test.YtoemmppoejaapaaK1f
import Derived.Lib.SliceRun
namespace Go.Proofs.Ytoemmppoejaapaa.Cur
open Go.RowKit Mem
set_option linter.unusedVariables false
set_option maxRecDepth 100000
theorem lq_yes {α : Type} [DecidableEq α] {d : α} {x y : List α} (hl : x.length = y.length) (h : ∀ i, i < x.length → x.getD i d = y.getD i d) : decide (x = y) = true := by
  rw [decide_eq_true_eq]
  apply List.ext_getElem hl
  intro i h1 h2
  have := h i h1
  rw [List.getD_eq_getElem?_getD, List.getD_eq_getElem?_getD, List.getElem?_eq_getElem h1, List.getElem?_eq_getElem h2] at this
  exact this
theorem lq_len {α : Type} [DecidableEq α] {x y : List α} (hl : x.length ≠ y.length) : decide (x = y) = false := decide_eq_false fun e => hl (by rw [e])
theorem lq_at {α : Type} [DecidableEq α] {d : α} {x y : List α} (i : Nat) (h : x.getD i d ≠ y.getD i d) : decide (x = y) = false := decide_eq_false fun e => h (by rw [e])
set_option maxHeartbeats 2000000 in
theorem rsame5_gen (A B : Option Addr) (n m c d : Nat) (x y : List Int) (w : World) (ha : Us w A n x) (hb : Us w B m y) (hn : n ≤ 1000000) (hm : m ≤ 1000000) :
    Calls Try.prog 11 #[.slice A n c, .slice B m d] w (BPost (.bool (decide (x = y))) w) := by
  unfold BPost
  have HL := Lib.hid ha.1
  have HL2 := Lib.hid hb.1
  have HC : Hid (n ≠ 0 → ∃ g o, A = some ⟨g, o, none⟩ ∧ g < w.heap.size ∧ ∀ w', Below w.heap.size w w' → ∀ k, k < n → w'.cell? ⟨g, o + k, none⟩ = some (.int .u64 (x.getD k 0))) := Lib.hid fun h => ha.cells (by omega)
  have HC2 : Hid (m ≠ 0 → ∃ g o, B = some ⟨g, o, none⟩ ∧ g < w.heap.size ∧ ∀ w', Below w.heap.size w w' → ∀ k, k < m → w'.cell? ⟨g, o + k, none⟩ = some (.int .u64 (y.getD k 0))) := Lib.hid fun h => hb.cells (by omega)
  have HYES := Lib.hid (lq_yes (d := (0 : Int)) (x := x) (y := y))
  have HLEN := Lib.hid (lq_len (x := x) (y := y))
  have HNO := Lib.hid (fun i => lq_at (d := (0 : Int)) (x := x) (y := y) i)
  generalize decide (x = y) = r at *
  clear ha hb
  by_cases hnm : n = m
  case neg =>
    have hb2 : ((n : Int) != (m : Int)) = true := by simp; omega
    have HR := Lib.hid (HLEN.out (by rw [HL.out, HL2.out]; exact hnm))
    go_enter Try.func11, Try.ntmps11
    go_wp2
    go_ret
    exact ⟨by rw [HR.out]; rfl, Below.refl _ _⟩
  subst hnm
  have hb2 : ((n : Int) != (n : Int)) = false := by simp
  go_enter Try.func11, Try.ntmps11
  go_wp2
  go_loopw [5] (fun i wr => ∃ k : Nat, k ≤ n ∧ i = .int .i64 k ∧ Hid (∀ j, j < k → x.getD j 0 = y.getD j 0) ∧ Below w.heap.size w wr) (fun i _ => n - (intOf i).toNat)
  case atStart => exact ⟨0, by omega, rfl, Lib.hid (by intro j hj; omega), Below.refl _ _⟩
  case round =>
    obtain ⟨k, hk, rfl, hj, hb⟩ := hrel
    by_cases hlt : k < n
    · obtain ⟨g, o, rfl, hg, hc⟩ := HC.out (by omega)
      obtain ⟨g', o', rfl, hg', hc'⟩ := HC2.out (by omega)
      have c0 := hc wr hb k hlt
      have c1 := hc' wr hb k hlt
      obtain ⟨u, hu⟩ : ∃ u, u = x.getD k 0 := ⟨_, rfl⟩
      obtain ⟨v, hv⟩ : ∃ v, v = y.getD k 0 := ⟨_, rfl⟩
      rw [← hu] at c0
      rw [← hv] at c1
      have HU := Lib.hid hu
      have HV := Lib.hid hv
      have e2 : (k : Int) < n := by omega
      have e3 : IntKind.i64.wrap ((k : Int) + 1) = ((k + 1 : Nat) : Int) := IntWalk.i64_in _ (by omega)
      clear hc hc' hu hv
      by_cases he : u = v
      · have hb3 : (u != v) = false := by simpa using he
        have HE := Lib.hid he
        clear he
        go_wp2
        go_quiet (fail)
        go_wp2
        go_roundw
        case rel => exact ⟨k + 1, by omega, by go_num, Lib.hid (fun j hjk => by
          rcases Nat.lt_or_ge j k with h | h
          · exact hj.out j h
          · obtain rfl : j = k := by omega
            rw [← HU.out, ← HV.out]; exact HE.out), below_drewN hb _⟩
        case measure => simp [intOf]; omega
      · have hb3 : (u != v) = true := by simpa using he
        have HR := Lib.hid (HNO.out k (by rw [← HU.out, ← HV.out]; exact he))
        clear he
        go_wp2
        go_quiet (fail)
        go_wp2
        go_ret
        exact ⟨by rw [HR.out]; rfl, below_drewN hb _⟩
    · obtain rfl : k = n := by omega
      go_wp2
      go_ret
      exact ⟨by rw [HYES.out (by rw [HL.out, HL2.out]) (fun i hi => hj.out i (by rw [HL.out] at hi; exact hi))]; rfl, hb⟩
end Go.Proofs.Ytoemmppoejaapaa.Cur
namespace Go.Proofs.Ytoemmppoejaapaa.Cur
open Go.RowKit Mem
set_option linter.unusedVariables false
set_option maxRecDepth 100000
end Go.Proofs.Ytoemmppoejaapaa.Cur
namespace Go.Proofs.Ytoemmppoejaapaa.Cur
open Go.RowKit Mem
set_option linter.unusedVariables false
set_option maxRecDepth 100000
theorem own_empty (w : World) (e size : Nat) : (w.alloc (.cells #[] e)).ownsRow w.heap.size e size (.slice (some ⟨w.heap.size, 0, none⟩) 0 0) 0 [] :=
  ⟨by simp, .inr ⟨w.heap.size, 0, #[], rfl, Nat.le_refl _, Blk.new w #[] e, Nat.le_refl _, by simp only [maxLen]; omega, by simp, by simp⟩⟩
def RawPost (e : TypeId) (n : Nat) (xs : List Value) (w : World) (en : Ending) (w' : World) : Prop := ∃ v, en = .returned v ∧ w'.ownsRow w.heap.size e 1 v n xs ∧ Below w.heap.size w w'
theorem kindU2 : Kind 34 22 (.int .u64 0) 1 8 := ⟨Try.underlying34, by kernel_rfl, rfl, by decide⟩
set_option maxHeartbeats 1000000 in
theorem cloneu_any (A : Option Addr) (n c : Nat) (xs : List Value) (w : World) (hl : xs.length = n) (hr : Rw w A xs) (h1 : ∀ u ∈ xs, u.oneCell' = true) (hnil : A = none → c = 0) (hn : n ≤ 1000000) :
    Calls Try.prog 80 #[.slice A n c] w (RawPost 22 n xs w) := by
  have q0 : ∀ (w : World) (a : Option Addr) (n c : Nat), (binOp .eql 34 (.slice a n c) (.slice none 0 0)).run Try.prog w = .ok (.bool a.isNone) w := fun w a n c => Lib.run_eql_slice_nil w _ _ a n c 0 0 Try.underlying34
  have hown0 := own_empty w 22 1
  have hge := own_ge hown0
  have hbA := below_one w (.cells #[] 22)
  have hrA := hr.below hbA
  rcases A with _ | ad
  · have hn0 : n = 0 := by
      rcases Nat.eq_zero_or_pos n with h0 | h0
      · exact h0
      · obtain ⟨_, _, e, _⟩ := hr (by rw [hl]; exact h0)
        cases e
    subst hn0
    have hxs : xs = [] := List.eq_nil_of_length_eq_zero hl
    subst hxs
    go_enter Try.func80, Try.ntmps80
    go_wp2
    go_ret
    exact ⟨_, rfl, World.ownsRow_nil w _ _ _, Below.refl _ _⟩
  · have HB : Hid (w.heap.size ≤ (w.alloc (.cells #[] 22)).heap.size) := Lib.hid hbA.size
    go_enter Try.func80, Try.ntmps80
    go_wp2_with (at_builtin; go_must (refine list_append_rw kindU2 rfl (.tmp 5) (.tmp 6) rfl w.heap.size _ 0 [] rfl hown0 _ n c xs rfl (by rw [hl, Nat.mul_one]) hrA (by simp) h1 (by rw [Nat.zero_add]; exact hn) (by omega) HB.out ?_; intro v' w' ho' hg' hgr'; have H1 : Hid (w'.ownsRow w.heap.size 22 1 v' n xs) := Lib.hid (by rw [Nat.zero_add, List.nil_append] at ho'; exact ho'); have H2 : Hid (Below w.heap.size w w') := Lib.hid (hbA.grown hg' HB.out (fun k e => hge k e)); clear ho' hg' hgr' hrA hown0 hbA))
    go_ret
    exact ⟨_, rfl, H1.out, H2.out⟩
def CpS (w : World) (B g n k : Nat) (S : List (List Int)) (old : List Value) (cur : Array Value) : Prop :=
  Blk w g cur 34 ∧ n ≤ cur.size ∧ (∀ i, i < k → ∃ v, cur[i]? = some v ∧ (SlE U64E).R w (fun b => B ≤ b ∧ b ≠ g) [v] (S.getD i [])) ∧ ∀ i v, k ≤ i → old[i]? = some v → cur[i]? = some v
theorem CpS.below {w w' : World} {B g n k : Nat} {S : List (List Int)} {old : List Value} {cur : Array Value} (h : CpS w B g n k S old cur) (hb : Below w.heap.size w w') : CpS w' B g n k S old cur := by
  obtain ⟨h1, h2, h3, h4⟩ := h
  refine ⟨h1.below hb, h2, fun i hi => ?_, h4⟩
  obtain ⟨v, hv, hR⟩ := h3 i hi
  exact ⟨v, hv, (SlE U64E).keep hR fun b _ hl => hb.block b hl⟩
theorem CpS.ks {S0 : Nat → Prop} {w w' : World} {B g n k : Nat} {S : List (List Int)} {old : List Value} {cur : Array Value} (h : CpS w B g n k S old cur) (hk : Ks S0 w w') (h0 : ∀ b, S0 b → b < B) (hg : B ≤ g) : CpS w' B g n k S old cur := by
  obtain ⟨h1, h2, h3, h4⟩ := h
  refine ⟨h1.ks hk (fun hs => by have := h0 g hs; omega), h2, fun i hi => ?_, h4⟩
  obtain ⟨v, hv, hR⟩ := h3 i hi
  exact ⟨v, hv, (SlE U64E).keep hR fun b hb hl => hk.block b hl fun hs => by have := h0 b hs; omega⟩
theorem CpS.next {w : World} {B g n k : Nat} {S : List (List Int)} {old : List Value} {cur : Array Value} {v : Value} (h : CpS w B g n k S old cur) (hk : k < n) (hv : (SlE U64E).R w (fun b => B ≤ b ∧ b ≠ g) [v] (S.getD k [])) :
    CpS (w.setCell ⟨g, k, none⟩ v) B g n (k + 1) S old (cur.set! k v) := by
  obtain ⟨h1, h2, h3, h4⟩ := h
  have hkp := Kp.setCell w g k v
  refine ⟨h1.set k v, by simpa using h2, fun i hi => ?_, fun i u hi hu => ?_⟩
  · rcases Nat.lt_or_ge i k with h5 | h5
    · obtain ⟨u, hu, hR⟩ := h3 i h5
      exact ⟨u, by rw [Array.set!_eq_setIfInBounds, Array.getElem?_setIfInBounds, if_neg (by omega)]; exact hu, (SlE U64E).keep hR fun b hb hl => hkp.block b hl hb.2⟩
    · obtain rfl : i = k := by omega
      exact ⟨v, by rw [Array.set!_eq_setIfInBounds, Array.getElem?_setIfInBounds, if_pos rfl, if_pos (by omega)], (SlE U64E).keep hv fun b hb hl => hkp.block b hl hb.2⟩
  · rw [Array.set!_eq_setIfInBounds, Array.getElem?_setIfInBounds, if_neg (by omega)]
    exact h4 i u (by omega) hu
theorem Sq.raw {α : Type} {E : El α} {w : World} {P : Nat → Prop} {A : Option Addr} {S : List α} (h : Sq E w P A S) : ∃ cs, Ch E w P cs S ∧ cs.flatten.length = S.length * E.k ∧ Rw w A cs.flatten ∧ (∀ u ∈ cs.flatten, u.oneCell' = true) := by
  obtain ⟨cs, h1, h2⟩ := h
  exact ⟨cs, h1, h1.flat, h2.rw, h1.ones⟩
end Go.Proofs.Ytoemmppoejaapaa.Cur
namespace Go.Proofs.Ytoemmppoejaapaa.Cur
open Go.RowKit Mem
set_option linter.unusedVariables false
set_option maxRecDepth 100000
end Go.Proofs.Ytoemmppoejaapaa.Cur
namespace Go.Proofs.Ytoemmppoejaapaa.Cur
open Go.RowKit Mem Go.ChangeShapes Go.WideShapes
set_option linter.unusedVariables false
set_option maxRecDepth 100000
theorem Sts.bds {w : World} {P : Nat → Prop} {A : Option Addr} {n : Nat} {S : List (List Int)} (h : Sts w P A n S) : sbds S := by
  intro l hl x hx
  obtain ⟨k, hk, e⟩ := List.mem_iff_getElem.1 hl
  obtain ⟨cs, h1, _⟩ := h.2
  obtain ⟨c, ⟨a, m, _, _, _, hsq⟩, _⟩ := h1.at_ k l (by rw [List.getElem?_eq_getElem hk, e])
  exact hsq.us.2 x hx
section
variable {H : Type} {enc : TypeId × Value → H} {w : World} {base : Nat} {v : Value} {d : DataW H} {p : List MemPlace}
end
end Go.Proofs.Ytoemmppoejaapaa.Cur
namespace Go.Proofs.Ytoemmppoejaapaa.Cur
open Go.RowKit Mem
set_option linter.unusedVariables false
set_option maxRecDepth 100000
end Go.Proofs.Ytoemmppoejaapaa.Cur
