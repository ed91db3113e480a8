/- K25: StpO StpP StpQ StpT StpU StpV -/
import Derived.Test.YtgdcbfekekefiaaK23
import Derived.Deep.QuietTactic
import Derived.BigQuiet
import Derived.Test.YtgdcbfekekefiaaK24
import Derived.Test.YtgdcbfekekefiaaK1
import Derived.Lib.SliceRun
/- Stripes: two are the same, by the program and by the document. -/
/- Stripes: whole ones are the same; rows cloned. -/
/- Stripes copied. -/
/- Stripes: positions dealt, and back. -/
/- Stripes: a law's arguments; the document's example; are sets more than are gone through. -/
/- Stripes: what is dealt comes back. -/
namespace Go.Proofs.Ytgdcbfekekefiaa.Cur
open Go.RowKit Mem
set_option linter.unusedVariables false
set_option maxRecDepth 100000


theorem lq_yes {α : Type} [DecidableEq α] {d : α} {x y : List α} (hl : x.length = y.length) (h : ∀ i, i < x.length → x.getD i d = y.getD i d) : decide (x = y) = true := by
  rw [decide_eq_true_eq]
  apply List.ext_getElem hl
  intro i h1 h2
  have := h i h1
  rw [List.getD_eq_getElem?_getD, List.getD_eq_getElem?_getD, List.getElem?_eq_getElem h1, List.getElem?_eq_getElem h2] at this
  exact this
theorem lq_len {α : Type} [DecidableEq α] {x y : List α} (hl : x.length ≠ y.length) : decide (x = y) = false := decide_eq_false fun e => hl (by rw [e])
theorem lq_at {α : Type} [DecidableEq α] {d : α} {x y : List α} (i : Nat) (h : x.getD i d ≠ y.getD i d) : decide (x = y) = false := decide_eq_false fun e => h (by rw [e])

set_option maxHeartbeats 2000000 in
theorem sequal_any (A B : Option Addr) (n m c d : Nat) (x y : List Int) (w : World) (ha : Us w A n x) (hb : Us w B m y) (hn : n ≤ 1000000) (hm : m ≤ 1000000) :
    Calls Try.prog 50 #[.slice A n c, .slice B m d] w (BPost (.bool (decide (x = y))) w) := by
  unfold BPost
  have HL := Lib.hid ha.1
  have HL2 := Lib.hid hb.1
  have HC : Hid (n ≠ 0 → ∃ g o, A = some ⟨g, o, none⟩ ∧ g < w.heap.size ∧ ∀ w', Below w.heap.size w w' → ∀ k, k < n → w'.cell? ⟨g, o + k, none⟩ = some (.int .u64 (x.getD k 0))) := Lib.hid fun h => ha.cells (by omega)
  have HC2 : Hid (m ≠ 0 → ∃ g o, B = some ⟨g, o, none⟩ ∧ g < w.heap.size ∧ ∀ w', Below w.heap.size w w' → ∀ k, k < m → w'.cell? ⟨g, o + k, none⟩ = some (.int .u64 (y.getD k 0))) := Lib.hid fun h => hb.cells (by omega)
  have HYES := Lib.hid (lq_yes (d := (0 : Int)) (x := x) (y := y))
  have HLEN := Lib.hid (lq_len (x := x) (y := y))
  have HNO := Lib.hid (fun i => lq_at (d := (0 : Int)) (x := x) (y := y) i)
  generalize decide (x = y) = r at *
  clear ha hb
  by_cases hnm : n = m
  case neg =>
    have hb2 : ((n : Int) != (m : Int)) = true := by simp; omega
    have HR := Lib.hid (HLEN.out (by rw [HL.out, HL2.out]; exact hnm))
    go_enter Try.func50, Try.ntmps50
    go_wp2
    go_ret
    exact ⟨by rw [HR.out]; rfl, Below.refl _ _⟩
  subst hnm
  have hb2 : ((n : Int) != (n : Int)) = false := by simp
  go_enter Try.func50, Try.ntmps50
  go_wp2
  go_loopw [13] (fun i wr => ∃ k : Nat, k ≤ n ∧ i = .int .i64 k ∧ Hid (∀ j, j < k → x.getD j 0 = y.getD j 0) ∧ Below w.heap.size w wr) (fun i _ => n - (intOf i).toNat)
  case atStart => exact ⟨0, by omega, rfl, Lib.hid (by intro j hj; omega), Below.refl _ _⟩
  case round =>
    obtain ⟨k, hk, rfl, hj, hb⟩ := hrel
    by_cases hlt : k < n
    · obtain ⟨g, o, rfl, hg, hc⟩ := HC.out (by omega)
      obtain ⟨g', o', rfl, hg', hc'⟩ := HC2.out (by omega)
      have c0 := hc wr hb k hlt
      have c1 := hc' wr hb k hlt
      obtain ⟨u, hu⟩ : ∃ u, u = x.getD k 0 := ⟨_, rfl⟩
      obtain ⟨v, hv⟩ : ∃ v, v = y.getD k 0 := ⟨_, rfl⟩
      rw [← hu] at c0
      rw [← hv] at c1
      have HU := Lib.hid hu
      have HV := Lib.hid hv
      have e2 : (k : Int) < n := by omega
      have e3 : IntKind.i64.wrap ((k : Int) + 1) = ((k + 1 : Nat) : Int) := IntWalk.i64_in _ (by omega)
      clear hc hc' hu hv
      by_cases he : u = v
      · have hb3 : (u != v) = false := by simpa using he
        have HE := Lib.hid he
        clear he
        go_wp2
        go_quiet (fail)
        go_wp2
        go_roundw
        case rel => exact ⟨k + 1, by omega, by go_num, Lib.hid (fun j hjk => by
          rcases Nat.lt_or_ge j k with h | h
          · exact hj.out j h
          · obtain rfl : j = k := by omega
            rw [← HU.out, ← HV.out]; exact HE.out), below_drewN hb _⟩
        case measure => simp [intOf]; omega
      · have hb3 : (u != v) = true := by simpa using he
        have HR := Lib.hid (HNO.out k (by rw [← HU.out, ← HV.out]; exact he))
        clear he
        go_wp2
        go_quiet (fail)
        go_wp2
        go_ret
        exact ⟨by rw [HR.out]; rfl, below_drewN hb _⟩
    · obtain rfl : k = n := by omega
      go_wp2
      go_ret
      exact ⟨by rw [HYES.out (by rw [HL.out, HL2.out]) (fun i hi => hj.out i (by rw [HL.out] at hi; exact hi))]; rfl, hb⟩
set_option maxHeartbeats 2000000 in
theorem rsame5_gen (A B : Option Addr) (n m c d : Nat) (x y : List Int) (w : World) (ha : Us w A n x) (hb : Us w B m y) (hn : n ≤ 1000000) (hm : m ≤ 1000000) :
    Calls Try.prog 13 #[.slice A n c, .slice B m d] w (BPost (.bool (decide (x = y))) w) := by
  unfold BPost
  have HL := Lib.hid ha.1
  have HL2 := Lib.hid hb.1
  have HC : Hid (n ≠ 0 → ∃ g o, A = some ⟨g, o, none⟩ ∧ g < w.heap.size ∧ ∀ w', Below w.heap.size w w' → ∀ k, k < n → w'.cell? ⟨g, o + k, none⟩ = some (.int .u64 (x.getD k 0))) := Lib.hid fun h => ha.cells (by omega)
  have HC2 : Hid (m ≠ 0 → ∃ g o, B = some ⟨g, o, none⟩ ∧ g < w.heap.size ∧ ∀ w', Below w.heap.size w w' → ∀ k, k < m → w'.cell? ⟨g, o + k, none⟩ = some (.int .u64 (y.getD k 0))) := Lib.hid fun h => hb.cells (by omega)
  have HYES := Lib.hid (lq_yes (d := (0 : Int)) (x := x) (y := y))
  have HLEN := Lib.hid (lq_len (x := x) (y := y))
  have HNO := Lib.hid (fun i => lq_at (d := (0 : Int)) (x := x) (y := y) i)
  generalize decide (x = y) = r at *
  clear ha hb
  by_cases hnm : n = m
  case neg =>
    have hb2 : ((n : Int) != (m : Int)) = true := by simp; omega
    have HR := Lib.hid (HLEN.out (by rw [HL.out, HL2.out]; exact hnm))
    go_enter Try.func13, Try.ntmps13
    go_wp2
    go_ret
    exact ⟨by rw [HR.out]; rfl, Below.refl _ _⟩
  subst hnm
  have hb2 : ((n : Int) != (n : Int)) = false := by simp
  go_enter Try.func13, Try.ntmps13
  go_wp2
  go_loopw [5] (fun i wr => ∃ k : Nat, k ≤ n ∧ i = .int .i64 k ∧ Hid (∀ j, j < k → x.getD j 0 = y.getD j 0) ∧ Below w.heap.size w wr) (fun i _ => n - (intOf i).toNat)
  case atStart => exact ⟨0, by omega, rfl, Lib.hid (by intro j hj; omega), Below.refl _ _⟩
  case round =>
    obtain ⟨k, hk, rfl, hj, hb⟩ := hrel
    by_cases hlt : k < n
    · obtain ⟨g, o, rfl, hg, hc⟩ := HC.out (by omega)
      obtain ⟨g', o', rfl, hg', hc'⟩ := HC2.out (by omega)
      have c0 := hc wr hb k hlt
      have c1 := hc' wr hb k hlt
      obtain ⟨u, hu⟩ : ∃ u, u = x.getD k 0 := ⟨_, rfl⟩
      obtain ⟨v, hv⟩ : ∃ v, v = y.getD k 0 := ⟨_, rfl⟩
      rw [← hu] at c0
      rw [← hv] at c1
      have HU := Lib.hid hu
      have HV := Lib.hid hv
      have e2 : (k : Int) < n := by omega
      have e3 : IntKind.i64.wrap ((k : Int) + 1) = ((k + 1 : Nat) : Int) := IntWalk.i64_in _ (by omega)
      clear hc hc' hu hv
      by_cases he : u = v
      · have hb3 : (u != v) = false := by simpa using he
        have HE := Lib.hid he
        clear he
        go_wp2
        go_quiet (fail)
        go_wp2
        go_roundw
        case rel => exact ⟨k + 1, by omega, by go_num, Lib.hid (fun j hjk => by
          rcases Nat.lt_or_ge j k with h | h
          · exact hj.out j h
          · obtain rfl : j = k := by omega
            rw [← HU.out, ← HV.out]; exact HE.out), below_drewN hb _⟩
        case measure => simp [intOf]; omega
      · have hb3 : (u != v) = true := by simpa using he
        have HR := Lib.hid (HNO.out k (by rw [← HU.out, ← HV.out]; exact he))
        clear he
        go_wp2
        go_quiet (fail)
        go_wp2
        go_ret
        exact ⟨by rw [HR.out]; rfl, below_drewN hb _⟩
    · obtain rfl : k = n := by omega
      go_wp2
      go_ret
      exact ⟨by rw [HYES.out (by rw [HL.out, HL2.out]) (fun i hi => hj.out i (by rw [HL.out] at hi; exact hi))]; rfl, hb⟩


end Go.Proofs.Ytgdcbfekekefiaa.Cur

namespace Go.Proofs.Ytgdcbfekekefiaa.Cur
open Go.RowKit Mem
set_option linter.unusedVariables false
set_option maxRecDepth 100000



theorem stp_dec (f t : Int) (S : List (List Int)) (f2 t2 : Int) (T : List (List Int)) : decide ((f, t, S) = (f2, t2, T)) = (decide (f = f2) && decide (t = t2) && decide (S = T)) := by
  simp only [Prod.mk.injEq, Bool.decide_and, Bool.and_assoc]
end Go.Proofs.Ytgdcbfekekefiaa.Cur

namespace Go.Proofs.Ytgdcbfekekefiaa.Cur
open Go.RowKit Mem
set_option linter.unusedVariables false
set_option maxRecDepth 100000


theorem own_empty (w : World) (e size : Nat) : (w.alloc (.cells #[] e)).ownsRow w.heap.size e size (.slice (some ⟨w.heap.size, 0, none⟩) 0 0) 0 [] :=
  ⟨by simp, .inr ⟨w.heap.size, 0, #[], rfl, Nat.le_refl _, Blk.new w #[] e, Nat.le_refl _, by simp only [maxLen]; omega, by simp, by simp⟩⟩
def RawPost (e : TypeId) (n : Nat) (xs : List Value) (w : World) (en : Ending) (w' : World) : Prop := ∃ v, en = .returned v ∧ w'.ownsRow w.heap.size e 1 v n xs ∧ Below w.heap.size w w'
theorem kindU2 : Kind 34 22 (.int .u64 0) 1 8 := ⟨Try.underlying34, by kernel_rfl, rfl, by decide⟩
set_option maxHeartbeats 1000000 in
theorem cloneu_any (A : Option Addr) (n c : Nat) (xs : List Value) (w : World) (hl : xs.length = n) (hr : Rw w A xs) (h1 : ∀ u ∈ xs, u.oneCell' = true) (hnil : A = none → c = 0) (hn : n ≤ 1000000) :
    Calls Try.prog 88 #[.slice A n c] w (RawPost 22 n xs w) := by
  have q0 : ∀ (w : World) (a : Option Addr) (n c : Nat), (binOp .eql 34 (.slice a n c) (.slice none 0 0)).run Try.prog w = .ok (.bool a.isNone) w := fun w a n c => Lib.run_eql_slice_nil w _ _ a n c 0 0 Try.underlying34
  have hown0 := own_empty w 22 1
  have hge := own_ge hown0
  have hbA := below_one w (.cells #[] 22)
  have hrA := hr.below hbA
  rcases A with _ | ad
  · have hn0 : n = 0 := by
      rcases Nat.eq_zero_or_pos n with h0 | h0
      · exact h0
      · obtain ⟨_, _, e, _⟩ := hr (by rw [hl]; exact h0)
        cases e
    subst hn0
    have hxs : xs = [] := List.eq_nil_of_length_eq_zero hl
    subst hxs
    go_enter Try.func88, Try.ntmps88
    go_wp2
    go_ret
    exact ⟨_, rfl, World.ownsRow_nil w _ _ _, Below.refl _ _⟩
  · have HB : Hid (w.heap.size ≤ (w.alloc (.cells #[] 22)).heap.size) := Lib.hid hbA.size
    go_enter Try.func88, Try.ntmps88
    go_wp2_with (at_builtin; go_must (refine list_append_rw kindU2 rfl (.tmp 5) (.tmp 6) rfl w.heap.size _ 0 [] rfl hown0 _ n c xs rfl (by rw [hl, Nat.mul_one]) hrA (by simp) h1 (by rw [Nat.zero_add]; exact hn) (by omega) HB.out ?_; intro v' w' ho' hg' hgr'; have H1 : Hid (w'.ownsRow w.heap.size 22 1 v' n xs) := Lib.hid (by rw [Nat.zero_add, List.nil_append] at ho'; exact ho'); have H2 : Hid (Below w.heap.size w w') := Lib.hid (hbA.grown hg' HB.out (fun k e => hge k e)); clear ho' hg' hgr' hrA hown0 hbA))
    go_ret
    exact ⟨_, rfl, H1.out, H2.out⟩

/-- The first k of n cells stand for copies, the others are as they were. -/
def CpS (w : World) (B g n k : Nat) (S : List (List Int)) (old : List Value) (cur : Array Value) : Prop :=
  Blk w g cur 34 ∧ n ≤ cur.size ∧ (∀ i, i < k → ∃ v, cur[i]? = some v ∧ (SlE U64E).R w (fun b => B ≤ b ∧ b ≠ g) [v] (S.getD i [])) ∧ ∀ i v, k ≤ i → old[i]? = some v → cur[i]? = some v
theorem CpS.below {w w' : World} {B g n k : Nat} {S : List (List Int)} {old : List Value} {cur : Array Value} (h : CpS w B g n k S old cur) (hb : Below w.heap.size w w') : CpS w' B g n k S old cur := by
  obtain ⟨h1, h2, h3, h4⟩ := h
  refine ⟨h1.below hb, h2, fun i hi => ?_, h4⟩
  obtain ⟨v, hv, hR⟩ := h3 i hi
  exact ⟨v, hv, (SlE U64E).keep hR fun b _ hl => hb.block b hl⟩
theorem CpS.ks {S0 : Nat → Prop} {w w' : World} {B g n k : Nat} {S : List (List Int)} {old : List Value} {cur : Array Value} (h : CpS w B g n k S old cur) (hk : Ks S0 w w') (h0 : ∀ b, S0 b → b < B) (hg : B ≤ g) : CpS w' B g n k S old cur := by
  obtain ⟨h1, h2, h3, h4⟩ := h
  refine ⟨h1.ks hk (fun hs => by have := h0 g hs; omega), h2, fun i hi => ?_, h4⟩
  obtain ⟨v, hv, hR⟩ := h3 i hi
  exact ⟨v, hv, (SlE U64E).keep hR fun b hb hl => hk.block b hl fun hs => by have := h0 b hs; omega⟩
/-- One more is copied. -/
theorem CpS.next {w : World} {B g n k : Nat} {S : List (List Int)} {old : List Value} {cur : Array Value} {v : Value} (h : CpS w B g n k S old cur) (hk : k < n) (hv : (SlE U64E).R w (fun b => B ≤ b ∧ b ≠ g) [v] (S.getD k [])) :
    CpS (w.setCell ⟨g, k, none⟩ v) B g n (k + 1) S old (cur.set! k v) := by
  obtain ⟨h1, h2, h3, h4⟩ := h
  have hkp := Kp.setCell w g k v
  refine ⟨h1.set k v, by simpa using h2, fun i hi => ?_, fun i u hi hu => ?_⟩
  · rcases Nat.lt_or_ge i k with h5 | h5
    · obtain ⟨u, hu, hR⟩ := h3 i h5
      exact ⟨u, by rw [Array.set!_eq_setIfInBounds, Array.getElem?_setIfInBounds, if_neg (by omega)]; exact hu, (SlE U64E).keep hR fun b hb hl => hkp.block b hl hb.2⟩
    · obtain rfl : i = k := by omega
      exact ⟨v, by rw [Array.set!_eq_setIfInBounds, Array.getElem?_setIfInBounds, if_pos rfl, if_pos (by omega)], (SlE U64E).keep hv fun b hb hl => hkp.block b hl hb.2⟩
  · rw [Array.set!_eq_setIfInBounds, Array.getElem?_setIfInBounds, if_neg (by omega)]
    exact h4 i u (by omega) hu
/-- Whatever cells stand for the sets. -/
theorem sts_of_cells {w : World} {P : Nat → Prop} {g n : Nat} {S : List (List Int)} (hl : S.length = n) (hg : P g) (h : ∀ i, i < n → ∃ v, w.cell? ⟨g, i, none⟩ = some v ∧ (SlE U64E).R w P [v] (S.getD i [])) : Sts w P (some ⟨g, 0, none⟩) n S := by
  obtain ⟨cs, xs, l1, l2, hp⟩ := pick_n (p := fun i c x => x = S.getD i [] ∧ ∃ v, c = [v] ∧ w.cell? ⟨g, i, none⟩ = some v ∧ (SlE U64E).R w P [v] (S.getD i [])) n fun i hi => by
    obtain ⟨v, h1, h2⟩ := h i hi
    exact ⟨[v], _, rfl, v, rfl, h1, h2⟩
  have hxs : xs = S := by
    apply List.ext_getElem (by omega)
    intro i h1 h2
    have := (hp i (cs[i]'(by omega)) xs[i] (List.getElem?_eq_getElem _) (List.getElem?_eq_getElem _)).1
    rw [this, List.getD_eq_getElem?_getD, List.getElem?_eq_getElem h2]; rfl
  subst hxs
  refine ⟨hl, cs, Ch.of (by omega) fun i c x hc hx => ?_, fun hpos => ⟨g, 0, rfl, hg, fun i v hv => ?_⟩⟩
  · obtain ⟨e, v, rfl, _, hR⟩ := hp i c x hc hx
    rw [e]; exact hR
  · have hlen : ∀ c ∈ cs, c.length = 1 := fun c hcm => by
      obtain ⟨i, hi, e⟩ := List.mem_iff_getElem.1 hcm
      obtain ⟨_, v, e2, _⟩ := hp i c _ (by rw [List.getElem?_eq_getElem hi, e]) (List.getElem?_eq_getElem (by omega))
      rw [e2]; rfl
    obtain ⟨i', j, c, e, hj, hci, hcv⟩ := flat_at hlen i v hv
    have hi' := (List.getElem?_eq_some_iff.1 hci).1
    obtain ⟨_, u, rfl, hu, _⟩ := hp i' c _ hci (List.getElem?_eq_getElem (by omega))
    obtain rfl : j = 0 := by omega
    simp at hcv
    subst hcv
    rw [Nat.zero_add, show i = i' by omega]
    exact hu
theorem CpS.sts {w : World} {B g n : Nat} {S : List (List Int)} {old : List Value} {cur : Array Value} (h : CpS w B g n n S old cur) (hg : B ≤ g) (hl : S.length = n) : Sts w (fun b => B ≤ b) (some ⟨g, 0, none⟩) n S := by
  obtain ⟨h1, h2, h3, h4⟩ := h
  refine sts_of_cells hl hg fun i hi => ?_
  obtain ⟨v, hv, hR⟩ := h3 i hi
  exact ⟨v, h1.cell i hv, (SlE U64E).mono hR fun b hb _ => hb.1⟩

def CpPost (f t : Int) (n : Nat) (S : List (List Int)) (w : World) (e : Ending) (w' : World) : Prop :=
  ∃ (A : Option Addr) (m : Nat), e = .returned (stagg f t A n m) ∧ Below w.heap.size w w' ∧ Sts w' (fun k => w.heap.size ≤ k) A n S ∧ n ≤ m ∧ (A = none → m = 0)

theorem Sq.raw {α : Type} {E : El α} {w : World} {P : Nat → Prop} {A : Option Addr} {S : List α} (h : Sq E w P A S) : ∃ cs, Ch E w P cs S ∧ cs.flatten.length = S.length * E.k ∧ Rw w A cs.flatten ∧ (∀ u ∈ cs.flatten, u.oneCell' = true) := by
  obtain ⟨cs, h1, h2⟩ := h
  exact ⟨cs, h1, h1.flat, h2.rw, h1.ones⟩
end Go.Proofs.Ytgdcbfekekefiaa.Cur

namespace Go.Proofs.Ytgdcbfekekefiaa.Cur
open Go.RowKit Mem
set_option linter.unusedVariables false
set_option maxRecDepth 100000


/-- What Dealt tells. -/
def dlv (s : Stp) (p : Int) : Value := if stok s = true ∧ s.1 ≤ p ∧ p < s.2.1 then .tuple #[.int .i64 ((p - s.1) % s.2.2.length), .int .u64 ((p - s.1) / s.2.2.length), .bool true] else .tuple #[.int .i64 0, .int .u64 0, .bool false]
theorem dlv_no {s : Stp} {p : Int} (h : ¬ (stok s = true ∧ s.1 ≤ p ∧ p < s.2.1)) : dlv s p = .tuple #[.int .i64 0, .int .u64 0, .bool false] := if_neg h
theorem dlv_yes {s : Stp} {p : Int} (h : stok s = true ∧ s.1 ≤ p ∧ p < s.2.1) : dlv s p = .tuple #[.int .i64 ((p - s.1) % s.2.2.length), .int .u64 ((p - s.1) / s.2.2.length), .bool true] := if_pos h

/-- What Share tells. -/
def shv (s : Stp) (x : Int) : Int := if stok s = true ∧ 0 ≤ x ∧ x < s.2.2.length then (shr (s.2.1 - s.1).toNat s.2.2.length x.toNat : Nat) else 0
theorem shv_no {s : Stp} {x : Int} (h : ¬ (stok s = true ∧ 0 ≤ x ∧ x < s.2.2.length)) : shv s x = 0 := if_neg h
theorem shv_yes {s : Stp} {x : Int} (h : stok s = true ∧ 0 ≤ x ∧ x < s.2.2.length) : shv s x = (shr (s.2.1 - s.1).toNat s.2.2.length x.toNat : Nat) := if_pos h
theorem shr_int {d x : Int} {n : Nat} (hd : 0 ≤ d) (hx : 0 ≤ x) (hxn : x < n) : ((shr d.toNat n x.toNat : Nat) : Int) = d / n + (if x < d % n then 1 else 0) := by
  obtain ⟨a, rfl⟩ := Int.eq_ofNat_of_zero_le hd
  obtain ⟨b, rfl⟩ := Int.eq_ofNat_of_zero_le hx
  rw [Int.toNat_natCast, Int.toNat_natCast, ← shr_div (by omega)]
  by_cases h : b < a % n
  · rw [if_pos h, if_pos (by omega)]; push_cast; rfl
  · rw [if_neg h, if_neg (by omega)]; push_cast; rfl

/-- What Back tells. -/
def bkv (s : Stp) (x l : Int) : Value := if l < shv s x then .tuple #[.int .u64 (s.1 + l * s.2.2.length + x), .bool true] else .tuple #[.int .u64 0, .bool false]
theorem shv_pos {s : Stp} {x l : Int} (h : l < shv s x) (hl : 0 ≤ l) : stok s = true ∧ 0 ≤ x ∧ x < s.2.2.length ∧ l * s.2.2.length + x < s.2.1 - s.1 := by
  by_cases hc : stok s = true ∧ 0 ≤ x ∧ x < s.2.2.length
  · obtain ⟨h1, h2, h3⟩ := hc
    rw [shv_yes ⟨h1, h2, h3⟩] at h
    obtain ⟨a, rfl⟩ := Int.eq_ofNat_of_zero_le hl
    obtain ⟨b, rfl⟩ := Int.eq_ofNat_of_zero_le h2
    have := (shr_iff (n := (s.2.1 - s.1).toNat) (m := s.2.2.length) (s := ((b : Int)).toNat) (l := a) (by omega)).1 (by omega)
    refine ⟨h1, h2, h3, ?_⟩
    have e : ((a * s.2.2.length : Nat) : Int) = (a : Int) * s.2.2.length := by push_cast; rfl
    omega
  · rw [shv_no hc] at h; omega
end Go.Proofs.Ytgdcbfekekefiaa.Cur

namespace Go.Proofs.Ytgdcbfekekefiaa.Cur
open Go.RowKit Mem Go.ChangeShapes Go.WideShapes
set_option linter.unusedVariables false
set_option maxRecDepth 100000


theorem Sts.bds {w : World} {P : Nat → Prop} {A : Option Addr} {n : Nat} {S : List (List Int)} (h : Sts w P A n S) : sbds S := by
  intro l hl x hx
  obtain ⟨k, hk, e⟩ := List.mem_iff_getElem.1 hl
  obtain ⟨cs, h1, _⟩ := h.2
  obtain ⟨c, ⟨a, m, _, _, _, hsq⟩, _⟩ := h1.at_ k l (by rw [List.getElem?_eq_getElem hk, e])
  exact hsq.us.2 x hx
/-- What a stripe's cells are. -/
theorem stripe_parts {w : World} {P : Nat → Prop} {c : List Value} {s : Stp} (h : (PrE U64E (PrE U64E (SlE (SlE U64E)))).R w P c s) :
    ∃ A m, c = [.int .u64 s.1, .int .u64 s.2.1, .slice A s.2.2.length m] ∧ (0 ≤ s.1 ∧ s.1 < 18446744073709551616) ∧ (0 ≤ s.2.1 ∧ s.2.1 < 18446744073709551616) ∧ s.2.2.length ≤ m ∧ (A = none → m = 0) ∧ Sts w P A s.2.2.length s.2.2 := by
  obtain ⟨d, e, rfl, ⟨rfl, b0⟩, d2, e2, rfl, ⟨rfl, b1⟩, A, m, rfl, h1, h2, h3⟩ := h
  exact ⟨A, m, rfl, b0, b1, h1, h2, rfl, h3⟩
section
variable {H : Type} {enc : TypeId × Value → H} {w : World} {base : Nat} {v : Value} {d : DataW H} {p : List MemPlace}
end

def LgPost (n : Nat) (S : List (List Int)) (w : World) (e : Ending) (w' : World) : Prop := ∃ b, e = .returned (.bool b) ∧ Below w.heap.size w w' ∧ (b = false → n ≤ 20 ∧ ∀ l ∈ S, l.length ≤ 20)
end Go.Proofs.Ytgdcbfekekefiaa.Cur

namespace Go.Proofs.Ytgdcbfekekefiaa.Cur
open Go.RowKit Mem
set_option linter.unusedVariables false
set_option maxRecDepth 100000

theorem bk_deal {s : Stp} {p : Int} (hok : stok s = true) (h0 : s.1 ≤ p) (h1 : p < s.2.1) : bkv s ((p - s.1) % s.2.2.length) ((p - s.1) / s.2.2.length) = .tuple #[.int .u64 p, .bool true] := by
  obtain ⟨k1, k2, k3, k4, _⟩ := stok_parts hok
  obtain ⟨a, ha⟩ := Int.eq_ofNat_of_zero_le (show 0 ≤ p - s.1 by omega)
  have e1 : (p - s.1) % (s.2.2.length : Int) = ((a % s.2.2.length : Nat) : Int) := by rw [ha]; rfl
  have e2 : (p - s.1) / (s.2.2.length : Int) = ((a / s.2.2.length : Nat) : Int) := by rw [ha]; rfl
  have hlt := Nat.mod_lt a (show 0 < s.2.2.length by omega)
  unfold bkv
  rw [e1, e2, shv_yes ⟨hok, by omega, by omega⟩, Int.toNat_natCast]
  have := (deal_in (n := (s.2.1 - s.1).toNat) (m := s.2.2.length) (x := a) (by omega)).1 (by omega)
  rw [if_pos (by omega)]
  have h2 := deal_back (m := s.2.2.length) (x := a)
  have h3 : ((a / s.2.2.length : Nat) : Int) * (s.2.2.length : Int) + ((a % s.2.2.length : Nat) : Int) = (a : Int) := by rw [← Int.natCast_mul, ← Int.natCast_add, h2]
  rw [show s.1 + ((a / s.2.2.length : Nat) : Int) * (s.2.2.length : Int) + ((a % s.2.2.length : Nat) : Int) = p by omega]
theorem deal_bk {s : Stp} {p x : Int} (h : p < shv s x) (hp : 0 ≤ p) : dlv s (s.1 + p * s.2.2.length + x) = .tuple #[.int .i64 x, .int .u64 p, .bool true] := by
  obtain ⟨hok, h0, h1, h2⟩ := shv_pos h hp
  obtain ⟨a, rfl⟩ := Int.eq_ofNat_of_zero_le hp
  obtain ⟨b, rfl⟩ := Int.eq_ofNat_of_zero_le h0
  have hm : 0 ≤ (a : Int) * (s.2.2.length : Int) := Int.mul_nonneg (by omega) (by omega)
  rw [dlv_yes ⟨hok, by omega, by omega⟩]
  have e : s.1 + (a : Int) * s.2.2.length + b - s.1 = ((a * s.2.2.length + b : Nat) : Int) := by push_cast; omega
  obtain ⟨q1, q2⟩ := back_deal (m := s.2.2.length) (s := b) (l := a) (by omega)
  rw [e, ← Int.natCast_emod, ← Int.natCast_ediv, q1, q2]
theorem bkv_yes {s : Stp} {x l : Int} (h : l < shv s x) : bkv s x l = .tuple #[.int .u64 (s.1 + l * s.2.2.length + x), .bool true] := if_pos h
theorem bkv_no {s : Stp} {x l : Int} (h : ¬ l < shv s x) : bkv s x l = .tuple #[.int .u64 0, .bool false] := if_neg h
theorem shv_bad {s : Stp} {x : Int} (h : stok s = false) : shv s x = 0 := shv_no fun hh => by rw [h] at hh; cases hh.1
theorem shv_bd (s : Stp) (x : Int) (h0 : 0 ≤ s.1) (h1 : s.2.1 < 18446744073709551616) : 0 ≤ shv s x ∧ shv s x < 18446744073709551616 := by
  unfold shv
  split
  · rename_i h
    obtain ⟨k1, k2, k3, k4, _⟩ := stok_parts h.1
    have := shr_le (n := (s.2.1 - s.1).toNat) (m := s.2.2.length) (s := x.toNat) (by omega)
    omega
  · omega

end Go.Proofs.Ytgdcbfekekefiaa.Cur
