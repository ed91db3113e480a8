/- K25: StpO StpP StpQ StpT StpU StpV -/
import Derived.Test.YtmcabaebdloakaaK23
import Derived.Deep.QuietTactic
import Derived.BigQuiet
import Derived.Test.YtmcabaebdloakaaK24
import Derived.Test.YtmcabaebdloakaaK1
import Derived.Lib.SliceRun
/- Stripes: two are the same, by the program and by the document. -/
/- Stripes: whole ones are the same; rows cloned. -/
/- Stripes copied. -/
/- Stripes: positions dealt, and back. -/
/- Stripes: a law's arguments; the document's example; are sets more than are gone through. -/
/- Stripes: what is dealt comes back. -/
namespace Go.Proofs.Ytmcabaebdloakaa.Cur
open Go.RowKit Mem
set_option linter.unusedVariables false
set_option maxRecDepth 100000


theorem lq_yes {α : Type} [DecidableEq α] {d : α} {x y : List α} (hl : x.length = y.length) (h : ∀ i, i < x.length → x.getD i d = y.getD i d) : decide (x = y) = true := by
  rw [decide_eq_true_eq]
  apply List.ext_getElem hl
  intro i h1 h2
  have := h i h1
  rw [List.getD_eq_getElem?_getD, List.getD_eq_getElem?_getD, List.getElem?_eq_getElem h1, List.getElem?_eq_getElem h2] at this
  exact this
theorem lq_len {α : Type} [DecidableEq α] {x y : List α} (hl : x.length ≠ y.length) : decide (x = y) = false := decide_eq_false fun e => hl (by rw [e])
theorem lq_at {α : Type} [DecidableEq α] {d : α} {x y : List α} (i : Nat) (h : x.getD i d ≠ y.getD i d) : decide (x = y) = false := decide_eq_false fun e => h (by rw [e])

set_option maxHeartbeats 2000000 in
theorem sequal_any (A B : Option Addr) (n m c d : Nat) (x y : List Int) (w : World) (ha : Us w A n x) (hb : Us w B m y) (hn : n ≤ 1000000) (hm : m ≤ 1000000) :
    Calls Try.prog 39 #[.slice A n c, .slice B m d] w (BPost (.bool (decide (x = y))) w) := by
  unfold BPost
  have HL := Lib.hid ha.1
  have HL2 := Lib.hid hb.1
  have HC : Hid (n ≠ 0 → ∃ g o, A = some ⟨g, o, none⟩ ∧ g < w.heap.size ∧ ∀ w', Below w.heap.size w w' → ∀ k, k < n → w'.cell? ⟨g, o + k, none⟩ = some (.int .u64 (x.getD k 0))) := Lib.hid fun h => ha.cells (by omega)
  have HC2 : Hid (m ≠ 0 → ∃ g o, B = some ⟨g, o, none⟩ ∧ g < w.heap.size ∧ ∀ w', Below w.heap.size w w' → ∀ k, k < m → w'.cell? ⟨g, o + k, none⟩ = some (.int .u64 (y.getD k 0))) := Lib.hid fun h => hb.cells (by omega)
  have HYES := Lib.hid (lq_yes (d := (0 : Int)) (x := x) (y := y))
  have HLEN := Lib.hid (lq_len (x := x) (y := y))
  have HNO := Lib.hid (fun i => lq_at (d := (0 : Int)) (x := x) (y := y) i)
  generalize decide (x = y) = r at *
  clear ha hb
  by_cases hnm : n = m
  case neg =>
    have hb2 : ((n : Int) != (m : Int)) = true := by simp; omega
    have HR := Lib.hid (HLEN.out (by rw [HL.out, HL2.out]; exact hnm))
    go_enter Try.func39, Try.ntmps39
    go_wp2
    go_ret
    exact ⟨by rw [HR.out]; rfl, Below.refl _ _⟩
  subst hnm
  have hb2 : ((n : Int) != (n : Int)) = false := by simp
  go_enter Try.func39, Try.ntmps39
  go_wp2
  go_loopw [13] (fun i wr => ∃ k : Nat, k ≤ n ∧ i = .int .i64 k ∧ Hid (∀ j, j < k → x.getD j 0 = y.getD j 0) ∧ Below w.heap.size w wr) (fun i _ => n - (intOf i).toNat)
  case atStart => exact ⟨0, by omega, rfl, Lib.hid (by intro j hj; omega), Below.refl _ _⟩
  case round =>
    obtain ⟨k, hk, rfl, hj, hb⟩ := hrel
    by_cases hlt : k < n
    · obtain ⟨g, o, rfl, hg, hc⟩ := HC.out (by omega)
      obtain ⟨g', o', rfl, hg', hc'⟩ := HC2.out (by omega)
      have c0 := hc wr hb k hlt
      have c1 := hc' wr hb k hlt
      obtain ⟨u, hu⟩ : ∃ u, u = x.getD k 0 := ⟨_, rfl⟩
      obtain ⟨v, hv⟩ : ∃ v, v = y.getD k 0 := ⟨_, rfl⟩
      rw [← hu] at c0
      rw [← hv] at c1
      have HU := Lib.hid hu
      have HV := Lib.hid hv
      have e2 : (k : Int) < n := by omega
      have e3 : IntKind.i64.wrap ((k : Int) + 1) = ((k + 1 : Nat) : Int) := IntWalk.i64_in _ (by omega)
      clear hc hc' hu hv
      by_cases he : u = v
      · have hb3 : (u != v) = false := by simpa using he
        have HE := Lib.hid he
        clear he
        go_wp2
        go_quiet (fail)
        go_wp2
        go_roundw
        case rel => exact ⟨k + 1, by omega, by go_num, Lib.hid (fun j hjk => by
          rcases Nat.lt_or_ge j k with h | h
          · exact hj.out j h
          · obtain rfl : j = k := by omega
            rw [← HU.out, ← HV.out]; exact HE.out), below_drewN hb _⟩
        case measure => simp [intOf]; omega
      · have hb3 : (u != v) = true := by simpa using he
        have HR := Lib.hid (HNO.out k (by rw [← HU.out, ← HV.out]; exact he))
        clear he
        go_wp2
        go_quiet (fail)
        go_wp2
        go_ret
        exact ⟨by rw [HR.out]; rfl, below_drewN hb _⟩
    · obtain rfl : k = n := by omega
      go_wp2
      go_ret
      exact ⟨by rw [HYES.out (by rw [HL.out, HL2.out]) (fun i hi => hj.out i (by rw [HL.out] at hi; exact hi))]; rfl, hb⟩
set_option maxHeartbeats 2000000 in
theorem rsame5_gen (A B : Option Addr) (n m c d : Nat) (x y : List Int) (w : World) (ha : Us w A n x) (hb : Us w B m y) (hn : n ≤ 1000000) (hm : m ≤ 1000000) :
    Calls Try.prog 14 #[.slice A n c, .slice B m d] w (BPost (.bool (decide (x = y))) w) := by
  unfold BPost
  have HL := Lib.hid ha.1
  have HL2 := Lib.hid hb.1
  have HC : Hid (n ≠ 0 → ∃ g o, A = some ⟨g, o, none⟩ ∧ g < w.heap.size ∧ ∀ w', Below w.heap.size w w' → ∀ k, k < n → w'.cell? ⟨g, o + k, none⟩ = some (.int .u64 (x.getD k 0))) := Lib.hid fun h => ha.cells (by omega)
  have HC2 : Hid (m ≠ 0 → ∃ g o, B = some ⟨g, o, none⟩ ∧ g < w.heap.size ∧ ∀ w', Below w.heap.size w w' → ∀ k, k < m → w'.cell? ⟨g, o + k, none⟩ = some (.int .u64 (y.getD k 0))) := Lib.hid fun h => hb.cells (by omega)
  have HYES := Lib.hid (lq_yes (d := (0 : Int)) (x := x) (y := y))
  have HLEN := Lib.hid (lq_len (x := x) (y := y))
  have HNO := Lib.hid (fun i => lq_at (d := (0 : Int)) (x := x) (y := y) i)
  generalize decide (x = y) = r at *
  clear ha hb
  by_cases hnm : n = m
  case neg =>
    have hb2 : ((n : Int) != (m : Int)) = true := by simp; omega
    have HR := Lib.hid (HLEN.out (by rw [HL.out, HL2.out]; exact hnm))
    go_enter Try.func14, Try.ntmps14
    go_wp2
    go_ret
    exact ⟨by rw [HR.out]; rfl, Below.refl _ _⟩
  subst hnm
  have hb2 : ((n : Int) != (n : Int)) = false := by simp
  go_enter Try.func14, Try.ntmps14
  go_wp2
  go_loopw [5] (fun i wr => ∃ k : Nat, k ≤ n ∧ i = .int .i64 k ∧ Hid (∀ j, j < k → x.getD j 0 = y.getD j 0) ∧ Below w.heap.size w wr) (fun i _ => n - (intOf i).toNat)
  case atStart => exact ⟨0, by omega, rfl, Lib.hid (by intro j hj; omega), Below.refl _ _⟩
  case round =>
    obtain ⟨k, hk, rfl, hj, hb⟩ := hrel
    by_cases hlt : k < n
    · obtain ⟨g, o, rfl, hg, hc⟩ := HC.out (by omega)
      obtain ⟨g', o', rfl, hg', hc'⟩ := HC2.out (by omega)
      have c0 := hc wr hb k hlt
      have c1 := hc' wr hb k hlt
      obtain ⟨u, hu⟩ : ∃ u, u = x.getD k 0 := ⟨_, rfl⟩
      obtain ⟨v, hv⟩ : ∃ v, v = y.getD k 0 := ⟨_, rfl⟩
      rw [← hu] at c0
      rw [← hv] at c1
      have HU := Lib.hid hu
      have HV := Lib.hid hv
      have e2 : (k : Int) < n := by omega
      have e3 : IntKind.i64.wrap ((k : Int) + 1) = ((k + 1 : Nat) : Int) := IntWalk.i64_in _ (by omega)
      clear hc hc' hu hv
      by_cases he : u = v
      · have hb3 : (u != v) = false := by simpa using he
        have HE := Lib.hid he
        clear he
        go_wp2
        go_quiet (fail)
        go_wp2
        go_roundw
        case rel => exact ⟨k + 1, by omega, by go_num, Lib.hid (fun j hjk => by
          rcases Nat.lt_or_ge j k with h | h
          · exact hj.out j h
          · obtain rfl : j = k := by omega
            rw [← HU.out, ← HV.out]; exact HE.out), below_drewN hb _⟩
        case measure => simp [intOf]; omega
      · have hb3 : (u != v) = true := by simpa using he
        have HR := Lib.hid (HNO.out k (by rw [← HU.out, ← HV.out]; exact he))
        clear he
        go_wp2
        go_quiet (fail)
        go_wp2
        go_ret
        exact ⟨by rw [HR.out]; rfl, below_drewN hb _⟩
    · obtain rfl : k = n := by omega
      go_wp2
      go_ret
      exact ⟨by rw [HYES.out (by rw [HL.out, HL2.out]) (fun i hi => hj.out i (by rw [HL.out] at hi; exact hi))]; rfl, hb⟩


end Go.Proofs.Ytmcabaebdloakaa.Cur

namespace Go.Proofs.Ytmcabaebdloakaa.Cur
open Go.RowKit Mem
set_option linter.unusedVariables false
set_option maxRecDepth 100000



theorem stp_dec (f t : Int) (S : List (List Int)) (f2 t2 : Int) (T : List (List Int)) : decide ((f, t, S) = (f2, t2, T)) = (decide (f = f2) && decide (t = t2) && decide (S = T)) := by
  simp only [Prod.mk.injEq, Bool.decide_and, Bool.and_assoc]
/-- What the document's loop needs. -/
def RsS (W : Nat) (x y : Array Value) (g : Nat) (o : Nat) (v : Value) (g' : Nat) (o' : Nat) (v' : Value) (w : World) : Prop := Blk w W x 39 ∧ Blk w (W + 1) y 39 ∧ w.cell? ⟨g, o, none⟩ = some v ∧ w.cell? ⟨g', o', none⟩ = some v'
end Go.Proofs.Ytmcabaebdloakaa.Cur

namespace Go.Proofs.Ytmcabaebdloakaa.Cur
open Go.RowKit Mem
set_option linter.unusedVariables false
set_option maxRecDepth 100000


theorem own_empty (w : World) (e size : Nat) : (w.alloc (.cells #[] e)).ownsRow w.heap.size e size (.slice (some ⟨w.heap.size, 0, none⟩) 0 0) 0 [] :=
  ⟨by simp, .inr ⟨w.heap.size, 0, #[], rfl, Nat.le_refl _, Blk.new w #[] e, Nat.le_refl _, by simp only [maxLen]; omega, by simp, by simp⟩⟩
def RawPost (e : TypeId) (n : Nat) (xs : List Value) (w : World) (en : Ending) (w' : World) : Prop := ∃ v, en = .returned v ∧ w'.ownsRow w.heap.size e 1 v n xs ∧ Below w.heap.size w w'
theorem kindU2 : Kind 30 22 (.int .u64 0) 1 8 := ⟨Try.underlying30, by kernel_rfl, rfl, by decide⟩
set_option maxHeartbeats 1000000 in
theorem cloneu_any (A : Option Addr) (n c : Nat) (xs : List Value) (w : World) (hl : xs.length = n) (hr : Rw w A xs) (h1 : ∀ u ∈ xs, u.oneCell' = true) (hnil : A = none → c = 0) (hn : n ≤ 1000000) :
    Calls Try.prog 29 #[.slice A n c] w (RawPost 22 n xs w) := by
  have q0 : ∀ (w : World) (a : Option Addr) (n c : Nat), (binOp .eql 30 (.slice a n c) (.slice none 0 0)).run Try.prog w = .ok (.bool a.isNone) w := fun w a n c => Lib.run_eql_slice_nil w _ _ a n c 0 0 Try.underlying30
  have hown0 := own_empty w 22 1
  have hge := own_ge hown0
  have hbA := below_one w (.cells #[] 22)
  have hrA := hr.below hbA
  rcases A with _ | ad
  · have hn0 : n = 0 := by
      rcases Nat.eq_zero_or_pos n with h0 | h0
      · exact h0
      · obtain ⟨_, _, e, _⟩ := hr (by rw [hl]; exact h0)
        cases e
    subst hn0
    have hxs : xs = [] := List.eq_nil_of_length_eq_zero hl
    subst hxs
    go_enter Try.func29, Try.ntmps29
    go_wp2
    go_ret
    exact ⟨_, rfl, World.ownsRow_nil w _ _ _, Below.refl _ _⟩
  · have HB : Hid (w.heap.size ≤ (w.alloc (.cells #[] 22)).heap.size) := Lib.hid hbA.size
    go_enter Try.func29, Try.ntmps29
    go_wp2_with (at_builtin; go_must (refine list_append_rw kindU2 rfl (.tmp 5) (.tmp 6) rfl w.heap.size _ 0 [] rfl hown0 _ n c xs rfl (by rw [hl, Nat.mul_one]) hrA (by simp) h1 (by rw [Nat.zero_add]; exact hn) (by omega) HB.out ?_; intro v' w' ho' hg' hgr'; have H1 : Hid (w'.ownsRow w.heap.size 22 1 v' n xs) := Lib.hid (by rw [Nat.zero_add, List.nil_append] at ho'; exact ho'); have H2 : Hid (Below w.heap.size w w') := Lib.hid (hbA.grown hg' HB.out (fun k e => hge k e)); clear ho' hg' hgr' hrA hown0 hbA))
    go_ret
    exact ⟨_, rfl, H1.out, H2.out⟩

/-- The first k of n cells stand for copies, the others are as they were. -/
def CpS (w : World) (B g n k : Nat) (S : List (List Int)) (old : List Value) (cur : Array Value) : Prop :=
  Blk w g cur 30 ∧ n ≤ cur.size ∧ (∀ i, i < k → ∃ v, cur[i]? = some v ∧ (SlE U64E).R w (fun b => B ≤ b ∧ b ≠ g) [v] (S.getD i [])) ∧ ∀ i v, k ≤ i → old[i]? = some v → cur[i]? = some v
theorem CpS.below {w w' : World} {B g n k : Nat} {S : List (List Int)} {old : List Value} {cur : Array Value} (h : CpS w B g n k S old cur) (hb : Below w.heap.size w w') : CpS w' B g n k S old cur := by
  obtain ⟨h1, h2, h3, h4⟩ := h
  refine ⟨h1.below hb, h2, fun i hi => ?_, h4⟩
  obtain ⟨v, hv, hR⟩ := h3 i hi
  exact ⟨v, hv, (SlE U64E).keep hR fun b _ hl => hb.block b hl⟩
theorem CpS.ks {S0 : Nat → Prop} {w w' : World} {B g n k : Nat} {S : List (List Int)} {old : List Value} {cur : Array Value} (h : CpS w B g n k S old cur) (hk : Ks S0 w w') (h0 : ∀ b, S0 b → b < B) (hg : B ≤ g) : CpS w' B g n k S old cur := by
  obtain ⟨h1, h2, h3, h4⟩ := h
  refine ⟨h1.ks hk (fun hs => by have := h0 g hs; omega), h2, fun i hi => ?_, h4⟩
  obtain ⟨v, hv, hR⟩ := h3 i hi
  exact ⟨v, hv, (SlE U64E).keep hR fun b hb hl => hk.block b hl fun hs => by have := h0 b hs; omega⟩
/-- Whatever cells stand for the sets. -/
theorem sts_of_cells {w : World} {P : Nat → Prop} {g n : Nat} {S : List (List Int)} (hl : S.length = n) (hg : P g) (h : ∀ i, i < n → ∃ v, w.cell? ⟨g, i, none⟩ = some v ∧ (SlE U64E).R w P [v] (S.getD i [])) : Sts w P (some ⟨g, 0, none⟩) n S := by
  obtain ⟨cs, xs, l1, l2, hp⟩ := pick_n (p := fun i c x => x = S.getD i [] ∧ ∃ v, c = [v] ∧ w.cell? ⟨g, i, none⟩ = some v ∧ (SlE U64E).R w P [v] (S.getD i [])) n fun i hi => by
    obtain ⟨v, h1, h2⟩ := h i hi
    exact ⟨[v], _, rfl, v, rfl, h1, h2⟩
  have hxs : xs = S := by
    apply List.ext_getElem (by omega)
    intro i h1 h2
    have := (hp i (cs[i]'(by omega)) xs[i] (List.getElem?_eq_getElem _) (List.getElem?_eq_getElem _)).1
    rw [this, List.getD_eq_getElem?_getD, List.getElem?_eq_getElem h2]; rfl
  subst hxs
  refine ⟨hl, cs, Ch.of (by omega) fun i c x hc hx => ?_, fun hpos => ⟨g, 0, rfl, hg, fun i v hv => ?_⟩⟩
  · obtain ⟨e, v, rfl, _, hR⟩ := hp i c x hc hx
    rw [e]; exact hR
  · have hlen : ∀ c ∈ cs, c.length = 1 := fun c hcm => by
      obtain ⟨i, hi, e⟩ := List.mem_iff_getElem.1 hcm
      obtain ⟨_, v, e2, _⟩ := hp i c _ (by rw [List.getElem?_eq_getElem hi, e]) (List.getElem?_eq_getElem (by omega))
      rw [e2]; rfl
    obtain ⟨i', j, c, e, hj, hci, hcv⟩ := flat_at hlen i v hv
    have hi' := (List.getElem?_eq_some_iff.1 hci).1
    obtain ⟨_, u, rfl, hu, _⟩ := hp i' c _ hci (List.getElem?_eq_getElem (by omega))
    obtain rfl : j = 0 := by omega
    simp at hcv
    subst hcv
    rw [Nat.zero_add, show i = i' by omega]
    exact hu
theorem CpS.sts {w : World} {B g n : Nat} {S : List (List Int)} {old : List Value} {cur : Array Value} (h : CpS w B g n n S old cur) (hg : B ≤ g) (hl : S.length = n) : Sts w (fun b => B ≤ b) (some ⟨g, 0, none⟩) n S := by
  obtain ⟨h1, h2, h3, h4⟩ := h
  refine sts_of_cells hl hg fun i hi => ?_
  obtain ⟨v, hv, hR⟩ := h3 i hi
  exact ⟨v, h1.cell i hv, (SlE U64E).mono hR fun b hb _ => hb.1⟩

def CpPost (f t : Int) (n : Nat) (S : List (List Int)) (w : World) (e : Ending) (w' : World) : Prop :=
  ∃ (A : Option Addr) (m : Nat), e = .returned (stagg f t A n m) ∧ Below w.heap.size w w' ∧ Sts w' (fun k => w.heap.size ≤ k) A n S ∧ n ≤ m ∧ (A = none → m = 0)

theorem Sq.raw {α : Type} {E : El α} {w : World} {P : Nat → Prop} {A : Option Addr} {S : List α} (h : Sq E w P A S) : ∃ cs, Ch E w P cs S ∧ cs.flatten.length = S.length * E.k ∧ Rw w A cs.flatten ∧ (∀ u ∈ cs.flatten, u.oneCell' = true) := by
  obtain ⟨cs, h1, h2⟩ := h
  exact ⟨cs, h1, h1.flat, h2.rw, h1.ones⟩
end Go.Proofs.Ytmcabaebdloakaa.Cur

namespace Go.Proofs.Ytmcabaebdloakaa.Cur
open Go.RowKit Mem
set_option linter.unusedVariables false
set_option maxRecDepth 100000


/-- What Dealt tells. -/
def dlv (s : Stp) (p : Int) : Value := if stok s = true ∧ s.1 ≤ p ∧ p < s.2.1 then .tuple #[.int .i64 ((p - s.1) % s.2.2.length), .int .u64 ((p - s.1) / s.2.2.length), .bool true] else .tuple #[.int .i64 0, .int .u64 0, .bool false]
theorem dlv_no {s : Stp} {p : Int} (h : ¬ (stok s = true ∧ s.1 ≤ p ∧ p < s.2.1)) : dlv s p = .tuple #[.int .i64 0, .int .u64 0, .bool false] := if_neg h
theorem dlv_yes {s : Stp} {p : Int} (h : stok s = true ∧ s.1 ≤ p ∧ p < s.2.1) : dlv s p = .tuple #[.int .i64 ((p - s.1) % s.2.2.length), .int .u64 ((p - s.1) / s.2.2.length), .bool true] := if_pos h

set_option maxHeartbeats 2000000 in
theorem dealt_any (P : Nat → Prop) (f t : Int) (A : Option Addr) (n m : Nat) (S : List (List Int)) (p : Int) (w : World) (hz : Sts w P A n S) (hm : n ≤ m) (hn : n ≤ 1000000) (hlen : ∀ l ∈ S, l.length ≤ 1000000) (f0 : 0 ≤ f) (p0 : 0 ≤ p) (p1 : p < 18446744073709551616) :
    Calls Try.prog 28 #[stagg f t A n m, .int .u64 p] w (BPost (dlv (f, t, S) p) w) := by
  have hX := Blk.new w (stc f t A n m) 39
  have hb := below_one w (.cells (stc f t A n m) 39)
  have hrcon := stright_any P f t A n m S _ (hz.below hb) hm hn hlen
  have HNO := Lib.hid (dlv_no (s := (f, t, S)) (p := p))
  have HYES := Lib.hid (dlv_yes (s := (f, t, S)) (p := p))
  have HPT := Lib.hid (stok_parts (s := (f, t, S)))
  have HL := Lib.hid hz.1
  unfold BPost at hrcon ⊢
  generalize dlv (f, t, S) p = V at *
  generalize stok (f, t, S) = ok at *
  obtain ⟨x0, x1, x2⟩ := hX.c3
  clear hz hlen
  go_enter Try.func28, Try.ntmps28
  go_wp2_with fail
  refine hrcon.mono ?_
  rintro e w1 ⟨rfl, hb1⟩
  replace hX := hX.below hb1
  replace hb := hb.trans (hb1.mono hb.size)
  clear hrcon hb1 x0 x1 x2
  obtain ⟨x0, x1, x2⟩ := hX.c3
  cases ok
  · have HV := Lib.hid (HNO.out (fun h => by have := h.1; cases this))
    go_wp2
    refine bodyPost_ret (v := .tuple #[.int .i64 0, .int .u64 0, .bool false]) (by simp [results, Try.results28, go_sem]) rfl ⟨by rw [HV.out], hb⟩
  obtain ⟨k1, k2, k3, k4, _⟩ := HPT.out rfl
  replace k1 : f < t := k1
  replace k2 : t ≤ 4611686018427387904 := k2
  replace k3 : 1 ≤ n := by rw [← HL.out]; exact k3
  replace k4 : n ≤ 8 := by rw [← HL.out]; exact k4
  by_cases h1 : p < f
  · have HV := Lib.hid (HNO.out (fun h => by have := h.2.1; omega))
    go_wp2
    refine bodyPost_ret (v := .tuple #[.int .i64 0, .int .u64 0, .bool false]) (by simp [results, Try.results28, go_sem]) rfl ⟨by rw [HV.out], hb⟩
  by_cases h2 : t ≤ p
  · have HV := Lib.hid (HNO.out (fun h => by have := h.2.2; omega))
    go_wp2
    refine bodyPost_ret (v := .tuple #[.int .i64 0, .int .u64 0, .bool false]) (by simp [results, Try.results28, go_sem]) rfl ⟨by rw [HV.out], hb⟩
  have HV := Lib.hid (HYES.out ⟨rfl, by show f ≤ p; omega, by show p < t; omega⟩)
  have e1 : IntKind.u64.wrap (n : Int) = n := IntWalk.u64_in _ (by omega)
  have e2 : IntKind.u64.wrap (p - f) = p - f := IntWalk.u64_in _ (by omega)
  have hn0 : ¬ n = 0 := by omega
  obtain ⟨d, hd⟩ : ∃ d, d = p - f := ⟨_, rfl⟩
  have e2' : IntKind.u64.wrap (p - f) = d := by rw [hd]; exact e2
  have hd0 : 0 ≤ d ∧ d < 4611686018427387904 := by omega
  have hV2 : V = .tuple #[.int .i64 (d % (n : Int)), .int .u64 (d / (n : Int)), .bool true] := by rw [HV.out, hd, ← HL.out]
  have q1 : IntKind.u64.wrap (d.tdiv (n : Int)) = d / n := IntWalk.u64_quo _ _ (by omega)
  have q2 : d.tmod (n : Int) = d % n := IntWalk.rem_in _ _ hd0.1
  have q3 := Int.emod_nonneg d (show (n : Int) ≠ 0 by omega)
  have q4 := Int.emod_lt_of_pos d (show (0 : Int) < n by omega)
  have q5 := Int.ediv_nonneg hd0.1 (show (0 : Int) ≤ n by omega)
  obtain ⟨r, hr⟩ : ∃ r, r = d % (n : Int) := ⟨_, rfl⟩
  obtain ⟨u, hu⟩ : ∃ u, u = d / (n : Int) := ⟨_, rfl⟩
  rw [← hr] at q2 q3 q4 hV2
  rw [← hu] at q1 hV2 q5
  have q6 : IntKind.u64.wrap r = r := IntWalk.u64_in _ (by omega)
  have q7 : IntKind.i64.wrap r = r := IntWalk.i64_in _ (by omega)
  have HVV := Lib.hid hV2
  clear e2 hd hr hu hV2 HV HYES HNO HPT
  go_wp2
  clear x0 x1 x2
  refine Seq.wp_region_seq (fun w' => Below w.heap.size w w') (by kernel_rfl) (by kernel_rfl) (hb.trans ((below_one' _).mono hb.size)) ?_
  repeat (first | (refine Seq.Seq.skip (by rfl) ?_; (try simp only [Act.put, List.setIfInBounds_toArray, List.set_cons_zero, List.set_cons_succ])) | (refine Seq.Seq.det ?_ (by rfl) (fun w hS => ?_) ?_; rotate_left; ((try dsimp only at hS); go_simp; (try rw [if_pos (by omega)]); with_reducible rfl); (try simp only [Act.put, List.setIfInBounds_toArray, List.set_cons_zero, List.set_cons_succ])))
  refine Seq.Seq.nil ?_
  go_wp2
  refine bodyPost_ret (v := .tuple #[.int .i64 r, .int .u64 u, .bool true]) (by simp [results, Try.results28, go_sem]) rfl ⟨by rw [HVV.out], hb.trans ((below_one' _).mono hb.size)⟩

/-- What Share tells. -/
def shv (s : Stp) (x : Int) : Int := if stok s = true ∧ 0 ≤ x ∧ x < s.2.2.length then (shr (s.2.1 - s.1).toNat s.2.2.length x.toNat : Nat) else 0
theorem shv_no {s : Stp} {x : Int} (h : ¬ (stok s = true ∧ 0 ≤ x ∧ x < s.2.2.length)) : shv s x = 0 := if_neg h
theorem shv_yes {s : Stp} {x : Int} (h : stok s = true ∧ 0 ≤ x ∧ x < s.2.2.length) : shv s x = (shr (s.2.1 - s.1).toNat s.2.2.length x.toNat : Nat) := if_pos h
theorem shr_int {d x : Int} {n : Nat} (hd : 0 ≤ d) (hx : 0 ≤ x) (hxn : x < n) : ((shr d.toNat n x.toNat : Nat) : Int) = d / n + (if x < d % n then 1 else 0) := by
  obtain ⟨a, rfl⟩ := Int.eq_ofNat_of_zero_le hd
  obtain ⟨b, rfl⟩ := Int.eq_ofNat_of_zero_le hx
  rw [Int.toNat_natCast, Int.toNat_natCast, ← shr_div (by omega)]
  by_cases h : b < a % n
  · rw [if_pos h, if_pos (by omega)]; push_cast; rfl
  · rw [if_neg h, if_neg (by omega)]; push_cast; rfl

set_option maxHeartbeats 2000000 in
theorem share_any (P : Nat → Prop) (f t : Int) (A : Option Addr) (n m : Nat) (S : List (List Int)) (x : Int) (w : World) (hz : Sts w P A n S) (hm : n ≤ m) (hn : n ≤ 1000000) (hlen : ∀ l ∈ S, l.length ≤ 1000000) (f0 : 0 ≤ f) (hx0 : -9223372036854775808 ≤ x) (hx1 : x < 9223372036854775808) :
    Calls Try.prog 37 #[stagg f t A n m, .int .i64 x] w (BPost (.int .u64 (shv (f, t, S) x)) w) := by
  have hX := Blk.new w (stc f t A n m) 39
  have hb := below_one w (.cells (stc f t A n m) 39)
  have hrcon := stright_any P f t A n m S _ (hz.below hb) hm hn hlen
  have HNO := Lib.hid (shv_no (s := (f, t, S)) (x := x))
  have HYES := Lib.hid (shv_yes (s := (f, t, S)) (x := x))
  have HPT := Lib.hid (stok_parts (s := (f, t, S)))
  have HL := Lib.hid hz.1
  unfold BPost at hrcon ⊢
  generalize shv (f, t, S) x = V at *
  generalize stok (f, t, S) = ok at *
  obtain ⟨x0, x1, x2⟩ := hX.c3
  clear hz hlen
  go_enter Try.func37, Try.ntmps37
  go_wp2_with fail
  refine hrcon.mono ?_
  rintro e w1 ⟨rfl, hb1⟩
  replace hX := hX.below hb1
  replace hb := hb.trans (hb1.mono hb.size)
  clear hrcon hb1 x0 x1 x2
  obtain ⟨x0, x1, x2⟩ := hX.c3
  cases ok
  · have HV := Lib.hid (HNO.out (fun h => by have := h.1; cases this))
    go_wp2
    go_ret
    exact ⟨by rw [HV.out]; rfl, hb⟩
  obtain ⟨k1, k2, k3, k4, _⟩ := HPT.out rfl
  replace k1 : f < t := k1
  replace k2 : t ≤ 4611686018427387904 := k2
  replace k3 : 1 ≤ n := by rw [← HL.out]; exact k3
  replace k4 : n ≤ 8 := by rw [← HL.out]; exact k4
  by_cases h1 : x < 0
  · have HV := Lib.hid (HNO.out (fun h => by have := h.2.1; omega))
    go_wp2
    go_ret
    exact ⟨by rw [HV.out]; rfl, hb⟩
  by_cases h2 : (n : Int) ≤ x
  · have HV := Lib.hid (HNO.out (fun h => by have h9 : x < (S.length : Int) := h.2.2; rw [HL.out] at h9; omega))
    go_wp2
    go_ret
    exact ⟨by rw [HV.out]; rfl, hb⟩
  have hV : V = (t - f) / n + (if x < (t - f) % n then 1 else 0) := by
    have h9 := HYES.out ⟨rfl, by omega, by rw [HL.out]; omega⟩
    rw [HL.out] at h9
    rw [h9]
    exact shr_int (by show 0 ≤ t - f; omega) (by omega) (by omega)
  have e1 : IntKind.u64.wrap (n : Int) = n := IntWalk.u64_in _ (by omega)
  have hn0 : ¬ n = 0 := by omega
  have e4 : IntKind.u64.wrap x = x := IntWalk.u64_in _ (by omega)
  have hpos := fun w' => positions_any f t A n m w' f0 (by omega) k2
  unfold BPost at hpos
  obtain ⟨d, hd⟩ : ∃ d, d = t - f := ⟨_, rfl⟩
  rw [← hd] at hpos hV
  have hd0 : 0 ≤ d ∧ d ≤ 4611686018427387904 := by omega
  have q1 : IntKind.u64.wrap (d.tdiv (n : Int)) = d / n := IntWalk.u64_quo _ _ (by omega)
  have q2 : d.tmod (n : Int) = d % n := IntWalk.rem_in _ _ hd0.1
  have q3 := Int.emod_nonneg d (show (n : Int) ≠ 0 by omega)
  have q4 := Int.emod_lt_of_pos d (show (0 : Int) < n by omega)
  have q5 := Int.ediv_nonneg hd0.1 (show (0 : Int) ≤ n by omega)
  have q8 := Int.ediv_le_self (n : Int) hd0.1
  obtain ⟨r, hr⟩ : ∃ r, r = d % (n : Int) := ⟨_, rfl⟩
  obtain ⟨u, hu⟩ : ∃ u, u = d / (n : Int) := ⟨_, rfl⟩
  rw [← hr] at q2 q3 q4 hV
  rw [← hu] at q1 hV q5 q8
  have q6 : IntKind.u64.wrap r = r := IntWalk.u64_in _ (by omega)
  have q7 : IntKind.u64.wrap (u + 1) = u + 1 := IntWalk.u64_in _ (by omega)
  have HVV := Lib.hid hV
  have hS : Blk w1.drew w.heap.size (stc f t A n m) 39 := hX
  have hbw := hb.trans ((below_one' w1).mono hb.size)
  have L : ∀ w', Blk w' w.heap.size (stc f t A n m) 39 → w'.cell? ⟨w.heap.size, 0, none⟩ = some (.int .u64 f) ∧ w'.cell? ⟨w.heap.size, 1, none⟩ = some (.int .u64 t) ∧ w'.cell? ⟨w.heap.size, 2, none⟩ = some (.slice A n m) := fun w' h => h.c3
  clear hd hr hu hV HYES HNO HPT hX hb
  go_wp2
  clear x0 x1 x2
  refine Seq.wp_region_seq (fun w' => Blk w' w.heap.size (stc f t A n m) 39) (by kernel_rfl) (by kernel_rfl) hS ?_
  repeat (first | (refine Seq.Seq.skip (by rfl) ?_; (try simp only [Act.put, List.setIfInBounds_toArray, List.set_cons_zero, List.set_cons_succ])) | (refine Seq.Seq.det ?_ (by rfl) (fun w hS => ?_) ?_; rotate_left; ((try dsimp only at hS); go_simp; (try rw [if_pos (by omega)]); with_reducible rfl); (try simp only [Act.put, List.setIfInBounds_toArray, List.set_cons_zero, List.set_cons_succ])))
  refine Seq.Seq.make (by rfl) (by rfl) (fun K Q' hK => ?_)
  go_simp
  go_at_call 50
  refine (hpos _).mono ?_
  rintro e w2 ⟨rfl, hb2⟩
  replace hS := hS.below hb2
  replace hbw := hbw.trans (hb2.mono hbw.size)
  refine hK.out _ _ (hS) ?_
  clear hK K
  try simp only [Act.put, List.setIfInBounds_toArray, List.set_cons_zero, List.set_cons_succ]
  repeat (first | (refine Seq.Seq.skip (by rfl) ?_; (try simp only [Act.put, List.setIfInBounds_toArray, List.set_cons_zero, List.set_cons_succ])) | (refine Seq.Seq.det ?_ (by rfl) (fun w hS => ?_) ?_; rotate_left; ((try dsimp only at hS); go_simp; (try rw [if_pos (by omega)]); with_reducible rfl); (try simp only [Act.put, List.setIfInBounds_toArray, List.set_cons_zero, List.set_cons_succ])))
  refine Seq.Seq.make (by rfl) (by rfl) (fun K Q' hK => ?_)
  go_simp
  go_at_call 50
  refine (hpos _).mono ?_
  rintro e w3 ⟨rfl, hb3⟩
  replace hS := hS.below hb3
  replace hbw := hbw.trans (hb3.mono hbw.size)
  refine hK.out _ _ (hS) ?_
  clear hK K
  try simp only [Act.put, List.setIfInBounds_toArray, List.set_cons_zero, List.set_cons_succ]
  repeat (first | (refine Seq.Seq.skip (by rfl) ?_; (try simp only [Act.put, List.setIfInBounds_toArray, List.set_cons_zero, List.set_cons_succ])) | (refine Seq.Seq.det ?_ (by rfl) (fun w hS => ?_) ?_; rotate_left; ((try dsimp only at hS); go_simp; (try rw [if_pos (by omega)]); with_reducible rfl); (try simp only [Act.put, List.setIfInBounds_toArray, List.set_cons_zero, List.set_cons_succ])))
  refine Seq.Seq.nil ?_
  clear hb2 hb3 hpos L hS
  by_cases hxr : x < r
  · have HV2 : Hid (V = u + 1) := Lib.hid (by rw [HVV.out, if_pos hxr])
    go_wp2
    go_ret
    exact ⟨by rw [HV2.out]; rfl, hbw⟩
  · have HV2 : Hid (V = u) := Lib.hid (by rw [HVV.out, if_neg hxr, Int.add_zero])
    go_wp2
    go_ret
    exact ⟨by rw [HV2.out]; rfl, hbw⟩

/-- What Back tells. -/
def bkv (s : Stp) (x l : Int) : Value := if l < shv s x then .tuple #[.int .u64 (s.1 + l * s.2.2.length + x), .bool true] else .tuple #[.int .u64 0, .bool false]
theorem shv_pos {s : Stp} {x l : Int} (h : l < shv s x) (hl : 0 ≤ l) : stok s = true ∧ 0 ≤ x ∧ x < s.2.2.length ∧ l * s.2.2.length + x < s.2.1 - s.1 := by
  by_cases hc : stok s = true ∧ 0 ≤ x ∧ x < s.2.2.length
  · obtain ⟨h1, h2, h3⟩ := hc
    rw [shv_yes ⟨h1, h2, h3⟩] at h
    obtain ⟨a, rfl⟩ := Int.eq_ofNat_of_zero_le hl
    obtain ⟨b, rfl⟩ := Int.eq_ofNat_of_zero_le h2
    have := (shr_iff (n := (s.2.1 - s.1).toNat) (m := s.2.2.length) (s := ((b : Int)).toNat) (l := a) (by omega)).1 (by omega)
    refine ⟨h1, h2, h3, ?_⟩
    have e : ((a * s.2.2.length : Nat) : Int) = (a : Int) * s.2.2.length := by push_cast; rfl
    omega
  · rw [shv_no hc] at h; omega
set_option maxHeartbeats 2000000 in
theorem back_any (P : Nat → Prop) (f t : Int) (A : Option Addr) (n m : Nat) (S : List (List Int)) (x l : Int) (w : World) (hz : Sts w P A n S) (hm : n ≤ m) (hn : n ≤ 1000000) (hlen : ∀ l ∈ S, l.length ≤ 1000000) (f0 : 0 ≤ f) (hx0 : -9223372036854775808 ≤ x) (hx1 : x < 9223372036854775808) (l0 : 0 ≤ l) (l1 : l < 18446744073709551616) :
    Calls Try.prog 32 #[stagg f t A n m, .int .i64 x, .int .u64 l] w (BPost (bkv (f, t, S) x l) w) := by
  have hX := Blk.new w (stc f t A n m) 39
  have hb := below_one w (.cells (stc f t A n m) 39)
  have hcon := share_any P f t A n m S x _ (hz.below hb) hm hn hlen f0 hx0 hx1
  have HL := Lib.hid hz.1
  unfold BPost at hcon ⊢
  have HP := Lib.hid (fun h => shv_pos (s := (f, t, S)) (x := x) (l := l) h l0)
  have HV : Hid (bkv (f, t, S) x l = if l < shv (f, t, S) x then .tuple #[.int .u64 (f + l * n + x), .bool true] else .tuple #[.int .u64 0, .bool false]) := Lib.hid (by unfold bkv; rw [← HL.out])
  have HPT := Lib.hid (fun h => stok_parts (s := (f, t, S)) h)
  generalize bkv (f, t, S) x l = V at *
  generalize shv (f, t, S) x = y at *
  obtain ⟨x0, x1, x2⟩ := hX.c3
  clear hz hlen
  go_enter Try.func32, Try.ntmps32
  go_wp2_with fail
  refine hcon.mono ?_
  rintro e w1 ⟨rfl, hb1⟩
  replace hX := hX.below hb1
  replace hb := hb.trans (hb1.mono hb.size)
  clear hcon hb1 x0 x1 x2
  obtain ⟨x0, x1, x2⟩ := hX.c3
  by_cases hly : y ≤ l
  · have HVV : Hid (V = .tuple #[.int .u64 0, .bool false]) := Lib.hid (by rw [HV.out, if_neg (by omega)])
    go_wp2
    go_ret2
    exact ⟨by rw [HVV.out]; rfl, hb⟩
  · have HVV : Hid (V = .tuple #[.int .u64 (f + l * n + x), .bool true]) := Lib.hid (by rw [HV.out, if_pos (by omega)])
    obtain ⟨k0, k1, k2, k3⟩ := HP.out (by omega)
    obtain ⟨j1, j2, j3, j4, _⟩ := HPT.out k0
    replace j2 : t ≤ 4611686018427387904 := j2
    replace j4 : n ≤ 8 := by rw [← HL.out]; exact j4
    replace k2 : x < n := by rw [← HL.out]; exact k2
    replace k3 : l * n + x < t - f := by rw [← HL.out]; exact k3
    have hmul : 0 ≤ l * (n : Int) := Int.mul_nonneg l0 (by omega)
    have e1 : IntKind.u64.wrap (n : Int) = n := IntWalk.u64_in _ (by omega)
    have e2 : IntKind.u64.wrap x = x := IntWalk.u64_in _ (by omega)
    obtain ⟨d, hd⟩ : ∃ d, d = l * (n : Int) := ⟨_, rfl⟩
    rw [← hd] at hmul k3 HVV
    have e3 : IntKind.u64.wrap (l * (n : Int)) = d := by rw [← hd]; exact IntWalk.u64_in _ (by omega)
    have e4 : IntKind.u64.wrap (f + d) = f + d := IntWalk.u64_in _ (by omega)
    have e5 : IntKind.u64.wrap (f + d + x) = f + d + x := IntWalk.u64_in _ (by omega)
    clear hd j1 j2 j3 j4 k0 HV HP HPT
    go_wp2
    go_ret2
    exact ⟨by rw [HVV.out]; rfl, hb⟩

set_option maxHeartbeats 2000000 in
theorem stset_any (P : Nat → Prop) (f t : Int) (A : Option Addr) (n m : Nat) (S : List (List Int)) (x : Int) (w : World) (hz : Sts w P A n S) (hm : n ≤ m) (hn : n ≤ 1000000) (hlen : ∀ l ∈ S, l.length ≤ 1000000) :
    Calls Try.prog 36 #[stagg f t A n m, .int .u64 x] w (BPost (if stok (f, t, S) = true then hlv S x else .tuple #[.int .i64 0, .bool false]) w) := by
  have hX := Blk.new w (stc f t A n m) 39
  have hb := below_one w (.cells (stc f t A n m) 39)
  have hrcon := stright_any P f t A n m S _ (hz.below hb) hm hn hlen
  have HH := Lib.hid (fun w' (h : Below w.heap.size w w') => holder_any P A n m S x w' (hz.below h) hn hlen)
  unfold BPost at hrcon ⊢
  obtain ⟨i, hi⟩ : ∃ i, hlv S x = .tuple #[.int .i64 i, .bool (decide (0 ≤ hli S x))] := ⟨_, rfl⟩
  rw [hi] at HH ⊢
  generalize decide (0 ≤ hli S x) = bv at *
  generalize stok (f, t, S) = ok at *
  obtain ⟨x0, x1, x2⟩ := hX.c3
  clear hz hlen hi
  go_enter Try.func36, Try.ntmps36
  go_wp2_with fail
  refine hrcon.mono ?_
  rintro e w1 ⟨rfl, hb1⟩
  replace hX := hX.below hb1
  replace hb := hb.trans (hb1.mono hb.size)
  clear hrcon hb1 x0 x1 x2
  obtain ⟨x0, x1, x2⟩ := hX.c3
  cases ok
  · go_wp2
    go_ret2
    exact ⟨rfl, hb⟩
  · have hcon := HH.out w1 hb
    unfold BPost at hcon
    go_wp2_with fail
    refine hcon.mono ?_
    rintro e w2 ⟨rfl, hb2⟩
    replace hb := hb.trans (hb2.mono hb.size)
    clear hcon hb2 x0 x1 x2 hX
    go_wp2
    go_ret2
    exact ⟨rfl, hb⟩
end Go.Proofs.Ytmcabaebdloakaa.Cur

namespace Go.Proofs.Ytmcabaebdloakaa.Cur
open Go.RowKit Mem Go.ChangeShapes Go.WideShapes
set_option linter.unusedVariables false
set_option maxRecDepth 100000


theorem opens_sets : Opens (SlE (SlE U64E)) 37 := opens_slice Try.underlying37 (by kernel_rfl) (by decide) (opens_slice Try.underlying30 (by kernel_rfl) (by decide) (opens_u64 Try.underlying22))
theorem opens_stripe : Opens (PrE U64E (PrE U64E (SlE (SlE U64E)))) 39 := opens_three Try.underlying39 rfl rfl rfl (by kernel_rfl) (by kernel_rfl) (by kernel_rfl) (by kernel_rfl) (opens_u64 Try.underlying22) (opens_u64 Try.underlying22) opens_sets
theorem Sts.bds {w : World} {P : Nat → Prop} {A : Option Addr} {n : Nat} {S : List (List Int)} (h : Sts w P A n S) : sbds S := by
  intro l hl x hx
  obtain ⟨k, hk, e⟩ := List.mem_iff_getElem.1 hl
  obtain ⟨cs, h1, _⟩ := h.2
  obtain ⟨c, ⟨a, m, _, _, _, hsq⟩, _⟩ := h1.at_ k l (by rw [List.getElem?_eq_getElem hk, e])
  exact hsq.us.2 x hx
/-- What a stripe's cells are. -/
theorem stripe_parts {w : World} {P : Nat → Prop} {c : List Value} {s : Stp} (h : (PrE U64E (PrE U64E (SlE (SlE U64E)))).R w P c s) :
    ∃ A m, c = [.int .u64 s.1, .int .u64 s.2.1, .slice A s.2.2.length m] ∧ (0 ≤ s.1 ∧ s.1 < 18446744073709551616) ∧ (0 ≤ s.2.1 ∧ s.2.1 < 18446744073709551616) ∧ s.2.2.length ≤ m ∧ (A = none → m = 0) ∧ Sts w P A s.2.2.length s.2.2 := by
  obtain ⟨d, e, rfl, ⟨rfl, b0⟩, d2, e2, rfl, ⟨rfl, b1⟩, A, m, rfl, h1, h2, h3⟩ := h
  exact ⟨A, m, rfl, b0, b1, h1, h2, rfl, h3⟩
section
variable {H : Type} {enc : TypeId × Value → H} {w : World} {base : Nat} {v : Value} {d : DataW H} {p : List MemPlace}
theorem open_stripe (g : Value.okWide Try.prog w .any base 39 v) (h : DataW.Trod enc Try.prog w 0 (fun _ => true) true 39 v d p) :
    ∃ f t A n m S, v = stagg f t A n m ∧ (0 ≤ f ∧ f < 18446744073709551616) ∧ (0 ≤ t ∧ t < 18446744073709551616) ∧ n ≤ m ∧ (A = none → m = 0) ∧ Sts w (fun b => b < w.heap.size) A n S := by
  obtain ⟨cs, s, rfl, hs⟩ := open_st Try.underlying39 opens_stripe g h
  obtain ⟨A, m, e, b0, b1, h1, h2, h3⟩ := stripe_parts hs
  refine ⟨s.1, s.2.1, A, s.2.2.length, m, s.2.2, ?_, b0, b1, h1, h2, h3.mono fun b _ hb => hb⟩
  rw [show cs = cs.toList.toArray by simp, e]
end

def LgPost (n : Nat) (S : List (List Int)) (w : World) (e : Ending) (w' : World) : Prop := ∃ b, e = .returned (.bool b) ∧ Below w.heap.size w w' ∧ (b = false → n ≤ 20 ∧ ∀ l ∈ S, l.length ≤ 20)
set_option maxHeartbeats 2000000 in
theorem long19_any (P : Nat → Prop) (f t : Int) (A : Option Addr) (n m : Nat) (S : List (List Int)) (w : World) (hz : Sts w P A n S) :
    Calls Try.prog 24 #[stagg f t A n m] w (LgPost n S w) := by
  have hX := Blk.new w (stc f t A n m) 39
  have hb := below_one w (.cells (stc f t A n m) 39)
  have HL := Lib.hid hz.1
  have HC := Lib.hid (fun h => (hz.below hb).cells h)
  have HX := Lib.hid hX
  obtain ⟨x0, x1, x2⟩ := hX.c3
  clear hz hX
  go_enter Try.func24, Try.ntmps24
  go_wp2
  clear x0 x1 x2
  generalize w.alloc (.cells (stc f t A n m) 39) = w0 at *
  go_loopw [3] (fun i wr => ∃ k : Nat, k ≤ n ∧ k ≤ 20 ∧ i = .int .i64 k ∧ Hid (∀ j, j < k → (S.getD j []).length ≤ 20) ∧ Below w0.heap.size w0 wr) (fun i _ => 20 - (intOf i).toNat)
  case atStart => exact ⟨0, by omega, by omega, rfl, Lib.hid (by intro j hj; omega), Below.refl _ _⟩
  case round =>
    obtain ⟨k, hk, hk20, rfl, hj, hb0⟩ := hrel
    obtain ⟨x0, x1, x2⟩ := (HX.out.below hb0).c3
    have hbd := hb.trans (hb0.mono hb.size)
    by_cases hlt : k < n
    · have e1 : (k : Int) < n := by omega
      by_cases h20 : k < 20
      · have e2 : (k : Int) < 20 := by omega
        obtain ⟨g, o, rfl, _, hg, hc⟩ := HC.out (by omega)
        obtain ⟨a, l, mm, hl, hlm, han, hus, _, _, hcell⟩ := hc k hlt
        have c0 := hcell wr hb0
        have HLL := Lib.hid hl
        have e3 : IntKind.i64.wrap ((k : Int) + 1) = ((k + 1 : Nat) : Int) := IntWalk.i64_in _ (by omega)
        clear hc hl hus hcell han
        by_cases hl2 : 20 < (l : Int)
        · go_wp2
          go_ret
          exact ⟨true, rfl, hbd, fun h => by cases h⟩
        · have HL3 : Hid (l ≤ 20) := Lib.hid (by omega)
          go_wp2
          go_roundw
          case rel => exact ⟨k + 1, by omega, by omega, by go_num, Lib.hid (fun j hjk => by
            rcases Nat.lt_or_ge j k with h | h
            · exact hj.out j h
            · obtain rfl : j = k := by omega
              rw [HLL.out]; exact HL3.out), hb0⟩
          case measure => simp [intOf]; omega
      · have e2 : ¬ (k : Int) < 20 := by omega
        have e3 : 20 < (n : Int) := by omega
        go_wp2
        go_ret
        exact ⟨true, rfl, hbd, fun h => by cases h⟩
    · obtain rfl : k = n := by omega
      have e3 : ¬ 20 < (k : Int) := by omega
      have HN : Hid (∀ l ∈ S, l.length ≤ 20) := Lib.hid fun l hl => by
        obtain ⟨j, hj2, e⟩ := List.mem_iff_getElem.1 hl
        have := hj.out j (by rw [← HL.out]; exact hj2)
        rw [List.getD_eq_getElem?_getD, List.getElem?_eq_getElem hj2, Option.getD_some, e] at this
        exact this
      go_wp2
      go_ret
      exact ⟨false, rfl, hbd, fun _ => ⟨hk20, HN.out⟩⟩

end Go.Proofs.Ytmcabaebdloakaa.Cur

namespace Go.Proofs.Ytmcabaebdloakaa.Cur
open Go.RowKit Mem
set_option linter.unusedVariables false
set_option maxRecDepth 100000

theorem bk_deal {s : Stp} {p : Int} (hok : stok s = true) (h0 : s.1 ≤ p) (h1 : p < s.2.1) : bkv s ((p - s.1) % s.2.2.length) ((p - s.1) / s.2.2.length) = .tuple #[.int .u64 p, .bool true] := by
  obtain ⟨k1, k2, k3, k4, _⟩ := stok_parts hok
  obtain ⟨a, ha⟩ := Int.eq_ofNat_of_zero_le (show 0 ≤ p - s.1 by omega)
  have e1 : (p - s.1) % (s.2.2.length : Int) = ((a % s.2.2.length : Nat) : Int) := by rw [ha]; rfl
  have e2 : (p - s.1) / (s.2.2.length : Int) = ((a / s.2.2.length : Nat) : Int) := by rw [ha]; rfl
  have hlt := Nat.mod_lt a (show 0 < s.2.2.length by omega)
  unfold bkv
  rw [e1, e2, shv_yes ⟨hok, by omega, by omega⟩, Int.toNat_natCast]
  have := (deal_in (n := (s.2.1 - s.1).toNat) (m := s.2.2.length) (x := a) (by omega)).1 (by omega)
  rw [if_pos (by omega)]
  have h2 := deal_back (m := s.2.2.length) (x := a)
  have h3 : ((a / s.2.2.length : Nat) : Int) * (s.2.2.length : Int) + ((a % s.2.2.length : Nat) : Int) = (a : Int) := by rw [← Int.natCast_mul, ← Int.natCast_add, h2]
  rw [show s.1 + ((a / s.2.2.length : Nat) : Int) * (s.2.2.length : Int) + ((a % s.2.2.length : Nat) : Int) = p by omega]
theorem deal_bk {s : Stp} {p x : Int} (h : p < shv s x) (hp : 0 ≤ p) : dlv s (s.1 + p * s.2.2.length + x) = .tuple #[.int .i64 x, .int .u64 p, .bool true] := by
  obtain ⟨hok, h0, h1, h2⟩ := shv_pos h hp
  obtain ⟨a, rfl⟩ := Int.eq_ofNat_of_zero_le hp
  obtain ⟨b, rfl⟩ := Int.eq_ofNat_of_zero_le h0
  have hm : 0 ≤ (a : Int) * (s.2.2.length : Int) := Int.mul_nonneg (by omega) (by omega)
  rw [dlv_yes ⟨hok, by omega, by omega⟩]
  have e : s.1 + (a : Int) * s.2.2.length + b - s.1 = ((a * s.2.2.length + b : Nat) : Int) := by push_cast; omega
  obtain ⟨q1, q2⟩ := back_deal (m := s.2.2.length) (s := b) (l := a) (by omega)
  rw [e, ← Int.natCast_emod, ← Int.natCast_ediv, q1, q2]
theorem bkv_yes {s : Stp} {x l : Int} (h : l < shv s x) : bkv s x l = .tuple #[.int .u64 (s.1 + l * s.2.2.length + x), .bool true] := if_pos h
theorem bkv_no {s : Stp} {x l : Int} (h : ¬ l < shv s x) : bkv s x l = .tuple #[.int .u64 0, .bool false] := if_neg h
theorem shv_bad {s : Stp} {x : Int} (h : stok s = false) : shv s x = 0 := shv_no fun hh => by rw [h] at hh; cases hh.1
theorem shv_bd (s : Stp) (x : Int) (h0 : 0 ≤ s.1) (h1 : s.2.1 < 18446744073709551616) : 0 ≤ shv s x ∧ shv s x < 18446744073709551616 := by
  unfold shv
  split
  · rename_i h
    obtain ⟨k1, k2, k3, k4, _⟩ := stok_parts h.1
    have := shr_le (n := (s.2.1 - s.1).toNat) (m := s.2.2.length) (s := x.toNat) (by omega)
    omega
  · omega

set_option maxHeartbeats 1000000 in
theorem nodes_no (P : Nat → Prop) (f t : Int) (A : Option Addr) (n m : Nat) (S : List (List Int)) (w : World) (hz : Sts w P A n S) (hm : n ≤ m) (hn : n ≤ 1000000) (hlen : ∀ l ∈ S, l.length ≤ 1000000) (hok : stok (f, t, S) = false) :
    Calls Try.prog 33 #[stagg f t A n m] w (BPost (.slice none 0 0) w) := by
  have hX := Blk.new w (stc f t A n m) 39
  have hb := below_one w (.cells (stc f t A n m) 39)
  have hrcon := stright_any P f t A n m S _ (hz.below hb) hm hn hlen
  rw [hok] at hrcon
  unfold BPost at hrcon ⊢
  obtain ⟨x0, x1, x2⟩ := hX.c3
  clear hX hz hlen hok
  go_enter Try.func33, Try.ntmps33
  go_wp2_with fail
  refine hrcon.mono ?_
  rintro e w1 ⟨rfl, hb1⟩
  replace hb := hb.trans (hb1.mono hb.size)
  clear hrcon hb1 x0 x1 x2
  go_wp2
  go_ret
  exact ⟨rfl, hb⟩
end Go.Proofs.Ytmcabaebdloakaa.Cur
