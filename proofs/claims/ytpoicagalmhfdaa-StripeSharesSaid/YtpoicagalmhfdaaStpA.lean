/- Stripes: where the sets lie; is a node in a list, in a set, in two sets: by the program. -/
import Derived.Test.YtpoicagalmhfdaaNst
import Derived.Test.YtpoicagalmhfdaaStpS
import Derived.Test.YtpoicagalmhfdaaK5
import Derived.Test.YtpoicagalmhfdaaK1
import Derived.IntWalk
namespace Go.Proofs.Ytpoicagalmhfdaa.Cur
open Go.RowKit Mem
set_option linter.unusedVariables false
set_option maxRecDepth 100000


/-- n sets at an address, read in blocks of P alone. -/
def Sts (w : World) (P : Nat → Prop) (A : Option Addr) (n : Nat) (S : List (List Int)) : Prop := S.length = n ∧ Sq (SlE U64E) w P A S
theorem Sts.keep {w w' : World} {P : Nat → Prop} {A : Option Addr} {n : Nat} {S : List (List Int)} (h : Sts w P A n S) (hk : ∀ b, P b → b < w.heap.size → w'.heap[b]? = w.heap[b]?) : Sts w' P A n S := ⟨h.1, h.2.keep hk⟩
theorem Sts.mono {w : World} {P Q : Nat → Prop} {A : Option Addr} {n : Nat} {S : List (List Int)} (h : Sts w P A n S) (hq : ∀ b, P b → b < w.heap.size → Q b) : Sts w Q A n S := ⟨h.1, h.2.mono hq⟩
theorem Sts.below {w w' : World} {P : Nat → Prop} {A : Option Addr} {n : Nat} {S : List (List Int)} (h : Sts w P A n S) (hb : Below w.heap.size w w') : Sts w' P A n S := ⟨h.1, h.2.below hb⟩
theorem Sts.cells {w : World} {P : Nat → Prop} {A : Option Addr} {n : Nat} {S : List (List Int)} (h : Sts w P A n S) (hn : n ≠ 0) :
    ∃ g o, A = some ⟨g, o, none⟩ ∧ P g ∧ g < w.heap.size ∧ ∀ k, k < n → ∃ a l m, (S.getD k []).length = l ∧ l ≤ m ∧ (a = none → m = 0) ∧ Us w a l (S.getD k []) ∧ (0 < l → ∀ ad, a = some ad → P ad.block) ∧ (∀ x ∈ S.getD k [], 0 ≤ x ∧ x < 18446744073709551616) ∧
      ∀ w', Below w.heap.size w w' → w'.cell? ⟨g, o + k, none⟩ = some (.slice a l m) := by
  obtain ⟨rfl, h⟩ := h
  obtain ⟨g, o, c, e, hP, hg, _⟩ := h.at_ (i := 0) (by decide) (List.getElem?_eq_getElem (Nat.pos_of_ne_zero hn))
  refine ⟨g, o, e, hP, hg, fun k hk => ?_⟩
  obtain ⟨g', o', c', e', hP', hg', ⟨a, m, hc, h1, h2, h3⟩, hcell⟩ := h.at_ (i := k) (by decide) (List.getElem?_eq_getElem hk)
  rw [e] at e'
  injection e' with e'
  injection e' with e1 e2
  subst e1 e2
  have hS : S.getD k [] = S[k] := by rw [List.getD_eq_getElem?_getD, List.getElem?_eq_getElem hk]; rfl
  rw [hS]
  obtain ⟨u1, u2⟩ := h3.us
  refine ⟨a, _, m, rfl, h1, h2, u1, fun hl ad ha => ?_, u2, fun w' hb => ?_⟩
  · obtain ⟨cs, c1, c2⟩ := h3
    obtain ⟨k', o', e2, hPk, _⟩ := c2 (by rw [c1.flat]; exact Nat.mul_pos hl (by decide))
    rw [e2] at ha
    injection ha with ha
    subst ha
    exact hPk
  have := hcell 0 _ (by rw [hc]; rfl)
  have e : o + k * (SlE U64E).k + 0 = o + k := by show o + k * 1 + 0 = o + k; omega
  rw [e] at this
  rw [← this]
  exact hb.cell (lt_of_cell this)
theorem RwP.sub {w : World} {P : Nat → Prop} {A : Option Addr} {xs ys : List Value} (h : RwP w P A (xs ++ ys)) : RwP w P A xs := fun hn => by
  obtain ⟨k, o, e, hP, hc⟩ := h (by rw [List.length_append]; omega)
  exact ⟨k, o, e, hP, fun i v hi => hc i v (by rw [List.getElem?_append_left (List.getElem?_eq_some_iff.1 hi).1]; exact hi)⟩
theorem Ch.take {α : Type} {E : El α} {w : World} {P : Nat → Prop} : ∀ {cs : List (List Value)} {xs : List α}, Ch E w P cs xs → ∀ k, Ch E w P (cs.take k) (xs.take k)
  | [], [], _, k => by rw [List.take_nil, List.take_nil]; trivial
  | c :: cs, x :: xs, h, 0 => trivial
  | c :: cs, x :: xs, h, k + 1 => ⟨h.1, Ch.take h.2 k⟩
  | [], _ :: _, h, _ => h.elim
  | _ :: _, [], h, _ => h.elim
/-- The first k of them. -/
theorem Sq.take {α : Type} {E : El α} {w : World} {P : Nat → Prop} {A : Option Addr} {xs : List α} (h : Sq E w P A xs) (k : Nat) : Sq E w P A (xs.take k) := by
  obtain ⟨cs, h1, h2⟩ := h
  refine ⟨cs.take k, h1.take k, ?_⟩
  have e : cs.flatten = (cs.take k).flatten ++ (cs.drop k).flatten := by rw [← List.flatten_append, List.take_append_drop]
  rw [e] at h2
  exact h2.sub

/-- Where a number is first in a list, or -1. -/
def ixo : List Int → Int → Int
  | [], _ => -1
  | y :: l, x => if y = x then 0 else if ixo l x < 0 then -1 else ixo l x + 1
theorem ixo_yes : ∀ (z : List Int) (x : Int) (k : Nat), k < z.length → z.getD k 0 = x → (∀ j, j < k → z.getD j 0 ≠ x) → ixo z x = k
  | [], _, _, h, _, _ => absurd h (by simp)
  | y :: l, x, 0, _, h, _ => by unfold ixo; rw [if_pos (by simpa using h)]; rfl
  | y :: l, x, k + 1, h, h1, h2 => by
    have ih := ixo_yes l x k (by simpa using h) (by simpa using h1) (fun j hj => by have := h2 (j + 1) (by omega); simpa using this)
    unfold ixo
    rw [if_neg (by have := h2 0 (by omega); simpa using this), ih, if_neg (by omega)]; push_cast; rfl
theorem ixo_no : ∀ (z : List Int) (x : Int), (∀ j, j < z.length → z.getD j 0 ≠ x) → ixo z x = -1
  | [], _, _ => rfl
  | y :: l, x, h => by
    have ih := ixo_no l x (fun j hj => by have := h (j + 1) (by simpa using hj); simpa using this)
    unfold ixo
    rw [if_neg (by have := h 0 (by simp); simpa using this), ih, if_pos (by decide)]
theorem ixo_bd : ∀ (z : List Int) (x : Int), -1 ≤ ixo z x ∧ ixo z x < z.length
  | [], _ => by unfold ixo; simp
  | y :: l, x => by
    have ih := ixo_bd l x
    unfold ixo
    rw [List.length_cons]
    split
    · omega
    · split <;> omega
theorem ixo_mem : ∀ (z : List Int) (x : Int), decide (0 ≤ ixo z x) = z.contains x
  | [], _ => by unfold ixo; simp
  | y :: l, x => by
    have ih := ixo_mem l x
    have hb := ixo_bd l x
    unfold ixo
    rw [List.contains_cons, ← ih]
    by_cases h : y = x
    · rw [if_pos h, h]; simp
    · rw [if_neg h]
      have : (x == y) = false := by simpa using fun e : x = y => h e.symm
      rw [this, Bool.false_or]
      split
      · rename_i h2; rw [decide_eq_false (by omega), decide_eq_false (by omega)]
      · rename_i h2; rw [decide_eq_true (by omega), decide_eq_true (by omega)]

theorem Sts.take {w : World} {P : Nat → Prop} {A : Option Addr} {n : Nat} {S : List (List Int)} (h : Sts w P A n S) {k : Nat} (hk : k ≤ n) : Sts w P A k (S.take k) := ⟨by rw [List.length_take, h.1]; omega, h.2.take k⟩

set_option maxHeartbeats 1000000 in
theorem sindex_any (A : Option Addr) (n m : Nat) (z : List Int) (x : Int) (w : World) (hz : Us w A n z) (hn : n ≤ 1000000) :
    Calls Try.prog 93 #[.slice A n m, .int .u64 x] w (BPost (.int .i64 (ixo z x)) w) := by
  unfold BPost
  have HL := Lib.hid hz.1
  have HC : Hid (n ≠ 0 → ∃ g o, A = some ⟨g, o, none⟩ ∧ g < w.heap.size ∧ ∀ w', Below w.heap.size w w' → ∀ k, k < n → w'.cell? ⟨g, o + k, none⟩ = some (.int .u64 (z.getD k 0))) := Lib.hid fun h => hz.cells (by omega)
  have HYES := Lib.hid (ixo_yes z x)
  have HNO := Lib.hid (ixo_no z x)
  generalize ixo z x = r at *
  clear hz
  go_enter Try.func93, Try.ntmps93
  go_wp2
  go_loopw [8] (fun i wr => ∃ k : Nat, k ≤ n ∧ i = .int .i64 k ∧ Hid (∀ j, j < k → z.getD j 0 ≠ x) ∧ Below w.heap.size w wr) (fun i _ => n - (intOf i).toNat)
  case atStart => exact ⟨0, by omega, rfl, Lib.hid (by intro j hj; omega), Below.refl _ _⟩
  case round =>
    obtain ⟨k, hk, rfl, hj, hb⟩ := hrel
    by_cases hlt : k < n
    · obtain ⟨g, o, rfl, hg, hc⟩ := HC.out (by omega)
      have c0 := hc wr hb k hlt
      obtain ⟨y, hy⟩ : ∃ y, y = z.getD k 0 := ⟨_, rfl⟩
      rw [← hy] at c0
      have HY := Lib.hid hy
      have e2 : (k : Int) < n := by omega
      have e3 : IntKind.i64.wrap ((k : Int) + 1) = ((k + 1 : Nat) : Int) := IntWalk.i64_in _ (by omega)
      clear hc hy
      by_cases he : x = y
      · have hb2 : (x == y) = true := by simpa using he
        have HR : Hid (r = k) := Lib.hid (HYES.out k (by rw [HL.out]; exact hlt) (by rw [← HY.out]; exact he.symm) hj.out)
        have HB := Lib.hid hb
        clear he hj hb
        go_wp2
        go_ret
        exact ⟨by rw [HR.out]; rfl, HB.out⟩
      · have hb2 : (x == y) = false := by simpa using he
        have HNE := Lib.hid he
        clear he
        go_wp2
        go_roundw
        case rel => exact ⟨k + 1, by omega, by go_num, Lib.hid (fun j hjk => by
          rcases Nat.lt_or_ge j k with h | h
          · exact hj.out j h
          · obtain rfl : j = k := by omega
            rw [← HY.out]; exact fun e => HNE.out e.symm), hb⟩
        case measure => simp [intOf]; omega
    · obtain rfl : k = n := by omega
      go_wp2
      go_ret
      exact ⟨by rw [HNO.out (fun j hj2 => hj.out j (by rw [HL.out] at hj2; exact hj2))]; rfl, hb⟩

theorem scontains_any (A : Option Addr) (n m : Nat) (z : List Int) (x : Int) (w : World) (hz : Us w A n z) (hn : n ≤ 1000000) :
    Calls Try.prog 75 #[.slice A n m, .int .u64 x] w (BPost (.bool (z.contains x)) w) := by
  unfold BPost
  have HV := Lib.hid (ixo_mem z x)
  have hcon := sindex_any A n m z x w hz hn
  unfold BPost at hcon
  generalize z.contains x = r at HV
  generalize ixo z x = i at HV hcon
  go_enter Try.func75, Try.ntmps75
  go_wp2_with fail
  refine hcon.mono ?_
  rintro e w' ⟨rfl, hb⟩
  go_wp2
  go_ret
  exact ⟨by rw [← HV.out]; rfl, hb⟩
end Go.Proofs.Ytpoicagalmhfdaa.Cur
